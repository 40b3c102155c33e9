/- The law EncWalks, called: whatever is taken of any bytes, the call returns true, and nothing that was there has changed. -/
import Derived.Test.YtmijbflgfbfbiaaEnds
import Derived.WalkKit
import Derived.WalkSpells
import Derived.WalkLawsBesides
import Derived.Deep.QuietTactic
import Derived.BigQuiet
import Derived.Deep.RegionWith
import Derived.Deep.DeepCutAuto
import Derived.Deep.CutBlock
import Derived.Lib.Strings
namespace Go.Proofs.Ytmijbflgfbfbiaa
open Go.RowKit
structure WInv (w W : World) (b d : Nat) (t : ByteArray) (o : Nat) (e : Int) : Prop where
  hb : Below w.heap.size w W
  hc : Cur W b t (o : Int) e
  hd : W.heap[d]? = some (.cells #[.string t, .int .i64 (o : Int), .int .i64 e] 36 (0, 0))
theorem WInv.later {w W W' : World} {b d : Nat} {t : ByteArray} {o : Nat} {e : Int} (H : WInv w W b d t o e) (h : Below W.heap.size W W') : WInv w W' b d t o e :=
  ⟨H.hb.trans (h.mono H.hb.size), H.hc.later h, (h.block d (lt_of_row H.hd)).trans H.hd⟩
theorem WInv.drewN {w W : World} {b d : Nat} {t : ByteArray} {o : Nat} {e : Int} (H : WInv w W b d t o e) (n : Nat) : WInv w (W.drewN n) b d t o e := ⟨below_drewN H.hb n, H.hc, H.hd⟩
theorem row3_set {W : World} {g : Nat} {x y z : Value} {ty : TypeId} (h : W.heap[g]? = some (.cells #[x, y, z] ty (0, 0))) (a b c : Value) :
    (((W.setCell ⟨g, 0, none⟩ a).setCell ⟨g, 1, none⟩ b).setCell ⟨g, 2, none⟩ c).heap[g]? = some (.cells #[a, b, c] ty (0, 0)) :=
  row_setCell (row_setCell (row_setCell h a) b) c
theorem WInv.done {w W w5 : World} {b d : Nat} {t : ByteArray} {o o' : Nat} {e e' : Int} (H : WInv w W b d t o e) (hwb : w.heap.size ≤ b) (hbd : b ≠ d) (hwd : w.heap.size ≤ d) (hk : Cur w5 b t (o' : Int) e') (ho : Only b W.drew w5) :
    WInv w (((w5.setCell ⟨d, 0, none⟩ (.string t)).setCell ⟨d, 1, none⟩ (.int .i64 (o' : Int))).setCell ⟨d, 2, none⟩ (.int .i64 e')) b d t o' e' := by
  have h5 : Below w.heap.size w w5 := H.hb.drew.trans (ho.below hwb H.hb.size)
  have r5 : w5.heap[d]? = some (.cells #[.string t, .int .i64 (o : Int), .int .i64 e] 36 (0, 0)) := (ho.block d (lt_of_row H.hd) (fun h => hbd h.symm)).trans H.hd
  refine ⟨below_set3 h5 hwd _ _ _, ?_, row3_set r5 _ _ _⟩
  show (((w5.setCell ⟨d, 0, none⟩ (.string t)).setCell ⟨d, 1, none⟩ (.int .i64 (o' : Int))).setCell ⟨d, 2, none⟩ (.int .i64 e')).heap[b]? = _
  rw [Below.heap_setCell _ _ _ b hbd, Below.heap_setCell _ _ _ b hbd, Below.heap_setCell _ _ _ b hbd]
  exact hk
set_option maxRecDepth 20000 in
set_option maxHeartbeats 10000000 in
theorem law_walks (s : ByteArray) (g p : Nat) (len cap : Nat) (hcap : len ≤ cap) (_hcm : cap ≤ maxLen) (w : World) (K N : Nat → Int) (ha : g < w.heap.size)
    (hK : ∀ i, i < len → w.cell? ⟨g, p + i * 2, none⟩ = some (.int .i64 (K i))) (hN : ∀ i, i < len → w.cell? ⟨g, p + i * 2 + 1, none⟩ = some (.int .i64 (N i))) (hN2 : ∀ i, i < len → N i < 9223372036854775808) :
    Calls Try.prog 6 #[.string s, .slice (some ⟨g, p, none⟩) len cap] w fun r w' => r = .returned (.bool true) ∧ Below w.heap.size w w' := by
  have hfe := fun W => few_any s W
  have ht := fewB_size s
  obtain ⟨t, hfew⟩ : ∃ t, fewB s = t := ⟨_, rfl⟩
  rw [hfew] at ht
  simp only [hfew] at hfe
  clear hfew
  go_enter Try.func6, Try.ntmps6
  go_wp2_with fail
  refine (hfe _).mono ?_
  rintro e0 w1 ⟨rfl, rfl⟩
  go_wp2_with fail
  refine (at_any _ _).mono ?_
  rintro e0 w2 ⟨rfl, rfl⟩
  go_wp2
  have inv0 : WInv w1 ((w1.alloc (.cells #[.string t, .int .i64 0, .int .i64 0] 61)).alloc (.cells #[.string t, .int .i64 0, .int .i64 0] 36)) w1.heap.size (w1.heap.size + 1) t 0 0 :=
    ⟨below_two _ _ _, heap_alloc2_old _ _ _, heap_alloc2_new _ _ _⟩
  obtain ⟨b, hbb⟩ : ∃ b, w1.heap.size = b := ⟨_, rfl⟩
  obtain ⟨W0, hW0⟩ : ∃ W0, (w1.alloc (.cells #[.string t, .int .i64 0, .int .i64 0] 61)).alloc (.cells #[.string t, .int .i64 0, .int .i64 0] 36) = W0 := ⟨_, rfl⟩
  rw [hW0] at inv0 ⊢
  rw [hbb] at inv0 ⊢
  obtain ⟨d, hdd⟩ : ∃ d, b + 1 = d := ⟨_, rfl⟩
  rw [hdd] at inv0 ⊢
  have hwb : Hid (w1.heap.size ≤ b) := by show _ ≤ _; omega
  have hbd : b ≠ d := by omega
  have hwd : Hid (w1.heap.size ≤ d) := by show _ ≤ _; omega
  have HW : Hid (∀ (W : World) (o : Nat) (e : Int), WInv w1 W b d t o e → True) := fun _ _ _ _ => trivial
  clear hbb hW0 hdd hfe HW
  go_loopw [8] (fun c8 wr => ∃ (i o : Nat) (e : Int), i ≤ len ∧ i ≤ 30 ∧ o ≤ t.size ∧ c8 = .int .i64 (i : Int) ∧ WInv w1 wr b d t o e) (fun c8 _ => len - (intOf c8).toNat)
  case atStart => exact ⟨0, 0, 0, by omega, by omega, by omega, rfl, inv0⟩
  case round =>
    clear inv0
    obtain ⟨i, o, e, hil, hi30, ho, rfl, inv⟩ := hrel
    by_cases hlt : i < len
    · have hlt' : (i : Int) < (len : Int) := by omega
      by_cases h30 : i < 30
      · have h30' : (i : Int) < 30 := by omega
        have hKi := (inv.hb.cell (p := ⟨g, p + i * 2, none⟩) ha).trans (hK i hlt)
        have hNi := (inv.hb.cell (p := ⟨g, p + i * 2 + 1, none⟩) ha).trans (hN i hlt)
        have hN3 := hN2 i hlt
        obtain ⟨k, hk⟩ : ∃ k, K i = k := ⟨_, rfl⟩
        obtain ⟨n, hn⟩ : ∃ n, N i = n := ⟨_, rfl⟩
        rw [hk] at hKi
        rw [hn] at hNi hN3
        clear hk hn hK hN hN2
        go_upto_block 2 with fail
        go_cut [10] (fun c10 wx => c10 = .bool true ∧ ∃ (o' : Nat) (e' : Int), o' ≤ t.size ∧ WInv w1 wx b d t o' e')
        case first =>
          clear hKi hNi
          obtain ⟨⟨d0, d1, d2⟩, j0, j1, j2⟩ := row3 inv.hd
          by_cases k1 : k = 1
          · subst k1
            have hE := fun (W : World) (h : Cur W b t (o : Int) e) => uint_at h ho (by omega)
            have hR := fun (W : World) => ruint_at t o e ho (by omega) W
            have hle := uintA_le (s := t) (o := o) (er := e) ho
            obtain ⟨A, hA⟩ : ∃ A, uintA t o e = A := ⟨_, rfl⟩
            simp only [hA] at hE hR hle
            clear hA
            obtain ⟨v, o', e'⟩ := A
            dsimp only at hE hR hle
            go_wp2_with fail
            refine (hR _).mono ?_
            rintro e0 w2 ⟨rfl, hb2⟩
            have inv2 := inv.later hb2
            have inv3 := inv2.later ((Below.refl _ w2).alloc (Nat.le_refl _) (.cells #[.string t, .int .i64 (o' : Int), .int .i64 e'] 36))
            have rf := heap_alloc_new w2 (.cells #[.string t, .int .i64 (o' : Int), .int .i64 e'] 36)
            have hfb : w2.heap.size ≠ b := fun h => by have := lt_of_row inv2.hc; omega
            have hdf : d ≠ w2.heap.size := fun h => by have := lt_of_row inv2.hd; omega
            obtain ⟨⟨x0, x1, x2⟩, y0, y1, y2⟩ := row3 rf
            obtain ⟨⟨v0, v1, v2⟩, z0, z1, z2⟩ := row3 inv3.hd
            clear d0 d1 d2 j0 j1 j2 hR hb2 inv
            go_wp2_with fail
            go_region_with ((go_at_call 13; refine (hE _ (by exact inv3.hc)).mono ?_; rintro e5 w5 ⟨rfl, hk5, ho5⟩; obtain ⟨⟨p0, p1, p2⟩, q0, q1, q2⟩ := row3 ((ho5.block _ (lt_of_row rf) hfb).trans rf); obtain ⟨⟨r0, r1, r2⟩, s0, s1, s2⟩ := row3 ((ho5.block _ (lt_of_row inv3.hd) (fun h => hbd h.symm)).trans inv3.hd)))
            all_goals
              go_wp2_with fail
              go_meet
              case rel => exact ⟨by simp, o', e', hle, inv3.done hwb.out hbd hwd.out hk5 ho5⟩
          · have b1 : (k == 1) = false := beq_eq_false_iff_ne.mpr k1
            by_cases k2 : k = 2
            · subst k2
              have hE := fun (W : World) (h : Cur W b t (o : Int) e) => int_at h ho (by omega)
              have hR := fun (W : World) => rint_at t o e ho (by omega) W
              have hle := uintA_le (s := t) (o := o) (er := e) ho
              obtain ⟨A, hA⟩ : ∃ A, uintA t o e = A := ⟨_, rfl⟩
              simp only [hA] at hE hR hle
              clear hA
              obtain ⟨v, o', e'⟩ := A
              dsimp only at hE hR hle
              obtain ⟨z, hz⟩ : ∃ z, zag v = z := ⟨_, rfl⟩
              simp only [hz] at hE hR
              clear hz
              go_wp2_with fail
              refine (hR _).mono ?_
              rintro e0 w2 ⟨rfl, hb2⟩
              have inv2 := inv.later hb2
              have inv3 := inv2.later ((Below.refl _ w2).alloc (Nat.le_refl _) (.cells #[.string t, .int .i64 (o' : Int), .int .i64 e'] 36))
              have rf := heap_alloc_new w2 (.cells #[.string t, .int .i64 (o' : Int), .int .i64 e'] 36)
              have hfb : w2.heap.size ≠ b := fun h => by have := lt_of_row inv2.hc; omega
              have hdf : d ≠ w2.heap.size := fun h => by have := lt_of_row inv2.hd; omega
              obtain ⟨⟨x0, x1, x2⟩, y0, y1, y2⟩ := row3 rf
              obtain ⟨⟨v0, v1, v2⟩, z0, z1, z2⟩ := row3 inv3.hd
              clear d0 d1 d2 j0 j1 j2 hR hb2 inv
              go_wp2_with fail
              go_region_with ((go_at_call 17; refine (hE _ (by exact inv3.hc)).mono ?_; rintro e5 w5 ⟨rfl, hk5, ho5⟩; obtain ⟨⟨p0, p1, p2⟩, q0, q1, q2⟩ := row3 ((ho5.block _ (lt_of_row rf) hfb).trans rf); obtain ⟨⟨r0, r1, r2⟩, s0, s1, s2⟩ := row3 ((ho5.block _ (lt_of_row inv3.hd) (fun h => hbd h.symm)).trans inv3.hd)))
              all_goals
                go_wp2_with fail
                go_meet
                case rel => exact ⟨by simp, o', e', hle, inv3.done hwb.out hbd hwd.out hk5 ho5⟩
            · have b2 : (k == 2) = false := beq_eq_false_iff_ne.mpr k2
              by_cases k3 : k = 3
              · subst k3
                have hE := fun (W : World) (h : Cur W b t (o : Int) e) => cou_at h ho (by omega) n hN3
                have hR := fun (W : World) => rcount_at t o e n ho (by omega) hN3 W
                have hle := countA_le (s := t) (o := o) (er := e) (m := n) ho
                obtain ⟨A, hA⟩ : ∃ A, countA t o e n = A := ⟨_, rfl⟩
                simp only [hA] at hE hR hle
                clear hA
                obtain ⟨v, o', e'⟩ := A
                dsimp only at hE hR hle
                obtain ⟨z, hz⟩ : ∃ z : Int, (v : Int) = z := ⟨_, rfl⟩
                simp only [hz] at hE hR
                clear hz
                go_wp2_with fail
                refine (hR _).mono ?_
                rintro e0 w2 ⟨rfl, hb2⟩
                have inv2 := inv.later hb2
                have inv3 := inv2.later ((Below.refl _ w2).alloc (Nat.le_refl _) (.cells #[.string t, .int .i64 (o' : Int), .int .i64 e'] 36))
                have rf := heap_alloc_new w2 (.cells #[.string t, .int .i64 (o' : Int), .int .i64 e'] 36)
                have hfb : w2.heap.size ≠ b := fun h => by have := lt_of_row inv2.hc; omega
                have hdf : d ≠ w2.heap.size := fun h => by have := lt_of_row inv2.hd; omega
                obtain ⟨⟨x0, x1, x2⟩, y0, y1, y2⟩ := row3 rf
                obtain ⟨⟨v0, v1, v2⟩, z0, z1, z2⟩ := row3 inv3.hd
                clear d0 d1 d2 j0 j1 j2 hR hb2 inv
                go_wp2_with fail
                go_region_with ((go_at_call 24; refine (hE _ (by exact inv3.hc)).mono ?_; rintro e5 w5 ⟨rfl, hk5, ho5⟩; obtain ⟨⟨p0, p1, p2⟩, q0, q1, q2⟩ := row3 ((ho5.block _ (lt_of_row rf) hfb).trans rf); obtain ⟨⟨r0, r1, r2⟩, s0, s1, s2⟩ := row3 ((ho5.block _ (lt_of_row inv3.hd) (fun h => hbd h.symm)).trans inv3.hd)))
                all_goals
                  go_wp2_with fail
                  go_meet
                  case rel => exact ⟨by simp, o', e', hle, inv3.done hwb.out hbd hwd.out hk5 ho5⟩
              · have b3 : (k == 3) = false := beq_eq_false_iff_ne.mpr k3
                by_cases k4 : k = 4
                · subst k4
                  have hE := fun (W : World) (h : Cur W b t (o : Int) e) => text_at h ho (by omega) n
                  have hR := fun (W : World) => rtext_at t o e n ho (by omega) W
                  have hle := textA_le (s := t) (o := o) (er := e) (m := n) ho
                  obtain ⟨A, hA⟩ : ∃ A, textA t o e n = A := ⟨_, rfl⟩
                  simp only [hA] at hE hR hle
                  clear hA
                  obtain ⟨v, o', e'⟩ := A
                  dsimp only at hE hR hle
                  go_wp2_with fail
                  refine (hR _).mono ?_
                  rintro e0 w2 ⟨rfl, hb2⟩
                  have inv2 := inv.later hb2
                  have inv3 := inv2.later ((Below.refl _ w2).alloc (Nat.le_refl _) (.cells #[.string t, .int .i64 (o' : Int), .int .i64 e'] 36))
                  have rf := heap_alloc_new w2 (.cells #[.string t, .int .i64 (o' : Int), .int .i64 e'] 36)
                  have hfb : w2.heap.size ≠ b := fun h => by have := lt_of_row inv2.hc; omega
                  have hdf : d ≠ w2.heap.size := fun h => by have := lt_of_row inv2.hd; omega
                  obtain ⟨⟨x0, x1, x2⟩, y0, y1, y2⟩ := row3 rf
                  obtain ⟨⟨v0, v1, v2⟩, z0, z1, z2⟩ := row3 inv3.hd
                  clear d0 d1 d2 j0 j1 j2 hR hb2 inv
                  go_wp2_with fail
                  go_region_with ((go_at_call 26; refine (hE _ (by exact inv3.hc)).mono ?_; rintro e5 w5 ⟨rfl, hk5, ho5⟩; obtain ⟨⟨p0, p1, p2⟩, q0, q1, q2⟩ := row3 ((ho5.block _ (lt_of_row rf) hfb).trans rf); obtain ⟨⟨r0, r1, r2⟩, s0, s1, s2⟩ := row3 ((ho5.block _ (lt_of_row inv3.hd) (fun h => hbd h.symm)).trans inv3.hd)))
                  all_goals
                    go_wp2_with fail
                    go_meet
                    case rel => exact ⟨by simp, o', e', hle, inv3.done hwb.out hbd hwd.out hk5 ho5⟩
                · have b4 : (k == 4) = false := beq_eq_false_iff_ne.mpr k4
                  by_cases k5 : k = 5
                  · subst k5
                    have hE := fun (W : World) (h : Cur W b t (o : Int) e) => bool_at h ho (by omega)
                    have hR := fun (W : World) => rbool_at t o e ho (by omega) W
                    have hle := boolA_le (s := t) (o := o) (er := e) ho
                    obtain ⟨A, hA⟩ : ∃ A, boolA t o e = A := ⟨_, rfl⟩
                    simp only [hA] at hE hR hle
                    clear hA
                    obtain ⟨v, o', e'⟩ := A
                    dsimp only at hE hR hle
                    go_wp2_with fail
                    refine (hR _).mono ?_
                    rintro e0 w2 ⟨rfl, hb2⟩
                    have inv2 := inv.later hb2
                    have inv3 := inv2.later ((Below.refl _ w2).alloc (Nat.le_refl _) (.cells #[.string t, .int .i64 (o' : Int), .int .i64 e'] 36))
                    have rf := heap_alloc_new w2 (.cells #[.string t, .int .i64 (o' : Int), .int .i64 e'] 36)
                    have hfb : w2.heap.size ≠ b := fun h => by have := lt_of_row inv2.hc; omega
                    have hdf : d ≠ w2.heap.size := fun h => by have := lt_of_row inv2.hd; omega
                    obtain ⟨⟨x0, x1, x2⟩, y0, y1, y2⟩ := row3 rf
                    obtain ⟨⟨v0, v1, v2⟩, z0, z1, z2⟩ := row3 inv3.hd
                    clear d0 d1 d2 j0 j1 j2 hR hb2 inv
                    go_wp2_with fail
                    go_region_with ((go_at_call 28; refine (hE _ (by exact inv3.hc)).mono ?_; rintro e5 w5 ⟨rfl, hk5, ho5⟩; obtain ⟨⟨p0, p1, p2⟩, q0, q1, q2⟩ := row3 ((ho5.block _ (lt_of_row rf) hfb).trans rf); obtain ⟨⟨r0, r1, r2⟩, s0, s1, s2⟩ := row3 ((ho5.block _ (lt_of_row inv3.hd) (fun h => hbd h.symm)).trans inv3.hd)))
                    all_goals
                      go_wp2_with fail
                      go_meet
                      case rel => exact ⟨by simp, o', e', hle, inv3.done hwb.out hbd hwd.out hk5 ho5⟩
                  · have b5 : (k == 5) = false := beq_eq_false_iff_ne.mpr k5
                    by_cases k6 : k = 6
                    · subst k6
                      by_cases he0 : e = 0
                      · subst he0
                        go_wp2_with fail
                        refine (fail_at inv.hc _).mono ?_
                        rintro e0 w2 ⟨rfl, hk2, ho2⟩
                        rw [if_pos rfl] at hk2
                        have r2 := (ho2.block d (lt_of_row inv.hd) (fun h => hbd h.symm)).trans inv.hd
                        obtain ⟨⟨x0, x1, x2⟩, y0, y1, y2⟩ := row3 r2
                        clear d0 d1 d2 j0 j1 j2
                        go_wp2_with fail
                        go_meet
                        case rel => exact ⟨rfl, o, 7, ho, (inv.hb.trans (ho2.below hwb.out inv.hb.size)).setCell (by exact hwd.out) _, (show _ = _ from (Below.heap_setCell _ _ _ b hbd).trans hk2), row_setCell r2 _⟩
                      · have he0' : (e == 0) = false := beq_eq_false_iff_ne.mpr he0
                        go_wp2_with fail
                        refine (fail_at inv.hc _).mono ?_
                        rintro e0 w2 ⟨rfl, hk2, ho2⟩
                        rw [if_neg he0] at hk2
                        have r2 := (ho2.block d (lt_of_row inv.hd) (fun h => hbd h.symm)).trans inv.hd
                        obtain ⟨⟨x0, x1, x2⟩, y0, y1, y2⟩ := row3 r2
                        clear d0 d1 d2 j0 j1 j2
                        go_wp2_with fail
                        go_meet
                        case rel => exact ⟨rfl, o, e, ho, inv.hb.trans (ho2.below hwb.out inv.hb.size), hk2, r2⟩
                    · have b6 : (k == 6) = false := beq_eq_false_iff_ne.mpr k6
                      have hE := fun (W : World) (h : Cur W b t (o : Int) e) => bytes_at h ho (by omega) n
                      have hR := fun (W : World) => rbytes_at t o e n ho (by omega) W
                      have hle := bytesA_le (s := t) (o := o) (er := e) (n := n) ho
                      obtain ⟨A, hA⟩ : ∃ A, bytesA t o e n = A := ⟨_, rfl⟩
                      simp only [hA] at hE hR hle
                      clear hA
                      obtain ⟨v, o', e'⟩ := A
                      dsimp only at hE hR hle
                      go_wp2_with fail
                      refine (hR _).mono ?_
                      rintro e0 w2 ⟨rfl, hb2⟩
                      have inv2 := inv.later hb2
                      have inv3 := inv2.later ((Below.refl _ w2).alloc (Nat.le_refl _) (.cells #[.string t, .int .i64 (o' : Int), .int .i64 e'] 36))
                      have rf := heap_alloc_new w2 (.cells #[.string t, .int .i64 (o' : Int), .int .i64 e'] 36)
                      have hfb : w2.heap.size ≠ b := fun h => by have := lt_of_row inv2.hc; omega
                      have hdf : d ≠ w2.heap.size := fun h => by have := lt_of_row inv2.hd; omega
                      obtain ⟨⟨x0, x1, x2⟩, y0, y1, y2⟩ := row3 rf
                      obtain ⟨⟨v0, v1, v2⟩, z0, z1, z2⟩ := row3 inv3.hd
                      clear d0 d1 d2 j0 j1 j2 hR hb2 inv
                      go_wp2_with fail
                      go_region_with ((go_at_call 31; refine (hE _ (by exact inv3.hc)).mono ?_; rintro e5 w5 ⟨rfl, hk5, ho5⟩; obtain ⟨⟨p0, p1, p2⟩, q0, q1, q2⟩ := row3 ((ho5.block _ (lt_of_row rf) hfb).trans rf); obtain ⟨⟨r0, r1, r2⟩, s0, s1, s2⟩ := row3 ((ho5.block _ (lt_of_row inv3.hd) (fun h => hbd h.symm)).trans inv3.hd)))
                      all_goals
                        go_wp2_with fail
                        go_meet
                        case rel => exact ⟨by simp, o', e', hle, inv3.done hwb.out hbd hwd.out hk5 ho5⟩
        case rest =>
          obtain ⟨rfl, o', e', ho', inv'⟩ := hcut
          clear hKi hNi inv
          obtain ⟨⟨d0, d1, d2⟩, j0, j1, j2⟩ := row3 inv'.hd
          have hq := fun n => err_at (inv'.hc.drewN n)
          have hq2 := fun n => off_at (inv'.hc.drewN n)
          go_wp2_with fail
          go_quiet (first | (go_at_call 20; exact Calls.quiet_of_same (hq _)) | (go_at_call 21; exact Calls.quiet_of_same (hq2 _)))
          go_wp2
          go_roundw
          case rel =>
            exact ⟨i + 1, o', e', by omega, by omega, ho', by go_num, inv'.drewN nq⟩
          case measure => simp [intOf]; omega
      · obtain rfl : i = 30 := by omega
        have h30' : ¬ ((30 : Nat) : Int) < 30 := by omega
        clear hK hN hN2
        go_wp2_with fail
        refine wp_region_quiet (C := fun W => EInv w1 W b d t o e) (by kernel_rfl) (by kernel_rfl) (⟨below_drewN inv.hb 1, Or.inl inv.hc, inv.hd⟩ : EInv w1 (wr.drewN 1) b d t o e) ?_
        refine BigFrame.wpQuiet_want (by rfl) (fun K hK => q_call (f := 11) (args := #[]) (v := .bool true) (fun W => ?_) (fun W hW => hW.awake) (hK _ ?_))
        · go_simp
        simp only [Act.put, List.setIfInBounds_toArray, List.set_cons_zero, List.set_cons_succ]
        go_big_quiet_step (fail)
        go_big_quiet_step (fail)
        refine BigFrame.wpQuiet_want (by rfl) (fun K hK => q_call (f := 14) (args := #[.pointer (some ⟨b, 0, none⟩)]) (v := .int .i64 (endE t o e)) (fun W => ?_) (fun W hW => hW.eend hwb.out hbd) (hK _ ?_))
        · go_simp
        simp only [Act.put, List.setIfInBounds_toArray, List.set_cons_zero, List.set_cons_succ]
        refine BigFrame.wpQuiet_want (by rfl) (fun K hK => q_at (v := .agg #[.string t, .int .i64 (o : Int), .int .i64 e]) (fun W hW => ?_) (hK _ ?_))
        · obtain ⟨c0, c1, c2⟩ := EInv.cells hW
          go_simp
        simp only [Act.put, List.setIfInBounds_toArray, List.set_cons_zero, List.set_cons_succ]
        refine BigFrame.wpQuiet_want (by rfl) (fun K hK => q_call (f := 32) (args := #[.agg #[.string t, .int .i64 (o : Int), .int .i64 e]]) (v := .agg #[.string t, .int .i64 (o : Int), .int .i64 (endE t o e)]) (fun W => ?_) (fun W hW => hW.rend) (hK _ ?_))
        · go_simp
        simp only [Act.put, List.setIfInBounds_toArray, List.set_cons_zero, List.set_cons_succ]
        refine BigFrame.wpQuiet_want (by rfl) (fun K hK => q_pure (v := .int .i64 (endE t o e)) (fun W => ?_) (hK _ ?_))
        · have hfi := field2 (.string t) (.int .i64 (o : Int)) (.int .i64 (endE t o e)) W
          go_simp
        simp only [Act.put, List.setIfInBounds_toArray, List.set_cons_zero, List.set_cons_succ]
        refine BigFrame.wpQuiet_want (by rfl) (fun K hK => q_pure (v := .bool true) (fun W => ?_) (hK _ ?_))
        · go_simp
        simp only [Act.put, List.setIfInBounds_toArray, List.set_cons_zero, List.set_cons_succ]
        refine BigFrame.wpQuiet_want (by rfl) (fun K hK => q_pure (v := .bool true) (fun W => ?_) (hK _ ?_))
        · go_simp
        simp only [Act.put, List.setIfInBounds_toArray, List.set_cons_zero, List.set_cons_succ]
        go_big_quiet_step (fail)
        refine wpQuiet_nil ?_
        intro w' hw'
        go_wp2
        go_ret
        exact ⟨rfl, hw'.hb⟩
    · obtain rfl : i = len := by omega
      have hlt' : ¬ ((i : Nat) : Int) < (i : Int) := by omega
      clear hK hN hN2
      go_wp2_with fail
      refine wp_region_quiet (C := fun W => EInv w1 W b d t o e) (by kernel_rfl) (by kernel_rfl) (⟨below_drewN inv.hb 1, Or.inl inv.hc, inv.hd⟩ : EInv w1 (wr.drewN 1) b d t o e) ?_
      refine BigFrame.wpQuiet_want (by rfl) (fun K hK => q_call (f := 11) (args := #[]) (v := .bool true) (fun W => ?_) (fun W hW => hW.awake) (hK _ ?_))
      · go_simp
      simp only [Act.put, List.setIfInBounds_toArray, List.set_cons_zero, List.set_cons_succ]
      go_big_quiet_step (fail)
      go_big_quiet_step (fail)
      refine BigFrame.wpQuiet_want (by rfl) (fun K hK => q_call (f := 14) (args := #[.pointer (some ⟨b, 0, none⟩)]) (v := .int .i64 (endE t o e)) (fun W => ?_) (fun W hW => hW.eend hwb.out hbd) (hK _ ?_))
      · go_simp
      simp only [Act.put, List.setIfInBounds_toArray, List.set_cons_zero, List.set_cons_succ]
      refine BigFrame.wpQuiet_want (by rfl) (fun K hK => q_at (v := .agg #[.string t, .int .i64 (o : Int), .int .i64 e]) (fun W hW => ?_) (hK _ ?_))
      · obtain ⟨c0, c1, c2⟩ := EInv.cells hW
        go_simp
      simp only [Act.put, List.setIfInBounds_toArray, List.set_cons_zero, List.set_cons_succ]
      refine BigFrame.wpQuiet_want (by rfl) (fun K hK => q_call (f := 32) (args := #[.agg #[.string t, .int .i64 (o : Int), .int .i64 e]]) (v := .agg #[.string t, .int .i64 (o : Int), .int .i64 (endE t o e)]) (fun W => ?_) (fun W hW => hW.rend) (hK _ ?_))
      · go_simp
      simp only [Act.put, List.setIfInBounds_toArray, List.set_cons_zero, List.set_cons_succ]
      refine BigFrame.wpQuiet_want (by rfl) (fun K hK => q_pure (v := .int .i64 (endE t o e)) (fun W => ?_) (hK _ ?_))
      · have hfi := field2 (.string t) (.int .i64 (o : Int)) (.int .i64 (endE t o e)) W
        go_simp
      simp only [Act.put, List.setIfInBounds_toArray, List.set_cons_zero, List.set_cons_succ]
      refine BigFrame.wpQuiet_want (by rfl) (fun K hK => q_pure (v := .bool true) (fun W => ?_) (hK _ ?_))
      · go_simp
      simp only [Act.put, List.setIfInBounds_toArray, List.set_cons_zero, List.set_cons_succ]
      refine BigFrame.wpQuiet_want (by rfl) (fun K hK => q_pure (v := .bool true) (fun W => ?_) (hK _ ?_))
      · go_simp
      simp only [Act.put, List.setIfInBounds_toArray, List.set_cons_zero, List.set_cons_succ]
      go_big_quiet_step (fail)
      refine wpQuiet_nil ?_
      intro w' hw'
      go_wp2
      go_ret
      exact ⟨rfl, hw'.hb⟩
end Go.Proofs.Ytmijbflgfbfbiaa
