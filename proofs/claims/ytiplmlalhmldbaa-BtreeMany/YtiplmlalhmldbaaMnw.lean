/- The law BtreeMany as a walk: of any three numbers the call returns true, and nothing that was there has changed. -/
import Derived.Test.YtiplmlalhmldbaaMna
import Derived.Test.YtiplmlalhmldbaaFir
namespace Go.Proofs.Ytiplmlalhmldbaa
open Go.RowKit Go.Shelf
attribute [local go_sem] Oper.semAt_some
set_option maxHeartbeats 1000000 in
theorem len_row (b n : Nat) (x y : Value) (w : World) (hr : w.heap[b]? = some (.cells #[x, y, .int .i64 (n : Int)] 61 (0, 0))) : Calls Try.prog 15 #[.pointer (some ⟨b, 0, none⟩)] w fun e w' => e = .returned (.int .i64 (n : Int)) ∧ Below w.heap.size w w' := by
  have c2 := cell_of_row w _ 2 _ _ _ hr
  clear hr
  go_enter Try.func15, Try.ntmps15
  go_wp2
  go_ret
  exact ⟨rfl, Below.refl _ _⟩
/- A range over a function whose variables nobody takes. -/
theorem range_s {P : Program} {m : Nat} {g : Operand} {ps : Array Tmp} {body : Code} {Q : Exit → Act → World → Prop} {a : Act} {w : World}
    {gf : Nat} {lb : Array Value} (hg : a.eval g = .func (.func gf) #[] lb) (eg : ∀ args W, (callFunc gf args).run P W = .ok (.enter gf args) W)
    {xs : List Im} {A : Nat → Prop} (hseq : SeqB P gf lb (fun x : Im => #[.string x.1, .string x.2]) xs A w) (hps : ps.size = 2)
    (C : Nat → Prop) (hA : ∀ k, A k → k < w.heap.size ∧ ¬ C k) (hC : ∀ k, C k → k < w.heap.size)
    (I : List Im → World → Prop) (hI : ∀ s A B, I s A → Below w.heap.size A B → I s B) (h0 : I [] w)
    (hbody : ∀ (l : Nat) (pre : List Im) (x : Im) (W : World), I pre W → pre ++ [x] <+: xs → w.heap.size ≤ W.heap.size → body.wpIn (Fence.wide.inRound l) 0 P (bPost C I (fun _ _ _ => False) (pre ++ [x]) W) { tmps := (ps.zip #[.string x.1, .string x.2]).foldl (fun t (p, v) => t.setIfInBounds p v) a.tmps, defers := [] } W)
    (hdone : ∀ (W : World), I xs W → KC (fun k => C k ∨ w.heap.size ≤ k) w W → W.heap[w.heap.size]? = some (.deferred (some [])) → Q .normal { a with defers := { target := .collected w.heap.size, args := #[] } :: a.defers } W) :
    (Code.rangeFunc g ps .skip body).wpIn Fence.wide m P Q a w :=
  range_b hg eg hseq (fun _ => hps.symm) C hA hC I (fun _ _ _ => False) hI (fun _ _ _ _ h _ => h) h0 _ (fun _ _ _ _ hK => wpIn_skip hK) hbody hdone (fun _ _ _ _ h => h.elim)
set_option maxRecDepth 100000 in
set_option maxHeartbeats 8000000 in
theorem many_walk (a0 a1 a2 : Int) (w : World) :
    Calls Try.prog 4 #[.int .i64 a0, .int .i64 a1, .int .i64 a2] w fun e w' => e = .returned (.bool true) ∧ Below w.heap.size w w' := by
  obtain ⟨k, hk5, hk⟩ : ∃ k : Nat, k < 512 ∧ bits .and .i64 a0 511 = (k : Int) := ⟨(a0 % 512).toNat, by omega, by rw [and_511]; omega⟩
  obtain ⟨g, hg5, hg⟩ : ∃ k : Nat, k < 512 ∧ bits .and .i64 a2 511 = (k : Int) := ⟨(a2 % 512).toNat, by omega, by rw [and_511]; omega⟩
  obtain ⟨D, hD⟩ : ∃ D, bits .or .i64 a1 1 = D := ⟨_, rfl⟩
  have hodd : D % 2 = 1 := by rw [← hD]; exact or_one a1
  have HOD : Hid (D % 2 = 1) := hodd
  obtain ⟨wa, hwa⟩ : ∃ wa, w.alloc (.cells #[.int .i64 D] 3) = wa := ⟨_, rfl⟩
  have ba : Below w.heap.size w wa := by rw [← hwa]; exact (Below.refl _ w).alloc (Nat.le_refl _) _
  have ra : wa.heap[w.heap.size]? = some (.cells #[.int .i64 D] 3 (0, 0)) := by rw [← hwa]; exact heap_alloc_new _ _
  have sa : wa.heap.size = w.heap.size + 1 := by rw [← hwa]; simp
  clear hodd
  refine (callsIn_wide (n := 0)).1 ?_
  refine callsIn_of_wp_marks Try.func4 rfl trivial ?_ rfl
  simp only [Try.ntmps4, List.size_toArray, List.length_cons, List.length_nil, Nat.reduceAdd, Nat.reduceSub, Array.replicate_succ, Array.replicate_zero, List.push_toArray, List.append_toArray, List.nil_append, List.cons_append]
  gi_wp2_with fail
  refine ⟨trivial, rfl, ?_⟩
  refine (callsIn_wide.2 (new_any wa)).mono ?_
  rintro e w1 ⟨rfl, T1, hb1⟩
  rw [sa] at T1
  rw [sa]
  gi_wp2_with fail
  refine ⟨trivial, rfl, ?_⟩
  refine (callsIn_wide.2 (awake_any _)).mono ?_
  rintro e w2 ⟨rfl, hb2⟩
  have I0 : Hid (MA w w2 D 0 0) := by
    have b12 := hb1.trans (hb2.mono hb1.size)
    exact ⟨⟨0, ([] : List Im), ⟨trivial, List.Pairwise.nil, by decide, Or.inl rfl⟩, T1.later hb2, rfl, fun y hy => absurd hy (by simp [flat, its]), fun j h1 h2 => absurd h2 (Nat.not_lt_zero _)⟩, (b12.block _ (lt_of_row ra)).trans ra, ba.trans (b12.mono ba.size)⟩
  clear T1 hb1 hb2 ra ba hwa sa hk hD
  gi_wp2
  gi_loopw [11] (fun s11 wr => ∃ i : Nat, s11 = .int .i64 (i : Int) ∧ i ≤ k ∧ Hid (MA w wr D 0 i)) (fun s11 _ => k - (intOf s11).toNat)
  case atStart => exact ⟨0, rfl, Nat.zero_le _, I0⟩
  case round =>
    clear I0
    obtain ⟨i, rfl, hik, I⟩ := hrel
    by_cases hlt : i < k
    · have hlt' : (i : Int) < (k : Int) := by omega
      gi_wp2_with fail
      refine ⟨trivial, rfl, ?_⟩
      refine (callsIn_wide.2 (I.out.name i (by omega))).mono ?_
      rintro e w3 ⟨rfl, hI3⟩
      have I3 : Hid (MA w w3 D 0 i) := hI3
      clear hI3 I
      gi_wp2_with fail
      refine ⟨trivial, rfl, ?_⟩
      refine (callsIn_wide.2 (MA.put HOD.out I3.out (by omega) _)).mono ?_
      rintro e w4 ⟨rfl, hI4⟩
      have I4 : Hid (MA w w4 D 0 (i + 1)) := hI4
      clear hI4 I3
      gi_wp2
      go_roundw
      case rel => exact ⟨i + 1, by rw [Int.natCast_succ], hlt, I4⟩
      case measure => simp [intOf]; omega
    · obtain rfl : k = i := by omega
      have hnl : ¬ ((k : Int) < (k : Int)) := by omega
      have hln := I.out.len
      rw [Nat.sub_zero] at hln
      gi_wp2_with fail
      refine ⟨trivial, rfl, ?_⟩
      refine (callsIn_wide.2 (hln)).mono ?_
      rintro e w3 ⟨rfl, hI3⟩
      have I3 : Hid (MA w w3 D 0 k) := hI3
      clear hI3 I hln hik hlt
      gi_wp2_with fail
      refine ⟨trivial, rfl, ?_⟩
      refine (callsIn_wide.2 (I3.out.deep (by omega))).mono ?_
      rintro e w4 ⟨⟨k4, hk4, rfl⟩, hI4⟩
      have I4 : Hid (MA w w4 D 0 k) := hI4
      have hn4 : ¬ ((k4 : Int) + 1 < 1) := by omega
      clear hI4 I3
      gi_wp2_with fail
      refine ⟨trivial, rfl, ?_⟩
      refine (callsIn_wide.2 (I4.out.deep (by omega))).mono ?_
      rintro e w5 ⟨⟨k5, hk5', rfl⟩, hI5⟩
      have I5 : Hid (MA w w5 D 0 k) := hI5
      have hn5 : ¬ (5 < (k5 : Int) + 1) := by omega
      clear hI5 I4
      by_cases hgk : k < g
      · have hgk' : (k : Int) < (g : Int) := by omega
        clear hn4
        gi_wp2
        clear hgk hgk' hn5
        gi_loopw [13] (fun s13 wr => ∃ i : Nat, s13 = .int .i64 (i : Int) ∧ i ≤ k ∧ Hid (MA w wr D i k)) (fun s13 _ => k - (intOf s13).toNat)
        case atStart => exact ⟨0, rfl, Nat.zero_le _, I5⟩
        case round =>
          clear I5
          obtain ⟨i, rfl, hik, I⟩ := hrel
          by_cases hlt : i < k
          · have hlt' : (i : Int) < (k : Int) := by omega
            gi_wp2_with fail
            refine ⟨trivial, rfl, ?_⟩
            refine (callsIn_wide.2 (I.out.name i (by omega))).mono ?_
            rintro e w6 ⟨rfl, hI6⟩
            have I6 : Hid (MA w w6 D i k) := hI6
            clear hI6 I
            gi_wp2_with fail
            refine ⟨trivial, rfl, ?_⟩
            refine (callsIn_wide.2 (MA.drop HOD.out I6.out (by omega) (by omega))).mono ?_
            rintro e w7 ⟨rfl, hI7⟩
            have I7 : Hid (MA w w7 D (i + 1) k) := hI7
            clear hI7 I6
            gi_wp2_with fail
            refine ⟨trivial, rfl, ?_⟩
            refine (callsIn_wide.2 (I7.out.name i (by omega))).mono ?_
            rintro e w8 ⟨rfl, hI8⟩
            have I8 : Hid (MA w w8 D (i + 1) k) := hI8
            clear hI8 I7
            gi_wp2_with fail
            refine ⟨trivial, rfl, ?_⟩
            refine (callsIn_wide.2 (MA.drop2 HOD.out I8.out (by omega) (by omega))).mono ?_
            rintro e w9 ⟨rfl, hI9⟩
            have I9 : Hid (MA w w9 D (i + 1) k) := hI9
            clear hI9 I8
            gi_wp2_with fail
            refine ⟨trivial, rfl, ?_⟩
            refine (callsIn_wide.2 (I9.out.deep (by omega))).mono ?_
            rintro e w10 ⟨⟨k10, hk10, rfl⟩, hI10⟩
            have I10 : Hid (MA w w10 D (i + 1) k) := hI10
            have hn10 : ¬ ((k10 : Int) + 1 < 1) := by omega
            clear hI10 I9
            gi_wp2
            go_roundw
            case rel => exact ⟨i + 1, by rw [Int.natCast_succ], hlt, I10⟩
            case measure => simp [intOf]; omega
          · obtain rfl : k = i := by omega
            have hnl : ¬ ((k : Int) < (k : Int)) := by omega
            obtain ⟨h, t, R, T, hm, -, -⟩ := I.out.ex
            obtain ⟨p, c, q, d, hrow, hL⟩ := T.ex
            have hB := I.out.bel
            have hlr := lt_of_row hrow
            obtain ⟨w3, hw3⟩ : ∃ w3, (wr.alloc (.cells #[.int .i64 0] 3)).setCell ⟨wr.heap.size, 0, none⟩ (.int .i64 0) = w3 := ⟨_, rfl⟩
            have hb3 : Below wr.heap.size wr w3 := by rw [← hw3]; exact ((Below.refl _ wr).alloc (Nat.le_refl _) _).setCell (p := ⟨wr.heap.size, 0, none⟩) (Nat.le_refl _) _
            have r3 : w3.heap[wr.heap.size]? = some (.cells #[.int .i64 0] 3 (0, 0)) := by rw [← hw3]; exact heap_setCell_same _ _ 0 _ _ _ (heap_alloc_new wr (.cells #[.int .i64 0] 3))
            obtain ⟨N, hN⟩ : ∃ N, wr.heap.size = N := ⟨_, rfl⟩
            rw [hN] at r3 hlr
            have HN : Hid (wr.heap.size = N) := hN
            clear hN
            have hB3 : Below w.heap.size w w3 := hB.trans (hb3.mono hB.size)
            have kr := range_tree p _ c q _ d _ (w.heap.size + 1) ⟨#[]⟩ ⟨#[]⟩ w3 ((hb3.block _ (lt_of_row hrow)).trans hrow)
            have hsp := span_flat ⟨#[]⟩ ⟨#[]⟩ R.bal R.pw
            rw [inS_all] at hsp
            obtain ⟨SP, hSP⟩ : ∃ SP, flat h t = SP := ⟨_, rfl⟩
            have hSEQ : ∀ bn bs W, Below wr.heap.size wr W → W.heap[bn]? = some (.cells #[.slice p (its h t).length c, .slice q (kdn h t) d] 59 (0, 0)) → W.heap[bs]? = some (.cells #[.string ⟨#[]⟩, .string ⟨#[]⟩] 24 (0, 0)) → SeqB Try.prog 38 #[.pointer (some ⟨bn, 0, none⟩), .pointer (some ⟨bs, 0, none⟩)] (fun x : Im => #[.string x.1, .string x.2]) SP (fun k => k < wr.heap.size ∨ k = bn ∨ k = bs) W := fun bn bs W hb hn hs => by
              have := span_seq ⟨#[]⟩ ⟨#[]⟩ R.ok hL hb hn hs
              rw [hsp, hSP] at this
              exact this
            have hlen : SP.length = k - k := by rw [← hSP]; exact hm
            have HLN : Hid (SP.length = k - k) := hlen
            have I3 : Hid (MA w w3 D k k) := I.out.later hb3
            clear hsp hSP hlen hm T R hL hrow hB hik hlt I
            gi_wp2_with fail
            refine ⟨trivial, rfl, ?_⟩
            refine (callsIn_wide.2 kr).mono ?_
            rintro e w4 ⟨bn, bs, rfl, hn1, hn2, rn, rs, hb4⟩
            have hB4 : Below w.heap.size w w4 := hB3.trans (hb4.mono hB3.size)
            have q3 := (hb4.block _ (lt_of_row r3)).trans r3
            have hseq := hSEQ bn bs w4 (hb3.trans (hb4.mono hb3.size)) rn rs
            have I4 : Hid (MA w w4 D k k) := I3.out.later hb4
            have ln := lt_of_row rn
            have ls := lt_of_row rs
            have l3 := lt_of_row q3
            rw [HN.out] at hseq
            have hN := HN.out
            have hs3 := lt_of_row r3
            clear kr hSEQ hb3 rn rs hw3 I3 hB3
            gi_wp2
            obtain ⟨x0, x1, nn, rb, hnn⟩ : ∃ x0 x1, ∃ nn : Nat, w4.heap[w.heap.size + 1]? = some (.cells #[x0, x1, .int .i64 (nn : Int)] 61 (0, 0)) ∧ Hid (nn = k - k) := by
              obtain ⟨h, t, R, T, -, -, -⟩ := I4.out.ex
              obtain ⟨p, c, q, d, hrow, -⟩ := T.ex
              exact ⟨_, _, _, hrow, (rfl : k - k = k - k)⟩
            have lb := lt_of_row rb
            have hwN : w.heap.size ≤ N := by omega
            have SPL : Hid (SP.length ≤ 600) := by have := HLN.out; exact (by omega : SP.length ≤ 600)
            refine range_s (gf := 38) (lb := #[.pointer (some ⟨bn, 0, none⟩), .pointer (some ⟨bs, 0, none⟩)]) rfl (enters_of Try.func38 (by kernel_rfl) rfl) hseq rfl (fun k => k = N)
              (fun k hk => by
                rcases hk with hk | rfl | rfl
                · exact ⟨by omega, by omega⟩
                · exact ⟨ln, by omega⟩
                · exact ⟨ls, by omega⟩) (fun k hk => by omega)
              (fun pre W => W.heap[N]? = some (.cells #[.int .i64 (pre.length : Int)] 3 (0, 0)) ∧ W.heap[w.heap.size + 1]? = some (.cells #[x0, x1, .int .i64 (nn : Int)] 61 (0, 0)) ∧ Below w.heap.size w W)
              (fun s U V ⟨h0, h1, h3⟩ hb => ⟨(hb.block _ (by omega)).trans h0, (hb.block _ (by omega)).trans h1, h3.trans (hb.mono (by omega))⟩) ⟨q3, rb, hB4⟩ ?body ?done
            case body =>
              rintro l pre x W ⟨h0, h1, h3⟩ hp hsz
              have c0 := cell_of_row W _ 0 _ _ _ h0
              have g0 := frozen_of_row W _ 0 _ _ h0
              have hpl := hp.length_le
              rw [List.length_append, List.length_singleton] at hpl
              have hl9 : pre.length < 600 := by have := SPL.out; omega
              have hrow : (W.setCell ⟨N, 0, none⟩ (.int .i64 ((pre.length : Int) + 1))).heap[N]? = some (.cells #[.int .i64 ((pre.length : Int) + 1)] 3 (0, 0)) := heap_setCell_same W _ 0 _ _ _ h0
              have hrow1 : (W.setCell ⟨N, 0, none⟩ (.int .i64 ((pre.length : Int) + 1))).heap[w.heap.size + 1]? = some (.cells #[x0, x1, .int .i64 (nn : Int)] 61 (0, 0)) := by rw [sc_other (by omega)]; exact h1
              have hl : ((pre ++ [x]).length : Int) = (pre.length : Int) + 1 := by simp
              have hkc : KC (fun k => k = N) W (W.setCell ⟨N, 0, none⟩ (.int .i64 ((pre.length : Int) + 1))) := KC.setCell (C := fun k => k = N) (KC.of (Below.refl _ W)) (b := N) (o := 0) rfl _
              have hbl : Below w.heap.size w (W.setCell ⟨N, 0, none⟩ (.int .i64 ((pre.length : Int) + 1))) := h3.setCell (p := ⟨N, 0, none⟩) hwN _
              have HRW : Hid ((W.setCell ⟨N, 0, none⟩ (.int .i64 ((pre.length : Int) + 1))).heap[N]? = some (.cells #[.int .i64 ((pre ++ [x]).length : Int)] 3 (0, 0))) := by unfold Hid; rw [hl]; exact hrow
              have HR1 : Hid (_ = _) := hrow1
              clear hrow hrow1 hl hp hseq h0 h1 h3 hpl
              simp only [List.zip_toArray, List.zip_cons_cons, List.zip_nil_right, List.foldl_toArray, List.foldl_cons, List.foldl_nil, List.setIfInBounds_toArray, List.set_cons_succ, List.set_cons_zero]
              gi_wp2
              exact ⟨hkc, HRW.out, HR1.out, hbl⟩
            case done =>
              rintro W ⟨h0, h1, h3⟩ hkc hD
              rw [HLN.out] at h0
              rw [hnn.out] at h1
              obtain ⟨L, hL⟩ : ∃ L, k - k = L := ⟨_, rfl⟩
              rw [hL] at h0 h1
              have hLk : (k : Int) - (k : Int) = (L : Int) := by omega
              have HLK : Hid ((k : Int) - (k : Int) = (L : Int)) := hLk
              have hL6 : L < 600 := by omega
              have hDl := lt_of_row hD
              clear hseq hL hLk
              gi_wp2
              refine any_tailIn (by kernel_rfl) 11 (by exact Nat.le_of_ble_eq_true rfl) (fun i => i + 84) (mixR [] [.int .i64 (L : Int), .int .i64 (k : Int), .int .i64 (k : Int), .int .i64 (L : Int), .bool true, .bool true, .pointer (some ⟨w.heap.size + 1, 0, none⟩), .int .i64 (L : Int), .int .i64 (L : Int), .bool true, .bool true]) (by kernel_rfl) (by kernel_rfl) (by kernel_rfl) (by kernel_rfl) (mixR_later _ _ (stab_nil)) ?step ?post
              case step =>
                intro iq hiq a W hrest hb hk
                have hp14 : a.eval (.tmp 14) = .pointer (some ⟨N, 0, none⟩) := (hrest 14 (by intro iq2 hiq2; (repeat' split) <;> omega)).trans rfl
                have fp14 := ev hp14
                have hx14 : W.heap[N]? = some (.cells #[.int .i64 (L : Int)] 3 (0, 0)) := (hb.block _ (lt_of_row h0)).trans h0
                have hp7 : a.eval (.tmp 7) = .int .i64 (k : Int) := (hrest 7 (by intro iq2 hiq2; (repeat' split) <;> omega)).trans rfl
                have fp7 := ev hp7
                have hp12 : a.eval (.tmp 12) = .int .i64 (k : Int) := (hrest 12 (by intro iq2 hiq2; (repeat' split) <;> omega)).trans rfl
                have fp12 := ev hp12
                have hp9 : a.eval (.tmp 9) = .pointer (some ⟨w.heap.size + 1, 0, none⟩) := (hrest 9 (by intro iq2 hiq2; (repeat' split) <;> omega)).trans rfl
                have fp9 := ev hp9
                clear hrest
                obtain rfl | rfl | rfl | rfl | rfl | rfl | rfl | rfl | rfl | rfl | rfl : iq = 0 ∨ iq = 1 ∨ iq = 2 ∨ iq = 3 ∨ iq = 4 ∨ iq = 5 ∨ iq = 6 ∨ iq = 7 ∨ iq = 8 ∨ iq = 9 ∨ iq = 10 := by omega
                · clear hiq
                  have hc : W.cell? ⟨N, 0, none⟩ = some (.int .i64 (L : Int)) := cell_of_row W _ 0 _ _ _ hx14
                  clear hk
                  refine ⟨_, rfl, rfl, Or.inl ⟨wanted_none rfl, wpIn_value (v := .int .i64 (L : Int)) (w' := W) ?_ ⟨_, rfl, Below.refl _ _, rfl⟩⟩⟩
                  go_simp
                · clear hiq
                  clear hk
                  refine ⟨_, rfl, rfl, Or.inl ⟨wanted_none rfl, wpIn_value (v := .int .i64 (k : Int)) (w' := W) ?_ ⟨_, rfl, Below.refl _ _, rfl⟩⟩⟩
                  go_simp
                · clear hiq
                  clear hk
                  refine ⟨_, rfl, rfl, Or.inl ⟨wanted_none rfl, wpIn_value (v := .int .i64 (k : Int)) (w' := W) ?_ ⟨_, rfl, Below.refl _ _, rfl⟩⟩⟩
                  go_simp
                · clear hiq
                  have e1 : a.eval (.tmp 85) = .int .i64 (k : Int) := hk 1 (mem_of (by kernel_rfl))
                  have f1 := ev e1
                  have e2 : a.eval (.tmp 86) = .int .i64 (k : Int) := hk 2 (mem_of (by kernel_rfl))
                  have f2 := ev e2
                  clear hk
                  refine ⟨_, rfl, rfl, Or.inl ⟨wanted_none rfl, wpIn_value (v := .int .i64 (L : Int)) (w' := W) ?_ ⟨_, rfl, Below.refl _ _, rfl⟩⟩⟩
                  go_simp
                  rw [IntKind.wrap_i64]; have := HLK.out; omega
                · clear hiq
                  have e0 : a.eval (.tmp 84) = .int .i64 (L : Int) := hk 0 (mem_of (by kernel_rfl))
                  have f0 := ev e0
                  have e3 : a.eval (.tmp 87) = .int .i64 (L : Int) := hk 3 (mem_of (by kernel_rfl))
                  have f3 := ev e3
                  clear hk
                  refine ⟨_, rfl, rfl, Or.inl ⟨wanted_none rfl, wpIn_value (v := .bool true) (w' := W) ?_ ⟨_, rfl, Below.refl _ _, rfl⟩⟩⟩
                  go_simp
                · clear hiq
                  have e4 : a.eval (.tmp 88) = .bool true := hk 4 (mem_of (by kernel_rfl))
                  have f4 := ev e4
                  clear hk
                  refine ⟨_, rfl, rfl, Or.inl ⟨wanted_none rfl, wpIn_value (v := .bool true) (w' := W) ?_ ⟨_, rfl, Below.refl _ _, rfl⟩⟩⟩
                  go_simp
                · clear hiq
                  have e5 : a.eval (.tmp 89) = .bool true := hk 5 (mem_of (by kernel_rfl))
                  have f5 := ev e5
                  clear hk
                  refine ⟨_, rfl, rfl, Or.inl ⟨wanted_of (k := 5) (b := true) rfl rfl e5, wpIn_value (v := .pointer (some ⟨w.heap.size + 1, 0, none⟩)) (w' := W) ?_ ⟨_, rfl, Below.refl _ _, rfl⟩⟩⟩
                  go_simp
                · clear hiq
                  have e5 : a.eval (.tmp 89) = .bool true := hk 5 (mem_of (by kernel_rfl))
                  have f5 := ev e5
                  have e6 : a.eval (.tmp 90) = .pointer (some ⟨w.heap.size + 1, 0, none⟩) := hk 6 (mem_of (by kernel_rfl))
                  have f6 := ev e6
                  clear hk
                  refine ⟨_, rfl, rfl, Or.inl ⟨wanted_of (k := 5) (b := true) rfl rfl e5, wpIn_enter (f := 15) (args := #[.pointer (some ⟨w.heap.size + 1, 0, none⟩)]) ?_ ((len_row _ L x0 x1 W ((hb.block _ (lt_of_row h1)).trans h1)).mono ?_)⟩⟩
                  · go_simp
                  · rintro e w2 ⟨rfl, hb2⟩
                    exact ⟨_, rfl, _, rfl, hb2, rfl⟩
                · clear hiq
                  have e5 : a.eval (.tmp 89) = .bool true := hk 5 (mem_of (by kernel_rfl))
                  have f5 := ev e5
                  have hc : W.cell? ⟨N, 0, none⟩ = some (.int .i64 (L : Int)) := cell_of_row W _ 0 _ _ _ hx14
                  clear hk
                  refine ⟨_, rfl, rfl, Or.inl ⟨wanted_of (k := 5) (b := true) rfl rfl e5, wpIn_value (v := .int .i64 (L : Int)) (w' := W) ?_ ⟨_, rfl, Below.refl _ _, rfl⟩⟩⟩
                  go_simp
                · clear hiq
                  have e5 : a.eval (.tmp 89) = .bool true := hk 5 (mem_of (by kernel_rfl))
                  have f5 := ev e5
                  have e7 : a.eval (.tmp 91) = .int .i64 (L : Int) := hk 7 (mem_of (by kernel_rfl))
                  have f7 := ev e7
                  have e8 : a.eval (.tmp 92) = .int .i64 (L : Int) := hk 8 (mem_of (by kernel_rfl))
                  have f8 := ev e8
                  clear hk
                  refine ⟨_, rfl, rfl, Or.inl ⟨wanted_of (k := 5) (b := true) rfl rfl e5, wpIn_value (v := .bool true) (w' := W) ?_ ⟨_, rfl, Below.refl _ _, rfl⟩⟩⟩
                  go_simp
                · clear hiq
                  have e5 : a.eval (.tmp 89) = .bool true := hk 5 (mem_of (by kernel_rfl))
                  have f5 := ev e5
                  have e9 : a.eval (.tmp 93) = .bool true := hk 9 (mem_of (by kernel_rfl))
                  have f9 := ev e9
                  clear hk
                  refine ⟨_, rfl, rfl, Or.inl ⟨wanted_none rfl, wpIn_value (v := .bool true) (w' := W) ?_ ⟨_, rfl, Below.refl _ _, rfl⟩⟩⟩
                  go_simp
              case post =>
                intro V W2 hb2 hV
                have v10 : V 10 = .bool true := hV 10 (by omega)
                clear hV
                have hD2 := (hb2.block _ hDl).trans hD
                have hBz := h3.trans (hb2.mono h3.size)
                simp only [putAll, Nat.reduceAdd]
                simp only [Act.put, List.setIfInBounds_toArray, List.set_cons_zero, List.set_cons_succ]
                rw [v10]
                gi_wp2
                refine ⟨by simp, .inl ⟨_, _, rfl, run_takeDeferred hD2, ?_⟩⟩
                exact ⟨_, results_tmp rfl _ _ _, rfl, hBz.trans (putObj_below _ _ (by omega))⟩
      · have hgk' : ¬ ((k : Int) < (g : Int)) := by omega
        have hGk : g ≤ k := by omega
        clear hn4
        gi_wp2
        clear hgk hgk' hn5
        gi_loopw [13] (fun s13 wr => ∃ i : Nat, s13 = .int .i64 (i : Int) ∧ i ≤ g ∧ Hid (MA w wr D i k)) (fun s13 _ => g - (intOf s13).toNat)
        case atStart => exact ⟨0, rfl, Nat.zero_le _, I5⟩
        case round =>
          clear I5
          obtain ⟨i, rfl, hik, I⟩ := hrel
          by_cases hlt : i < g
          · have hlt' : (i : Int) < (g : Int) := by omega
            gi_wp2_with fail
            refine ⟨trivial, rfl, ?_⟩
            refine (callsIn_wide.2 (I.out.name i (by omega))).mono ?_
            rintro e w6 ⟨rfl, hI6⟩
            have I6 : Hid (MA w w6 D i k) := hI6
            clear hI6 I
            gi_wp2_with fail
            refine ⟨trivial, rfl, ?_⟩
            refine (callsIn_wide.2 (MA.drop HOD.out I6.out (by omega) (by omega))).mono ?_
            rintro e w7 ⟨rfl, hI7⟩
            have I7 : Hid (MA w w7 D (i + 1) k) := hI7
            clear hI7 I6
            gi_wp2_with fail
            refine ⟨trivial, rfl, ?_⟩
            refine (callsIn_wide.2 (I7.out.name i (by omega))).mono ?_
            rintro e w8 ⟨rfl, hI8⟩
            have I8 : Hid (MA w w8 D (i + 1) k) := hI8
            clear hI8 I7
            gi_wp2_with fail
            refine ⟨trivial, rfl, ?_⟩
            refine (callsIn_wide.2 (MA.drop2 HOD.out I8.out (by omega) (by omega))).mono ?_
            rintro e w9 ⟨rfl, hI9⟩
            have I9 : Hid (MA w w9 D (i + 1) k) := hI9
            clear hI9 I8
            gi_wp2_with fail
            refine ⟨trivial, rfl, ?_⟩
            refine (callsIn_wide.2 (I9.out.deep (by omega))).mono ?_
            rintro e w10 ⟨⟨k10, hk10, rfl⟩, hI10⟩
            have I10 : Hid (MA w w10 D (i + 1) k) := hI10
            have hn10 : ¬ ((k10 : Int) + 1 < 1) := by omega
            clear hI10 I9
            gi_wp2
            go_roundw
            case rel => exact ⟨i + 1, by rw [Int.natCast_succ], hlt, I10⟩
            case measure => simp [intOf]; omega
          · obtain rfl : g = i := by omega
            have hnl : ¬ ((g : Int) < (g : Int)) := by omega
            obtain ⟨h, t, R, T, hm, -, -⟩ := I.out.ex
            obtain ⟨p, c, q, d, hrow, hL⟩ := T.ex
            have hB := I.out.bel
            have hlr := lt_of_row hrow
            obtain ⟨w3, hw3⟩ : ∃ w3, (wr.alloc (.cells #[.int .i64 0] 3)).setCell ⟨wr.heap.size, 0, none⟩ (.int .i64 0) = w3 := ⟨_, rfl⟩
            have hb3 : Below wr.heap.size wr w3 := by rw [← hw3]; exact ((Below.refl _ wr).alloc (Nat.le_refl _) _).setCell (p := ⟨wr.heap.size, 0, none⟩) (Nat.le_refl _) _
            have r3 : w3.heap[wr.heap.size]? = some (.cells #[.int .i64 0] 3 (0, 0)) := by rw [← hw3]; exact heap_setCell_same _ _ 0 _ _ _ (heap_alloc_new wr (.cells #[.int .i64 0] 3))
            obtain ⟨N, hN⟩ : ∃ N, wr.heap.size = N := ⟨_, rfl⟩
            rw [hN] at r3 hlr
            have HN : Hid (wr.heap.size = N) := hN
            clear hN
            have hB3 : Below w.heap.size w w3 := hB.trans (hb3.mono hB.size)
            have kr := range_tree p _ c q _ d _ (w.heap.size + 1) ⟨#[]⟩ ⟨#[]⟩ w3 ((hb3.block _ (lt_of_row hrow)).trans hrow)
            have hsp := span_flat ⟨#[]⟩ ⟨#[]⟩ R.bal R.pw
            rw [inS_all] at hsp
            obtain ⟨SP, hSP⟩ : ∃ SP, flat h t = SP := ⟨_, rfl⟩
            have hSEQ : ∀ bn bs W, Below wr.heap.size wr W → W.heap[bn]? = some (.cells #[.slice p (its h t).length c, .slice q (kdn h t) d] 59 (0, 0)) → W.heap[bs]? = some (.cells #[.string ⟨#[]⟩, .string ⟨#[]⟩] 24 (0, 0)) → SeqB Try.prog 38 #[.pointer (some ⟨bn, 0, none⟩), .pointer (some ⟨bs, 0, none⟩)] (fun x : Im => #[.string x.1, .string x.2]) SP (fun k => k < wr.heap.size ∨ k = bn ∨ k = bs) W := fun bn bs W hb hn hs => by
              have := span_seq ⟨#[]⟩ ⟨#[]⟩ R.ok hL hb hn hs
              rw [hsp, hSP] at this
              exact this
            have hlen : SP.length = k - g := by rw [← hSP]; exact hm
            have HLN : Hid (SP.length = k - g) := hlen
            have I3 : Hid (MA w w3 D g k) := I.out.later hb3
            clear hsp hSP hlen hm T R hL hrow hB hik hlt I
            gi_wp2_with fail
            refine ⟨trivial, rfl, ?_⟩
            refine (callsIn_wide.2 kr).mono ?_
            rintro e w4 ⟨bn, bs, rfl, hn1, hn2, rn, rs, hb4⟩
            have hB4 : Below w.heap.size w w4 := hB3.trans (hb4.mono hB3.size)
            have q3 := (hb4.block _ (lt_of_row r3)).trans r3
            have hseq := hSEQ bn bs w4 (hb3.trans (hb4.mono hb3.size)) rn rs
            have I4 : Hid (MA w w4 D g k) := I3.out.later hb4
            have ln := lt_of_row rn
            have ls := lt_of_row rs
            have l3 := lt_of_row q3
            rw [HN.out] at hseq
            have hN := HN.out
            have hs3 := lt_of_row r3
            clear kr hSEQ hb3 rn rs hw3 I3 hB3
            gi_wp2
            obtain ⟨x0, x1, nn, rb, hnn⟩ : ∃ x0 x1, ∃ nn : Nat, w4.heap[w.heap.size + 1]? = some (.cells #[x0, x1, .int .i64 (nn : Int)] 61 (0, 0)) ∧ Hid (nn = k - g) := by
              obtain ⟨h, t, R, T, -, -, -⟩ := I4.out.ex
              obtain ⟨p, c, q, d, hrow, -⟩ := T.ex
              exact ⟨_, _, _, hrow, (rfl : k - g = k - g)⟩
            have lb := lt_of_row rb
            have hwN : w.heap.size ≤ N := by omega
            have SPL : Hid (SP.length ≤ 600) := by have := HLN.out; exact (by omega : SP.length ≤ 600)
            refine range_s (gf := 38) (lb := #[.pointer (some ⟨bn, 0, none⟩), .pointer (some ⟨bs, 0, none⟩)]) rfl (enters_of Try.func38 (by kernel_rfl) rfl) hseq rfl (fun k => k = N)
              (fun k hk => by
                rcases hk with hk | rfl | rfl
                · exact ⟨by omega, by omega⟩
                · exact ⟨ln, by omega⟩
                · exact ⟨ls, by omega⟩) (fun k hk => by omega)
              (fun pre W => W.heap[N]? = some (.cells #[.int .i64 (pre.length : Int)] 3 (0, 0)) ∧ W.heap[w.heap.size + 1]? = some (.cells #[x0, x1, .int .i64 (nn : Int)] 61 (0, 0)) ∧ Below w.heap.size w W)
              (fun s U V ⟨h0, h1, h3⟩ hb => ⟨(hb.block _ (by omega)).trans h0, (hb.block _ (by omega)).trans h1, h3.trans (hb.mono (by omega))⟩) ⟨q3, rb, hB4⟩ ?body ?done
            case body =>
              rintro l pre x W ⟨h0, h1, h3⟩ hp hsz
              have c0 := cell_of_row W _ 0 _ _ _ h0
              have g0 := frozen_of_row W _ 0 _ _ h0
              have hpl := hp.length_le
              rw [List.length_append, List.length_singleton] at hpl
              have hl9 : pre.length < 600 := by have := SPL.out; omega
              have hrow : (W.setCell ⟨N, 0, none⟩ (.int .i64 ((pre.length : Int) + 1))).heap[N]? = some (.cells #[.int .i64 ((pre.length : Int) + 1)] 3 (0, 0)) := heap_setCell_same W _ 0 _ _ _ h0
              have hrow1 : (W.setCell ⟨N, 0, none⟩ (.int .i64 ((pre.length : Int) + 1))).heap[w.heap.size + 1]? = some (.cells #[x0, x1, .int .i64 (nn : Int)] 61 (0, 0)) := by rw [sc_other (by omega)]; exact h1
              have hl : ((pre ++ [x]).length : Int) = (pre.length : Int) + 1 := by simp
              have hkc : KC (fun k => k = N) W (W.setCell ⟨N, 0, none⟩ (.int .i64 ((pre.length : Int) + 1))) := KC.setCell (C := fun k => k = N) (KC.of (Below.refl _ W)) (b := N) (o := 0) rfl _
              have hbl : Below w.heap.size w (W.setCell ⟨N, 0, none⟩ (.int .i64 ((pre.length : Int) + 1))) := h3.setCell (p := ⟨N, 0, none⟩) hwN _
              have HRW : Hid ((W.setCell ⟨N, 0, none⟩ (.int .i64 ((pre.length : Int) + 1))).heap[N]? = some (.cells #[.int .i64 ((pre ++ [x]).length : Int)] 3 (0, 0))) := by unfold Hid; rw [hl]; exact hrow
              have HR1 : Hid (_ = _) := hrow1
              clear hrow hrow1 hl hp hseq h0 h1 h3 hpl
              simp only [List.zip_toArray, List.zip_cons_cons, List.zip_nil_right, List.foldl_toArray, List.foldl_cons, List.foldl_nil, List.setIfInBounds_toArray, List.set_cons_succ, List.set_cons_zero]
              gi_wp2
              exact ⟨hkc, HRW.out, HR1.out, hbl⟩
            case done =>
              rintro W ⟨h0, h1, h3⟩ hkc hD
              rw [HLN.out] at h0
              rw [hnn.out] at h1
              obtain ⟨L, hL⟩ : ∃ L, k - g = L := ⟨_, rfl⟩
              rw [hL] at h0 h1
              have hLk : (k : Int) - (g : Int) = (L : Int) := by omega
              have HLK : Hid ((k : Int) - (g : Int) = (L : Int)) := hLk
              have hL6 : L < 600 := by omega
              have hDl := lt_of_row hD
              clear hseq hL hLk
              gi_wp2
              refine any_tailIn (by kernel_rfl) 11 (by exact Nat.le_of_ble_eq_true rfl) (fun i => i + 84) (mixR [] [.int .i64 (L : Int), .int .i64 (k : Int), .int .i64 (g : Int), .int .i64 (L : Int), .bool true, .bool true, .pointer (some ⟨w.heap.size + 1, 0, none⟩), .int .i64 (L : Int), .int .i64 (L : Int), .bool true, .bool true]) (by kernel_rfl) (by kernel_rfl) (by kernel_rfl) (by kernel_rfl) (mixR_later _ _ (stab_nil)) ?step ?post
              case step =>
                intro iq hiq a W hrest hb hk
                have hp14 : a.eval (.tmp 14) = .pointer (some ⟨N, 0, none⟩) := (hrest 14 (by intro iq2 hiq2; (repeat' split) <;> omega)).trans rfl
                have fp14 := ev hp14
                have hx14 : W.heap[N]? = some (.cells #[.int .i64 (L : Int)] 3 (0, 0)) := (hb.block _ (lt_of_row h0)).trans h0
                have hp7 : a.eval (.tmp 7) = .int .i64 (k : Int) := (hrest 7 (by intro iq2 hiq2; (repeat' split) <;> omega)).trans rfl
                have fp7 := ev hp7
                have hp12 : a.eval (.tmp 12) = .int .i64 (g : Int) := (hrest 12 (by intro iq2 hiq2; (repeat' split) <;> omega)).trans rfl
                have fp12 := ev hp12
                have hp9 : a.eval (.tmp 9) = .pointer (some ⟨w.heap.size + 1, 0, none⟩) := (hrest 9 (by intro iq2 hiq2; (repeat' split) <;> omega)).trans rfl
                have fp9 := ev hp9
                clear hrest
                obtain rfl | rfl | rfl | rfl | rfl | rfl | rfl | rfl | rfl | rfl | rfl : iq = 0 ∨ iq = 1 ∨ iq = 2 ∨ iq = 3 ∨ iq = 4 ∨ iq = 5 ∨ iq = 6 ∨ iq = 7 ∨ iq = 8 ∨ iq = 9 ∨ iq = 10 := by omega
                · clear hiq
                  have hc : W.cell? ⟨N, 0, none⟩ = some (.int .i64 (L : Int)) := cell_of_row W _ 0 _ _ _ hx14
                  clear hk
                  refine ⟨_, rfl, rfl, Or.inl ⟨wanted_none rfl, wpIn_value (v := .int .i64 (L : Int)) (w' := W) ?_ ⟨_, rfl, Below.refl _ _, rfl⟩⟩⟩
                  go_simp
                · clear hiq
                  clear hk
                  refine ⟨_, rfl, rfl, Or.inl ⟨wanted_none rfl, wpIn_value (v := .int .i64 (k : Int)) (w' := W) ?_ ⟨_, rfl, Below.refl _ _, rfl⟩⟩⟩
                  go_simp
                · clear hiq
                  clear hk
                  refine ⟨_, rfl, rfl, Or.inl ⟨wanted_none rfl, wpIn_value (v := .int .i64 (g : Int)) (w' := W) ?_ ⟨_, rfl, Below.refl _ _, rfl⟩⟩⟩
                  go_simp
                · clear hiq
                  have e1 : a.eval (.tmp 85) = .int .i64 (k : Int) := hk 1 (mem_of (by kernel_rfl))
                  have f1 := ev e1
                  have e2 : a.eval (.tmp 86) = .int .i64 (g : Int) := hk 2 (mem_of (by kernel_rfl))
                  have f2 := ev e2
                  clear hk
                  refine ⟨_, rfl, rfl, Or.inl ⟨wanted_none rfl, wpIn_value (v := .int .i64 (L : Int)) (w' := W) ?_ ⟨_, rfl, Below.refl _ _, rfl⟩⟩⟩
                  go_simp
                  rw [IntKind.wrap_i64]; have := HLK.out; omega
                · clear hiq
                  have e0 : a.eval (.tmp 84) = .int .i64 (L : Int) := hk 0 (mem_of (by kernel_rfl))
                  have f0 := ev e0
                  have e3 : a.eval (.tmp 87) = .int .i64 (L : Int) := hk 3 (mem_of (by kernel_rfl))
                  have f3 := ev e3
                  clear hk
                  refine ⟨_, rfl, rfl, Or.inl ⟨wanted_none rfl, wpIn_value (v := .bool true) (w' := W) ?_ ⟨_, rfl, Below.refl _ _, rfl⟩⟩⟩
                  go_simp
                · clear hiq
                  have e4 : a.eval (.tmp 88) = .bool true := hk 4 (mem_of (by kernel_rfl))
                  have f4 := ev e4
                  clear hk
                  refine ⟨_, rfl, rfl, Or.inl ⟨wanted_none rfl, wpIn_value (v := .bool true) (w' := W) ?_ ⟨_, rfl, Below.refl _ _, rfl⟩⟩⟩
                  go_simp
                · clear hiq
                  have e5 : a.eval (.tmp 89) = .bool true := hk 5 (mem_of (by kernel_rfl))
                  have f5 := ev e5
                  clear hk
                  refine ⟨_, rfl, rfl, Or.inl ⟨wanted_of (k := 5) (b := true) rfl rfl e5, wpIn_value (v := .pointer (some ⟨w.heap.size + 1, 0, none⟩)) (w' := W) ?_ ⟨_, rfl, Below.refl _ _, rfl⟩⟩⟩
                  go_simp
                · clear hiq
                  have e5 : a.eval (.tmp 89) = .bool true := hk 5 (mem_of (by kernel_rfl))
                  have f5 := ev e5
                  have e6 : a.eval (.tmp 90) = .pointer (some ⟨w.heap.size + 1, 0, none⟩) := hk 6 (mem_of (by kernel_rfl))
                  have f6 := ev e6
                  clear hk
                  refine ⟨_, rfl, rfl, Or.inl ⟨wanted_of (k := 5) (b := true) rfl rfl e5, wpIn_enter (f := 15) (args := #[.pointer (some ⟨w.heap.size + 1, 0, none⟩)]) ?_ ((len_row _ L x0 x1 W ((hb.block _ (lt_of_row h1)).trans h1)).mono ?_)⟩⟩
                  · go_simp
                  · rintro e w2 ⟨rfl, hb2⟩
                    exact ⟨_, rfl, _, rfl, hb2, rfl⟩
                · clear hiq
                  have e5 : a.eval (.tmp 89) = .bool true := hk 5 (mem_of (by kernel_rfl))
                  have f5 := ev e5
                  have hc : W.cell? ⟨N, 0, none⟩ = some (.int .i64 (L : Int)) := cell_of_row W _ 0 _ _ _ hx14
                  clear hk
                  refine ⟨_, rfl, rfl, Or.inl ⟨wanted_of (k := 5) (b := true) rfl rfl e5, wpIn_value (v := .int .i64 (L : Int)) (w' := W) ?_ ⟨_, rfl, Below.refl _ _, rfl⟩⟩⟩
                  go_simp
                · clear hiq
                  have e5 : a.eval (.tmp 89) = .bool true := hk 5 (mem_of (by kernel_rfl))
                  have f5 := ev e5
                  have e7 : a.eval (.tmp 91) = .int .i64 (L : Int) := hk 7 (mem_of (by kernel_rfl))
                  have f7 := ev e7
                  have e8 : a.eval (.tmp 92) = .int .i64 (L : Int) := hk 8 (mem_of (by kernel_rfl))
                  have f8 := ev e8
                  clear hk
                  refine ⟨_, rfl, rfl, Or.inl ⟨wanted_of (k := 5) (b := true) rfl rfl e5, wpIn_value (v := .bool true) (w' := W) ?_ ⟨_, rfl, Below.refl _ _, rfl⟩⟩⟩
                  go_simp
                · clear hiq
                  have e5 : a.eval (.tmp 89) = .bool true := hk 5 (mem_of (by kernel_rfl))
                  have f5 := ev e5
                  have e9 : a.eval (.tmp 93) = .bool true := hk 9 (mem_of (by kernel_rfl))
                  have f9 := ev e9
                  clear hk
                  refine ⟨_, rfl, rfl, Or.inl ⟨wanted_none rfl, wpIn_value (v := .bool true) (w' := W) ?_ ⟨_, rfl, Below.refl _ _, rfl⟩⟩⟩
                  go_simp
              case post =>
                intro V W2 hb2 hV
                have v10 : V 10 = .bool true := hV 10 (by omega)
                clear hV
                have hD2 := (hb2.block _ hDl).trans hD
                have hBz := h3.trans (hb2.mono h3.size)
                simp only [putAll, Nat.reduceAdd]
                simp only [Act.put, List.setIfInBounds_toArray, List.set_cons_zero, List.set_cons_succ]
                rw [v10]
                gi_wp2
                refine ⟨by simp, .inl ⟨_, _, rfl, run_takeDeferred hD2, ?_⟩⟩
                exact ⟨_, results_tmp rfl _ _ _, rfl, hBz.trans (putObj_below _ _ (by omega))⟩
end Go.Proofs.Ytiplmlalhmldbaa
