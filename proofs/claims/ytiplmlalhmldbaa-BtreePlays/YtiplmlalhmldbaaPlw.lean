/- The law BtreePlays as a walk: of any acts and any span the call returns true, and nothing that was there has changed. -/
import Derived.Test.YtiplmlalhmldbaaPlb
import Derived.Test.YtiplmlalhmldbaaAgg
namespace Go.Proofs.Ytiplmlalhmldbaa
open Go.RowKit Go.Shelf
attribute [local go_sem] Oper.semAt_some
/- A list of acts that lies somewhere: a number and two texts each. -/
structure Ats (w : World) (p : Option Addr) (n c : Nat) (K : Nat → Int) (S V : Nat → ByteArray) : Prop where
  cap : n ≤ c ∧ c ≤ maxLen
  at' : 0 < n → ∃ b o, p = some ⟨b, o, none⟩ ∧ b < w.heap.size ∧ ∀ i, i < n → w.cell? ⟨b, o + i * 3, none⟩ = some (.int .i64 (K i)) ∧ w.cell? ⟨b, o + i * 3 + 1, none⟩ = some (.string (S i)) ∧ w.cell? ⟨b, o + i * 3 + 2, none⟩ = some (.string (V i))
def StV (v : Value) (_ : World) : Prop := ∃ k, v = .string k
theorem StV.later : ∀ v W W', StV v W → Below W.heap.size W W' → StV v W' := fun _ _ _ h _ => h
set_option maxRecDepth 100000 in
set_option maxHeartbeats 8000000 in
theorem plays_walk (K : Nat → Int) (S V : Nat → ByteArray) (p : Option Addr) (n c : Nat) (lo hi : ByteArray) (w : World) (hA : Ats w p n c K S V) (hsS : ∀ i, i < n → (S i).size ≤ maxLen) (hsV : ∀ i, i < n → (V i).size ≤ maxLen) :
    Calls Try.prog 3 #[.slice p n c, .agg #[.string lo, .string hi]] w fun e w' => e = .returned (.bool true) ∧ Below w.heap.size w w' := by
  have hcap := hA.cap
  have hmx : maxLen = 9223372036854775807 := rfl
  obtain ⟨wa, hwa⟩ : ∃ wa, w.alloc (.cells #[.string lo, .string hi] 24) = wa := ⟨_, rfl⟩
  have ba : Below w.heap.size w wa := by rw [← hwa]; exact (Below.refl _ w).alloc (Nat.le_refl _) _
  have ra : wa.heap[w.heap.size]? = some (.cells #[.string lo, .string hi] 24 (0, 0)) := by rw [← hwa]; exact heap_alloc_new _ _
  have sa : wa.heap.size = w.heap.size + 1 := by rw [← hwa]; simp
  go_enter Try.func3, Try.ntmps3
  go_wp2_with fail
  refine (new_any wa).mono ?_
  rintro e w1 ⟨rfl, T1, hb1⟩
  rw [sa]
  rw [sa] at T1
  obtain ⟨w2, hw2⟩ : ∃ w2, w1.alloc (.cells #[] 39) = w2 := ⟨_, rfl⟩
  have hb2 : Below w1.heap.size w1 w2 := by rw [← hw2]; exact (Below.refl _ w1).alloc (Nat.le_refl _) _
  obtain ⟨z, hz⟩ : ∃ z, w1.heap.size = z := ⟨_, rfl⟩
  have I0 : PB w w2 (w.heap.size + 1) lo hi 0 (some ⟨z, 0, none⟩) 0 0 := by
    have b12 := hb1.trans (hb2.mono hb1.size)
    refine ⟨⟨0, ([] : List Im), ⟨?_, ?_, by decide, Or.inl rfl⟩, T1.later hb2, rfl, Nat.le_refl _, ⟨⟨Nat.le_refl _, Nat.zero_le _⟩, rfl, itC_one _, fun h => absurd h (Nat.lt_irrefl _)⟩⟩, (b12.block _ (lt_of_row ra)).trans ra, ba.trans (b12.mono ba.size), Nat.lt_succ_self _⟩
    · trivial
    · trivial
  clear T1 hb1 hb2 ra
  go_wp2
  go_loopw [6, 7] (fun s6 s7 wr => ∃ (i m d : Nat) (q : Option Addr), s6 = .slice q m d ∧ s7 = .int .i64 (i : Int) ∧ i ≤ n ∧ i ≤ 300 ∧ Hid (PB w wr (w.heap.size + 1) lo hi i q m d)) (fun _ s7 _ => n - (intOf s7).toNat)
  case atStart => exact ⟨0, 0, 0, _, rfl, rfl, Nat.zero_le _, Nat.zero_le _, I0⟩
  case round =>
    clear hwa sa ba hw2 hz I0
    obtain ⟨i, m, d, q, rfl, rfl, hin, hi60, I⟩ := hrel
    by_cases hlt : i < n ∧ i < 300
    · obtain ⟨h1, h2⟩ := hlt
      obtain ⟨b, o, rfl, hb0, hc⟩ := hA.at' (by omega)
      obtain ⟨y0, y1, y2⟩ := hc i h1
      have z0 := (cell_later I.out.bel hb0).trans y0
      have z1 := (cell_later I.out.bel hb0).trans y1
      have z2 := (cell_later I.out.bel hb0).trans y2
      have hbr : b < wr.heap.size := Nat.lt_of_lt_of_le hb0 I.out.bel.size
      have hsk := hsS i h1
      have hsv := hsV i h1
      generalize hsk' : S i = sk at hsk z1
      generalize hsv' : V i = sv at hsv z2
      generalize hkd' : K i = kd at z0
      clear hc y0 y1 y2 hsk' hsv' hkd'
      have h1' : (i : Int) < (n : Int) := by omega
      have h2' : (i : Int) < 300 := by omega
      go_wp2
      refine any_tail (by kernel_rfl) 12 (by exact Nat.le_of_ble_eq_true rfl) (fun i => i + 27) (mixR [(5, StV), (11, StV)] [.slice (some ⟨b, o, none⟩) n c, .int .i64 (i : Int), .pointer (some ⟨b, o + i * 3, none⟩), .pointer (some ⟨b, o + i * 3 + 1, none⟩), .string sk, undef, .slice (some ⟨b, o, none⟩) n c, .int .i64 (i : Int), .pointer (some ⟨b, o + i * 3, none⟩), .pointer (some ⟨b, o + i * 3 + 2, none⟩), .string sv, undef]) (by kernel_rfl) (by kernel_rfl) (by kernel_rfl) (by kernel_rfl) (mixR_later _ _ (stab_cons StV.later (stab_cons StV.later stab_nil))) ?step ?post
      case step =>
        intro iq hiq a W hrest hb hk
        have hp0 : a.eval (.tmp 0) = .slice (some ⟨b, o, none⟩) n c := (hrest 0 (by intro iq2 hiq2; (repeat' split) <;> omega)).trans rfl
        have fp0 := ev hp0
        have hp7 : a.eval (.tmp 7) = .int .i64 (i : Int) := (hrest 7 (by intro iq2 hiq2; (repeat' split) <;> omega)).trans rfl
        have fp7 := ev hp7
        clear hrest
        obtain rfl | rfl | rfl | rfl | rfl | rfl | rfl | rfl | rfl | rfl | rfl | rfl : iq = 0 ∨ iq = 1 ∨ iq = 2 ∨ iq = 3 ∨ iq = 4 ∨ iq = 5 ∨ iq = 6 ∨ iq = 7 ∨ iq = 8 ∨ iq = 9 ∨ iq = 10 ∨ iq = 11 := by omega
        · clear hiq
          clear hk
          refine ⟨_, rfl, rfl, rfl, wp_value (v := .slice (some ⟨b, o, none⟩) n c) (w' := W) ?_ ⟨_, rfl, Below.refl _ _, rfl⟩⟩
          go_simp
        · clear hiq
          clear hk
          refine ⟨_, rfl, rfl, rfl, wp_value (v := .int .i64 (i : Int)) (w' := W) ?_ ⟨_, rfl, Below.refl _ _, rfl⟩⟩
          go_simp
        · clear hiq
          have e0 : a.eval (.tmp 27) = .slice (some ⟨b, o, none⟩) n c := hk 0 (mem_of (by kernel_rfl))
          have f0 := ev e0
          have e1 : a.eval (.tmp 28) = .int .i64 (i : Int) := hk 1 (mem_of (by kernel_rfl))
          have f1 := ev e1
          clear hk
          refine ⟨_, rfl, rfl, rfl, wp_value (v := .pointer (some ⟨b, o + i * 3, none⟩)) (w' := W) ?_ ⟨_, rfl, Below.refl _ _, rfl⟩⟩
          go_simp
        · clear hiq
          have e2 : a.eval (.tmp 29) = .pointer (some ⟨b, o + i * 3, none⟩) := hk 2 (mem_of (by kernel_rfl))
          have f2 := ev e2
          clear hk
          refine ⟨_, rfl, rfl, rfl, wp_value (v := .pointer (some ⟨b, o + i * 3 + 1, none⟩)) (w' := W) ?_ ⟨_, rfl, Below.refl _ _, rfl⟩⟩
          go_simp
        · clear hiq
          have e3 : a.eval (.tmp 30) = .pointer (some ⟨b, o + i * 3 + 1, none⟩) := hk 3 (mem_of (by kernel_rfl))
          have f3 := ev e3
          have k1 := (cell_later hb hbr).trans z1
          clear hk
          refine ⟨_, rfl, rfl, rfl, wp_value (v := .string sk) (w' := W) ?_ ⟨_, rfl, Below.refl _ _, rfl⟩⟩
          go_simp
        · clear hiq
          have e4 : a.eval (.tmp 31) = .string sk := hk 4 (mem_of (by kernel_rfl))
          have f4 := ev e4
          clear hk
          refine ⟨_, rfl, rfl, rfl, wp_enter (f := 8) (args := #[.string sk]) ?_ ((few_any sk hsk W).mono ?_)⟩
          · go_simp
          · rintro e w2 ⟨⟨k, rfl⟩, hb2⟩
            exact ⟨_, rfl, _, rfl, hb2, ⟨k, rfl⟩⟩
        · clear hiq
          clear hk
          refine ⟨_, rfl, rfl, rfl, wp_value (v := .slice (some ⟨b, o, none⟩) n c) (w' := W) ?_ ⟨_, rfl, Below.refl _ _, rfl⟩⟩
          go_simp
        · clear hiq
          clear hk
          refine ⟨_, rfl, rfl, rfl, wp_value (v := .int .i64 (i : Int)) (w' := W) ?_ ⟨_, rfl, Below.refl _ _, rfl⟩⟩
          go_simp
        · clear hiq
          have e6 : a.eval (.tmp 33) = .slice (some ⟨b, o, none⟩) n c := hk 6 (mem_of (by kernel_rfl))
          have f6 := ev e6
          have e7 : a.eval (.tmp 34) = .int .i64 (i : Int) := hk 7 (mem_of (by kernel_rfl))
          have f7 := ev e7
          clear hk
          refine ⟨_, rfl, rfl, rfl, wp_value (v := .pointer (some ⟨b, o + i * 3, none⟩)) (w' := W) ?_ ⟨_, rfl, Below.refl _ _, rfl⟩⟩
          go_simp
        · clear hiq
          have e8 : a.eval (.tmp 35) = .pointer (some ⟨b, o + i * 3, none⟩) := hk 8 (mem_of (by kernel_rfl))
          have f8 := ev e8
          clear hk
          refine ⟨_, rfl, rfl, rfl, wp_value (v := .pointer (some ⟨b, o + i * 3 + 2, none⟩)) (w' := W) ?_ ⟨_, rfl, Below.refl _ _, rfl⟩⟩
          go_simp
        · clear hiq
          have e9 : a.eval (.tmp 36) = .pointer (some ⟨b, o + i * 3 + 2, none⟩) := hk 9 (mem_of (by kernel_rfl))
          have f9 := ev e9
          have k1 := (cell_later hb hbr).trans z2
          clear hk
          refine ⟨_, rfl, rfl, rfl, wp_value (v := .string sv) (w' := W) ?_ ⟨_, rfl, Below.refl _ _, rfl⟩⟩
          go_simp
        · clear hiq
          have e10 : a.eval (.tmp 37) = .string sv := hk 10 (mem_of (by kernel_rfl))
          have f10 := ev e10
          clear hk
          refine ⟨_, rfl, rfl, rfl, wp_enter (f := 8) (args := #[.string sv]) ?_ ((few_any sv hsv W).mono ?_)⟩
          · go_simp
          · rintro e w2 ⟨⟨k, rfl⟩, hb2⟩
            exact ⟨_, rfl, _, rfl, hb2, ⟨k, rfl⟩⟩
      case post =>
        intro V5 W hbW hV
        obtain ⟨k, ek⟩ : ∃ k, V5 5 = .string k := hV 5 (by omega)
        obtain ⟨v, ev⟩ : ∃ k, V5 11 = .string k := hV 11 (by omega)
        clear hV
        simp only [putAll, Nat.reduceAdd]
        rw [ek, ev]
        simp only [Act.put, List.setIfInBounds_toArray, List.set_cons_zero, List.set_cons_succ]
        clear ek ev
        have z0' := (cell_later hbW hbr).trans z0
        have I5 : Hid (PB w W (w.heap.size + 1) lo hi i q m d) := I.out.later hbW
        clear I z0 z1 z2 hbW hsk hsv
        by_cases hk2 : kd = 2
        · subst hk2
          have hdr := I5.out.drop h2 k
          go_wp2_with fail
          refine hdr.mono ?_
          rintro e w6 ⟨q7, m7, d7, r7, rfl, hc7⟩
          clear hdr I5 z0'
          go_wp2_with fail
          refine hc7.mono ?_
          rintro e w7 ⟨rfl, hI7⟩
          have I7 : Hid (PB w w7 (w.heap.size + 1) lo hi (i + 1) q7 m7 d7) := hI7
          clear hI7 hc7
          have hl := I7.out.len
          go_wp2_with fail
          refine hl.mono ?_
          rintro e w8 ⟨rfl, hI8⟩
          have I8 : Hid (PB w w8 (w.heap.size + 1) lo hi (i + 1) q7 m7 d7) := hI8
          clear hI8 hl I7
          have hdp := I8.out.deep (by omega)
          go_wp2_with fail
          refine hdp.mono ?_
          rintro e w9 ⟨⟨kk, hkk, rfl⟩, hI9⟩
          have I9 : Hid (PB w w9 (w.heap.size + 1) lo hi (i + 1) q7 m7 d7) := hI9
          have hk1 : ¬ ((kk : Int) + 1 < 1) := by omega
          clear hI9 hdp I8
          go_wp2
          go_roundw
          case rel => exact ⟨i + 1, m7, d7, q7, rfl, by rw [Int.natCast_succ], h1, h2, I9⟩
          case measure => simp [intOf]; omega
        · by_cases hk3 : kd = 3
          · subst hk3
            have hge := I5.out.get h2 k
            go_wp2_with fail
            refine hge.mono ?_
            rintro e w6 ⟨ia, is, rfl, hc7⟩
            clear hge I5 z0'
            go_wp2_with fail
            refine hc7.mono ?_
            rintro e w7 ⟨val, rfl, hI7, hno, hyes⟩
            obtain ⟨q7, hq7⟩ : ∃ q7, q = q7 := ⟨_, rfl⟩
            obtain ⟨m7, hm7⟩ : ∃ q7, m = q7 := ⟨_, rfl⟩
            obtain ⟨d7, hd7⟩ : ∃ q7, d = q7 := ⟨_, rfl⟩
            subst hq7 hm7 hd7
            have I7 : Hid (PB w w7 (w.heap.size + 1) lo hi (i + 1) q m d) := hI7
            clear hI7 hc7
            cases is with
            | true =>
              obtain ⟨g1, g2, g3, bb, oo, rfl, gc⟩ := hyes rfl
              have g1' : (ia : Int) < (m : Int) := by omega
              clear hno hyes
              have hl := I7.out.len
              go_wp2_with fail
              refine hl.mono ?_
              rintro e w8 ⟨rfl, hI8⟩
              have I8 : Hid (PB w w8 (w.heap.size + 1) lo hi (i + 1) (some ⟨bb, oo, none⟩) m d) := hI8
              clear hI8 hl I7
              have hdp := I8.out.deep (by omega)
              go_wp2_with fail
              refine hdp.mono ?_
              rintro e w9 ⟨⟨kk, hkk, rfl⟩, hI9⟩
              have I9 : Hid (PB w w9 (w.heap.size + 1) lo hi (i + 1) (some ⟨bb, oo, none⟩) m d) := hI9
              have hk1 : ¬ ((kk : Int) + 1 < 1) := by omega
              clear hI9 hdp I8
              go_wp2
              go_roundw
              case rel => exact ⟨i + 1, m, d, (some ⟨bb, oo, none⟩), rfl, by rw [Int.natCast_succ], h1, h2, I9⟩
              case measure => simp [intOf]; omega
            | false =>
              have hv := hno rfl
              subst hv
              clear hno hyes
              have hl := I7.out.len
              go_wp2_with fail
              refine hl.mono ?_
              rintro e w8 ⟨rfl, hI8⟩
              have I8 : Hid (PB w w8 (w.heap.size + 1) lo hi (i + 1) q m d) := hI8
              clear hI8 hl I7
              have hdp := I8.out.deep (by omega)
              go_wp2_with fail
              refine hdp.mono ?_
              rintro e w9 ⟨⟨kk, hkk, rfl⟩, hI9⟩
              have I9 : Hid (PB w w9 (w.heap.size + 1) lo hi (i + 1) q m d) := hI9
              have hk1 : ¬ ((kk : Int) + 1 < 1) := by omega
              clear hI9 hdp I8
              go_wp2
              go_roundw
              case rel => exact ⟨i + 1, m, d, q, rfl, by rw [Int.natCast_succ], h1, h2, I9⟩
              case measure => simp [intOf]; omega
          · have hpu := I5.out.put h2 k v
            go_wp2_with fail
            refine hpu.mono ?_
            rintro e w6 ⟨q7, m7, d7, r7, rfl, hc7⟩
            clear hpu I5 z0'
            go_wp2_with fail
            refine hc7.mono ?_
            rintro e w7 ⟨rfl, hI7⟩
            have I7 : Hid (PB w w7 (w.heap.size + 1) lo hi (i + 1) q7 m7 d7) := hI7
            clear hI7 hc7
            have hl := I7.out.len
            go_wp2_with fail
            refine hl.mono ?_
            rintro e w8 ⟨rfl, hI8⟩
            have I8 : Hid (PB w w8 (w.heap.size + 1) lo hi (i + 1) q7 m7 d7) := hI8
            clear hI8 hl I7
            have hdp := I8.out.deep (by omega)
            go_wp2_with fail
            refine hdp.mono ?_
            rintro e w9 ⟨⟨kk, hkk, rfl⟩, hI9⟩
            have I9 : Hid (PB w w9 (w.heap.size + 1) lo hi (i + 1) q7 m7 d7) := hI9
            have hk1 : ¬ ((kk : Int) + 1 < 1) := by omega
            clear hI9 hdp I8
            go_wp2
            go_roundw
            case rel => exact ⟨i + 1, m7, d7, q7, rfl, by rw [Int.natCast_succ], h1, h2, I9⟩
            case measure => simp [intOf]; omega
    · by_cases h1 : i < n
      · have h2 : ¬ ((i : Int) < 300) := by omega
        have h1' : (i : Int) < (n : Int) := by omega
        clear hlt
        go_wp2_with fail
        have hB0 := I.out.bel
        have rbx := I.out.bx
        obtain ⟨LL, hin, hsm⟩ := I.out.insp hi60
        refine any_regionG (by kernel_rfl) 16 rfl (fun i => if i < 15 then i + 121 else 4) (mixR [(12, SlV LL.length (itC LL))] [.bool true, .bool true, .pointer (some ⟨w.heap.size + 1, 0, none⟩), .agg #[.string ⟨#[]⟩, .string ⟨#[]⟩], .slice q m d, .bool true, .bool true, .bool true, .pointer (some ⟨w.heap.size + 1, 0, none⟩), .agg #[.string lo, .string hi], .slice q m d, .agg #[.string lo, .string hi], undef, .bool true, .bool true, .bool true]) (by kernel_rfl) (by kernel_rfl) (by kernel_rfl) (mixR_later _ _ (stab_cons SlV.later stab_nil)) ?step ?post
        case step =>
          intro iq hiq a W hrest hb hk
          have hp3 : a.eval (.tmp 3) = .pointer (some ⟨w.heap.size, 0, none⟩) := (hrest 3 (by intro iq2 hiq2; (repeat' split) <;> omega)).trans rfl
          have fp3 := ev hp3
          have hp5 : a.eval (.tmp 5) = .pointer (some ⟨w.heap.size + 1, 0, none⟩) := (hrest 5 (by intro iq2 hiq2; (repeat' split) <;> omega)).trans rfl
          have fp5 := ev hp5
          have hp6 : a.eval (.tmp 6) = .slice q m d := (hrest 6 (by intro iq2 hiq2; (repeat' split) <;> omega)).trans rfl
          have fp6 := ev hp6
          clear hrest
          obtain rfl | rfl | rfl | rfl | rfl | rfl | rfl | rfl | rfl | rfl | rfl | rfl | rfl | rfl | rfl | rfl : iq = 0 ∨ iq = 1 ∨ iq = 2 ∨ iq = 3 ∨ iq = 4 ∨ iq = 5 ∨ iq = 6 ∨ iq = 7 ∨ iq = 8 ∨ iq = 9 ∨ iq = 10 ∨ iq = 11 ∨ iq = 12 ∨ iq = 13 ∨ iq = 14 ∨ iq = 15 := by omega
          · clear hiq
            clear hk
            refine ⟨_, rfl, rfl, Or.inl ⟨wanted_none rfl, wp_enter (f := 17) (args := #[]) ?_ ((awake_any W).mono ?_)⟩⟩
            · go_simp
            · rintro e w2 ⟨rfl, hb2⟩
              exact ⟨_, rfl, _, rfl, hb2, rfl⟩
          · clear hiq
            have e0 : a.eval (.tmp 121) = .bool true := hk 0 (mem_of (by kernel_rfl))
            have f0 := ev e0
            clear hk
            refine ⟨_, rfl, rfl, Or.inl ⟨wanted_none rfl, wp_value (v := .bool true) (w' := W) ?_ ⟨_, rfl, Below.refl _ _, rfl⟩⟩⟩
            go_simp
          · clear hiq
            have e1 : a.eval (.tmp 122) = .bool true := hk 1 (mem_of (by kernel_rfl))
            have f1 := ev e1
            clear hk
            refine ⟨_, rfl, rfl, Or.inl ⟨wanted_of (k := 1) (b := true) rfl rfl e1, wp_value (v := .pointer (some ⟨w.heap.size + 1, 0, none⟩)) (w' := W) ?_ ⟨_, rfl, Below.refl _ _, rfl⟩⟩⟩
            go_simp
          · clear hiq
            have e1 : a.eval (.tmp 122) = .bool true := hk 1 (mem_of (by kernel_rfl))
            have f1 := ev e1
            clear hk
            refine ⟨_, rfl, rfl, Or.inl ⟨wanted_of (k := 1) (b := true) rfl rfl e1, wp_value (v := .agg #[.string ⟨#[]⟩, .string ⟨#[]⟩]) (w' := W) ?_ ⟨_, rfl, Below.refl _ _, rfl⟩⟩⟩
            go_simp
          · clear hiq
            have e1 : a.eval (.tmp 122) = .bool true := hk 1 (mem_of (by kernel_rfl))
            have f1 := ev e1
            clear hk
            refine ⟨_, rfl, rfl, Or.inl ⟨wanted_of (k := 1) (b := true) rfl rfl e1, wp_value (v := .slice q m d) (w' := W) ?_ ⟨_, rfl, Below.refl _ _, rfl⟩⟩⟩
            go_simp
          · clear hiq
            have e1 : a.eval (.tmp 122) = .bool true := hk 1 (mem_of (by kernel_rfl))
            have f1 := ev e1
            have e2 : a.eval (.tmp 123) = .pointer (some ⟨w.heap.size + 1, 0, none⟩) := hk 2 (mem_of (by kernel_rfl))
            have f2 := ev e2
            have e3 : a.eval (.tmp 124) = .agg #[.string ⟨#[]⟩, .string ⟨#[]⟩] := hk 3 (mem_of (by kernel_rfl))
            have f3 := ev e3
            have e4 : a.eval (.tmp 125) = .slice q m d := hk 4 (mem_of (by kernel_rfl))
            have f4 := ev e4
            clear hk
            refine ⟨_, rfl, rfl, Or.inl ⟨wanted_of (k := 1) (b := true) rfl rfl e1, wp_enter (f := 18) (args := #[.pointer (some ⟨w.heap.size + 1, 0, none⟩), .agg #[.string ⟨#[]⟩, .string ⟨#[]⟩], .slice q m d]) ?_ (((I.out.later hb).same hi60).mono ?_)⟩⟩
            · go_simp
            · rintro e w2 ⟨rfl, hb2⟩
              exact ⟨_, rfl, _, rfl, hb2, rfl⟩
          · clear hiq
            have e1 : a.eval (.tmp 122) = .bool true := hk 1 (mem_of (by kernel_rfl))
            have f1 := ev e1
            have e5 : a.eval (.tmp 126) = .bool true := hk 5 (mem_of (by kernel_rfl))
            have f5 := ev e5
            clear hk
            refine ⟨_, rfl, rfl, Or.inl ⟨wanted_none rfl, wp_value (v := .bool true) (w' := W) ?_ ⟨_, rfl, Below.refl _ _, rfl⟩⟩⟩
            go_simp
          · clear hiq
            have e6 : a.eval (.tmp 127) = .bool true := hk 6 (mem_of (by kernel_rfl))
            have f6 := ev e6
            clear hk
            refine ⟨_, rfl, rfl, Or.inl ⟨wanted_none rfl, wp_value (v := .bool true) (w' := W) ?_ ⟨_, rfl, Below.refl _ _, rfl⟩⟩⟩
            go_simp
          · clear hiq
            have e7 : a.eval (.tmp 128) = .bool true := hk 7 (mem_of (by kernel_rfl))
            have f7 := ev e7
            clear hk
            refine ⟨_, rfl, rfl, Or.inl ⟨wanted_of (k := 7) (b := true) rfl rfl e7, wp_value (v := .pointer (some ⟨w.heap.size + 1, 0, none⟩)) (w' := W) ?_ ⟨_, rfl, Below.refl _ _, rfl⟩⟩⟩
            go_simp
          · clear hiq
            have e7 : a.eval (.tmp 128) = .bool true := hk 7 (mem_of (by kernel_rfl))
            have f7 := ev e7
            clear hk
            have hx3 := (hb.block _ (lt_of_row rbx)).trans rbx
            refine ⟨_, rfl, rfl, Or.inl ⟨wanted_of (k := 7) (b := true) rfl rfl e7, wp_load_row 24 (.tmp 3) rfl (w.heap.size) hp3 24 #[.string lo, .string hi] (0, 0) _ hx3 Try.underlying24 rfl (by kernel_rfl) ⟨_, rfl, Below.refl _ _, rfl⟩⟩⟩
          · clear hiq
            have e7 : a.eval (.tmp 128) = .bool true := hk 7 (mem_of (by kernel_rfl))
            have f7 := ev e7
            clear hk
            refine ⟨_, rfl, rfl, Or.inl ⟨wanted_of (k := 7) (b := true) rfl rfl e7, wp_value (v := .slice q m d) (w' := W) ?_ ⟨_, rfl, Below.refl _ _, rfl⟩⟩⟩
            go_simp
          · clear hiq
            have e7 : a.eval (.tmp 128) = .bool true := hk 7 (mem_of (by kernel_rfl))
            have f7 := ev e7
            clear hk
            have hx3 := (hb.block _ (lt_of_row rbx)).trans rbx
            refine ⟨_, rfl, rfl, Or.inl ⟨wanted_of (k := 7) (b := true) rfl rfl e7, wp_load_row 24 (.tmp 3) rfl (w.heap.size) hp3 24 #[.string lo, .string hi] (0, 0) _ hx3 Try.underlying24 rfl (by kernel_rfl) ⟨_, rfl, Below.refl _ _, rfl⟩⟩⟩
          · clear hiq
            have e7 : a.eval (.tmp 128) = .bool true := hk 7 (mem_of (by kernel_rfl))
            have f7 := ev e7
            have e10 : a.eval (.tmp 131) = .slice q m d := hk 10 (mem_of (by kernel_rfl))
            have f10 := ev e10
            have e11 : a.eval (.tmp 132) = .agg #[.string lo, .string hi] := hk 11 (mem_of (by kernel_rfl))
            have f11 := ev e11
            clear hk
            refine ⟨_, rfl, rfl, Or.inl ⟨wanted_of (k := 7) (b := true) rfl rfl e7, wp_enter (f := 19) (args := #[.slice q m d, .agg #[.string lo, .string hi]]) ?_ ((hin W hb).mono ?_)⟩⟩
            · go_simp
            · rintro e w2 ⟨q2, d2, rfl, hs2, hb2⟩
              exact ⟨_, rfl, _, rfl, hb2, ⟨_, _, rfl, hs2⟩⟩
          · clear hiq
            have e7 : a.eval (.tmp 128) = .bool true := hk 7 (mem_of (by kernel_rfl))
            have f7 := ev e7
            have e8 : a.eval (.tmp 129) = .pointer (some ⟨w.heap.size + 1, 0, none⟩) := hk 8 (mem_of (by kernel_rfl))
            have f8 := ev e8
            have e9 : a.eval (.tmp 130) = .agg #[.string lo, .string hi] := hk 9 (mem_of (by kernel_rfl))
            have f9 := ev e9
            obtain ⟨q12, d12, e12, s12⟩ := show SlV LL.length (itC LL) (a.eval (.tmp 133)) W from hk 12 (mem_of (by kernel_rfl))
            have f12 := ev e12
            clear hk
            refine ⟨_, rfl, rfl, Or.inl ⟨wanted_of (k := 7) (b := true) rfl rfl e7, wp_enter (f := 18) (args := #[.pointer (some ⟨w.heap.size + 1, 0, none⟩), .agg #[.string lo, .string hi], .slice q12 LL.length d12]) ?_ ((hsm W q12 d12 hb s12).mono ?_)⟩⟩
            · go_simp
            · rintro e w2 ⟨rfl, hb2⟩
              exact ⟨_, rfl, _, rfl, hb2, rfl⟩
          · clear hiq
            have e7 : a.eval (.tmp 128) = .bool true := hk 7 (mem_of (by kernel_rfl))
            have f7 := ev e7
            have e13 : a.eval (.tmp 134) = .bool true := hk 13 (mem_of (by kernel_rfl))
            have f13 := ev e13
            clear hk
            refine ⟨_, rfl, rfl, Or.inl ⟨wanted_none rfl, wp_value (v := .bool true) (w' := W) ?_ ⟨_, rfl, Below.refl _ _, rfl⟩⟩⟩
            go_simp
          · clear hiq
            have e14 : a.eval (.tmp 135) = .bool true := hk 14 (mem_of (by kernel_rfl))
            have f14 := ev e14
            clear hk
            refine ⟨_, rfl, rfl, Or.inl ⟨wanted_none rfl, wp_value (v := .bool true) (w' := W) ?_ ⟨_, rfl, Below.refl _ _, rfl⟩⟩⟩
            go_simp
        case post =>
          intro V5 W hbW hV
          have e15 : V5 15 = .bool true := hV 15 (by omega)
          clear hV
          have hBW := hB0.trans (hbW.mono hB0.size)
          simp only [putAll, Nat.reduceLT, Nat.reduceAdd, if_true, if_false]
          rw [e15]
          simp only [Act.put, List.setIfInBounds_toArray, List.set_cons_zero, List.set_cons_succ]
          go_wp2
          go_ret
          exact ⟨rfl, hBW⟩
      · have h1' : ¬ ((i : Int) < (n : Int)) := by omega
        clear hlt
        go_wp2_with fail
        have hB0 := I.out.bel
        have rbx := I.out.bx
        obtain ⟨LL, hin, hsm⟩ := I.out.insp hi60
        refine any_regionG (by kernel_rfl) 16 rfl (fun i => if i < 15 then i + 121 else 4) (mixR [(12, SlV LL.length (itC LL))] [.bool true, .bool true, .pointer (some ⟨w.heap.size + 1, 0, none⟩), .agg #[.string ⟨#[]⟩, .string ⟨#[]⟩], .slice q m d, .bool true, .bool true, .bool true, .pointer (some ⟨w.heap.size + 1, 0, none⟩), .agg #[.string lo, .string hi], .slice q m d, .agg #[.string lo, .string hi], undef, .bool true, .bool true, .bool true]) (by kernel_rfl) (by kernel_rfl) (by kernel_rfl) (mixR_later _ _ (stab_cons SlV.later stab_nil)) ?step ?post
        case step =>
          intro iq hiq a W hrest hb hk
          have hp3 : a.eval (.tmp 3) = .pointer (some ⟨w.heap.size, 0, none⟩) := (hrest 3 (by intro iq2 hiq2; (repeat' split) <;> omega)).trans rfl
          have fp3 := ev hp3
          have hp5 : a.eval (.tmp 5) = .pointer (some ⟨w.heap.size + 1, 0, none⟩) := (hrest 5 (by intro iq2 hiq2; (repeat' split) <;> omega)).trans rfl
          have fp5 := ev hp5
          have hp6 : a.eval (.tmp 6) = .slice q m d := (hrest 6 (by intro iq2 hiq2; (repeat' split) <;> omega)).trans rfl
          have fp6 := ev hp6
          clear hrest
          obtain rfl | rfl | rfl | rfl | rfl | rfl | rfl | rfl | rfl | rfl | rfl | rfl | rfl | rfl | rfl | rfl : iq = 0 ∨ iq = 1 ∨ iq = 2 ∨ iq = 3 ∨ iq = 4 ∨ iq = 5 ∨ iq = 6 ∨ iq = 7 ∨ iq = 8 ∨ iq = 9 ∨ iq = 10 ∨ iq = 11 ∨ iq = 12 ∨ iq = 13 ∨ iq = 14 ∨ iq = 15 := by omega
          · clear hiq
            clear hk
            refine ⟨_, rfl, rfl, Or.inl ⟨wanted_none rfl, wp_enter (f := 17) (args := #[]) ?_ ((awake_any W).mono ?_)⟩⟩
            · go_simp
            · rintro e w2 ⟨rfl, hb2⟩
              exact ⟨_, rfl, _, rfl, hb2, rfl⟩
          · clear hiq
            have e0 : a.eval (.tmp 121) = .bool true := hk 0 (mem_of (by kernel_rfl))
            have f0 := ev e0
            clear hk
            refine ⟨_, rfl, rfl, Or.inl ⟨wanted_none rfl, wp_value (v := .bool true) (w' := W) ?_ ⟨_, rfl, Below.refl _ _, rfl⟩⟩⟩
            go_simp
          · clear hiq
            have e1 : a.eval (.tmp 122) = .bool true := hk 1 (mem_of (by kernel_rfl))
            have f1 := ev e1
            clear hk
            refine ⟨_, rfl, rfl, Or.inl ⟨wanted_of (k := 1) (b := true) rfl rfl e1, wp_value (v := .pointer (some ⟨w.heap.size + 1, 0, none⟩)) (w' := W) ?_ ⟨_, rfl, Below.refl _ _, rfl⟩⟩⟩
            go_simp
          · clear hiq
            have e1 : a.eval (.tmp 122) = .bool true := hk 1 (mem_of (by kernel_rfl))
            have f1 := ev e1
            clear hk
            refine ⟨_, rfl, rfl, Or.inl ⟨wanted_of (k := 1) (b := true) rfl rfl e1, wp_value (v := .agg #[.string ⟨#[]⟩, .string ⟨#[]⟩]) (w' := W) ?_ ⟨_, rfl, Below.refl _ _, rfl⟩⟩⟩
            go_simp
          · clear hiq
            have e1 : a.eval (.tmp 122) = .bool true := hk 1 (mem_of (by kernel_rfl))
            have f1 := ev e1
            clear hk
            refine ⟨_, rfl, rfl, Or.inl ⟨wanted_of (k := 1) (b := true) rfl rfl e1, wp_value (v := .slice q m d) (w' := W) ?_ ⟨_, rfl, Below.refl _ _, rfl⟩⟩⟩
            go_simp
          · clear hiq
            have e1 : a.eval (.tmp 122) = .bool true := hk 1 (mem_of (by kernel_rfl))
            have f1 := ev e1
            have e2 : a.eval (.tmp 123) = .pointer (some ⟨w.heap.size + 1, 0, none⟩) := hk 2 (mem_of (by kernel_rfl))
            have f2 := ev e2
            have e3 : a.eval (.tmp 124) = .agg #[.string ⟨#[]⟩, .string ⟨#[]⟩] := hk 3 (mem_of (by kernel_rfl))
            have f3 := ev e3
            have e4 : a.eval (.tmp 125) = .slice q m d := hk 4 (mem_of (by kernel_rfl))
            have f4 := ev e4
            clear hk
            refine ⟨_, rfl, rfl, Or.inl ⟨wanted_of (k := 1) (b := true) rfl rfl e1, wp_enter (f := 18) (args := #[.pointer (some ⟨w.heap.size + 1, 0, none⟩), .agg #[.string ⟨#[]⟩, .string ⟨#[]⟩], .slice q m d]) ?_ (((I.out.later hb).same hi60).mono ?_)⟩⟩
            · go_simp
            · rintro e w2 ⟨rfl, hb2⟩
              exact ⟨_, rfl, _, rfl, hb2, rfl⟩
          · clear hiq
            have e1 : a.eval (.tmp 122) = .bool true := hk 1 (mem_of (by kernel_rfl))
            have f1 := ev e1
            have e5 : a.eval (.tmp 126) = .bool true := hk 5 (mem_of (by kernel_rfl))
            have f5 := ev e5
            clear hk
            refine ⟨_, rfl, rfl, Or.inl ⟨wanted_none rfl, wp_value (v := .bool true) (w' := W) ?_ ⟨_, rfl, Below.refl _ _, rfl⟩⟩⟩
            go_simp
          · clear hiq
            have e6 : a.eval (.tmp 127) = .bool true := hk 6 (mem_of (by kernel_rfl))
            have f6 := ev e6
            clear hk
            refine ⟨_, rfl, rfl, Or.inl ⟨wanted_none rfl, wp_value (v := .bool true) (w' := W) ?_ ⟨_, rfl, Below.refl _ _, rfl⟩⟩⟩
            go_simp
          · clear hiq
            have e7 : a.eval (.tmp 128) = .bool true := hk 7 (mem_of (by kernel_rfl))
            have f7 := ev e7
            clear hk
            refine ⟨_, rfl, rfl, Or.inl ⟨wanted_of (k := 7) (b := true) rfl rfl e7, wp_value (v := .pointer (some ⟨w.heap.size + 1, 0, none⟩)) (w' := W) ?_ ⟨_, rfl, Below.refl _ _, rfl⟩⟩⟩
            go_simp
          · clear hiq
            have e7 : a.eval (.tmp 128) = .bool true := hk 7 (mem_of (by kernel_rfl))
            have f7 := ev e7
            clear hk
            have hx3 := (hb.block _ (lt_of_row rbx)).trans rbx
            refine ⟨_, rfl, rfl, Or.inl ⟨wanted_of (k := 7) (b := true) rfl rfl e7, wp_load_row 24 (.tmp 3) rfl (w.heap.size) hp3 24 #[.string lo, .string hi] (0, 0) _ hx3 Try.underlying24 rfl (by kernel_rfl) ⟨_, rfl, Below.refl _ _, rfl⟩⟩⟩
          · clear hiq
            have e7 : a.eval (.tmp 128) = .bool true := hk 7 (mem_of (by kernel_rfl))
            have f7 := ev e7
            clear hk
            refine ⟨_, rfl, rfl, Or.inl ⟨wanted_of (k := 7) (b := true) rfl rfl e7, wp_value (v := .slice q m d) (w' := W) ?_ ⟨_, rfl, Below.refl _ _, rfl⟩⟩⟩
            go_simp
          · clear hiq
            have e7 : a.eval (.tmp 128) = .bool true := hk 7 (mem_of (by kernel_rfl))
            have f7 := ev e7
            clear hk
            have hx3 := (hb.block _ (lt_of_row rbx)).trans rbx
            refine ⟨_, rfl, rfl, Or.inl ⟨wanted_of (k := 7) (b := true) rfl rfl e7, wp_load_row 24 (.tmp 3) rfl (w.heap.size) hp3 24 #[.string lo, .string hi] (0, 0) _ hx3 Try.underlying24 rfl (by kernel_rfl) ⟨_, rfl, Below.refl _ _, rfl⟩⟩⟩
          · clear hiq
            have e7 : a.eval (.tmp 128) = .bool true := hk 7 (mem_of (by kernel_rfl))
            have f7 := ev e7
            have e10 : a.eval (.tmp 131) = .slice q m d := hk 10 (mem_of (by kernel_rfl))
            have f10 := ev e10
            have e11 : a.eval (.tmp 132) = .agg #[.string lo, .string hi] := hk 11 (mem_of (by kernel_rfl))
            have f11 := ev e11
            clear hk
            refine ⟨_, rfl, rfl, Or.inl ⟨wanted_of (k := 7) (b := true) rfl rfl e7, wp_enter (f := 19) (args := #[.slice q m d, .agg #[.string lo, .string hi]]) ?_ ((hin W hb).mono ?_)⟩⟩
            · go_simp
            · rintro e w2 ⟨q2, d2, rfl, hs2, hb2⟩
              exact ⟨_, rfl, _, rfl, hb2, ⟨_, _, rfl, hs2⟩⟩
          · clear hiq
            have e7 : a.eval (.tmp 128) = .bool true := hk 7 (mem_of (by kernel_rfl))
            have f7 := ev e7
            have e8 : a.eval (.tmp 129) = .pointer (some ⟨w.heap.size + 1, 0, none⟩) := hk 8 (mem_of (by kernel_rfl))
            have f8 := ev e8
            have e9 : a.eval (.tmp 130) = .agg #[.string lo, .string hi] := hk 9 (mem_of (by kernel_rfl))
            have f9 := ev e9
            obtain ⟨q12, d12, e12, s12⟩ := show SlV LL.length (itC LL) (a.eval (.tmp 133)) W from hk 12 (mem_of (by kernel_rfl))
            have f12 := ev e12
            clear hk
            refine ⟨_, rfl, rfl, Or.inl ⟨wanted_of (k := 7) (b := true) rfl rfl e7, wp_enter (f := 18) (args := #[.pointer (some ⟨w.heap.size + 1, 0, none⟩), .agg #[.string lo, .string hi], .slice q12 LL.length d12]) ?_ ((hsm W q12 d12 hb s12).mono ?_)⟩⟩
            · go_simp
            · rintro e w2 ⟨rfl, hb2⟩
              exact ⟨_, rfl, _, rfl, hb2, rfl⟩
          · clear hiq
            have e7 : a.eval (.tmp 128) = .bool true := hk 7 (mem_of (by kernel_rfl))
            have f7 := ev e7
            have e13 : a.eval (.tmp 134) = .bool true := hk 13 (mem_of (by kernel_rfl))
            have f13 := ev e13
            clear hk
            refine ⟨_, rfl, rfl, Or.inl ⟨wanted_none rfl, wp_value (v := .bool true) (w' := W) ?_ ⟨_, rfl, Below.refl _ _, rfl⟩⟩⟩
            go_simp
          · clear hiq
            have e14 : a.eval (.tmp 135) = .bool true := hk 14 (mem_of (by kernel_rfl))
            have f14 := ev e14
            clear hk
            refine ⟨_, rfl, rfl, Or.inl ⟨wanted_none rfl, wp_value (v := .bool true) (w' := W) ?_ ⟨_, rfl, Below.refl _ _, rfl⟩⟩⟩
            go_simp
        case post =>
          intro V5 W hbW hV
          have e15 : V5 15 = .bool true := hV 15 (by omega)
          clear hV
          have hBW := hB0.trans (hbW.mono hB0.size)
          simp only [putAll, Nat.reduceLT, Nat.reduceAdd, if_true, if_false]
          rw [e15]
          simp only [Act.put, List.setIfInBounds_toArray, List.set_cons_zero, List.set_cons_succ]
          go_wp2
          go_ret
          exact ⟨rfl, hBW⟩
end Go.Proofs.Ytiplmlalhmldbaa
