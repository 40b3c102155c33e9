/- DiskNone: a nil disk answers as the document says; a clone goes its own way. -/
import Derived.Test.YteanjgfhkfkjbaaClo
import Derived.Test.YteanjgfhkfkjbaaAwd
namespace Go.Proofs.Yteanjgfhkfkjbaa
open Go.RowKit Go.Shelf
def o1 : ByteArray := ⟨#[49]⟩
def o2 : ByteArray := ⟨#[50]⟩
set_option maxRecDepth 100000 in
set_option maxHeartbeats 8000000 in
theorem none_walk (n a : Int) (s : ByteArray) (w : World) : Calls Try.prog 6 #[.int .i64 n, .int .i64 a, .string s] w fun e w' => e = .returned (.bool true) ∧ Below w.heap.size w w' := by
  obtain ⟨w1, hw1⟩ : ∃ w1, w.alloc (.cells #[.int .i64 n, .int .u64 0, .int .i64 0] 36) = w1 := ⟨_, rfl⟩
  have hb1 : Below w.heap.size w w1 := by rw [← hw1]; exact (Below.refl _ w).alloc (Nat.le_refl _) _
  have HX1 : Hid (w.alloc (.cells #[.int .i64 n, .int .u64 0, .int .i64 0] 36) = w1) := hw1
  clear hw1
  go_enter Try.func6, Try.ntmps6
  go_wp2_with fail
  refine (nroom n w).mono ?_
  rintro e wz ⟨rfl, hq⟩
  rw [hq]
  clear hq
  go_wp2_with fail
  rw [HX1.out]
  refine (nplan _ w1).mono ?_
  rintro e wz ⟨rfl, hq⟩
  rw [hq]
  clear hq
  go_wp2_with fail
  refine (ncrash 1 n w1).mono ?_
  rintro e wz ⟨rfl, hq⟩
  rw [hq]
  clear hq
  go_wp2_with fail
  refine (nappend n s w1).mono ?_
  rintro e wz ⟨rfl, hq⟩
  rw [hq]
  clear hq
  go_wp2_with fail
  refine (nread n w1).mono ?_
  rintro e wz ⟨rfl, hq⟩
  rw [hq]
  clear hq
  have hnew : ∃ (kp : Option Addr) (er : Int) (w2 : World), (∀ Rr : Ending → World → Prop, Rr (.returned (.tuple #[.pointer kp, .int .i64 er])) w2 → Calls Try.prog 22 #[.int .i64 n] w1 Rr) ∧ Below w1.heap.size w1 w2 ∧ ((n < 0 ∧ kp = none ∧ er = 1) ∨ (¬ n < 0 ∧ (∃ b, kp = some ⟨b, 0, none⟩) ∧ er = 0)) := by
    by_cases hn : n < 0
    · refine ⟨none, 1, w1, fun Rr hr => (new_bad n hn w1).mono ?_, Below.refl _ _, Or.inl ⟨hn, rfl, rfl⟩⟩
      rintro e w' ⟨rfl, rfl⟩
      exact hr
    · refine ⟨some ⟨w1.heap.size, 0, none⟩, 0, _, fun Rr hr => (new_ok n hn w1).mono ?_, (Below.refl _ w1).alloc (Nat.le_refl _) (.cells #[.map none, .int .i64 n, .int .i64 0, .int .i64 0, .slice none 0 0, .bool false] 78), Or.inr ⟨hn, ⟨_, rfl⟩, rfl⟩⟩
      rintro e w' ⟨rfl, rfl⟩
      exact hr
  obtain ⟨kp, er, w2, hnw, hb2, hcase⟩ := hnew
  go_wp2_with fail
  refine hnw _ ?_
  clear hnw
  have hB2 : Below w.heap.size w w2 := hb1.trans (hb2.mono hb1.size)
  have kn := new_ok 4 (by omega) w2
  obtain ⟨w3, hw3⟩ : ∃ w3, w2.alloc (.cells #[.map none, .int .i64 4, .int .i64 0, .int .i64 0, .slice none 0 0, .bool false] 78) = w3 := ⟨_, rfl⟩
  rw [hw3] at kn
  have hb3 : Below w2.heap.size w2 w3 := by rw [← hw3]; exact (Below.refl _ w2).alloc (Nat.le_refl _) _
  have h3 : Dk w3 w2.heap.size (.map none) 4 0 0 (.slice none 0 0) false := by rw [← hw3]; exact heap_alloc_new _ _
  have s3 : w3.heap.size = w2.heap.size + 1 := by rw [← hw3]; simp
  have hB3 : Below w.heap.size w w3 := hB2.trans (hb3.mono hB2.size)
  clear hw3
  go_wp2_with fail
  refine kn.mono ?_
  rintro e wz ⟨rfl, hq⟩
  rw [hq]
  clear hq kn
  have ka := append_new (sec := 4) 3 ⟨by omega, by omega⟩ (by omega) o1 (by decide) (by decide) (by decide) w3 h3
  have hsz1 : o1.size = 1 := rfl
  have hsc1 : Lib.strCells o1 = [.int .u8 49] := rfl
  rw [hsz1, hsc1] at ka
  have ka2 : Calls Try.prog 14 #[.pointer (some ⟨w2.heap.size, 0, none⟩), .int .i64 3, .string ⟨#[49]⟩] w3 _ := ka
  clear ka
  go_wp2_with fail
  refine ka2.mono ?_
  rintro e w4 ⟨rfl, v, h4, m4, F4, own4, C4⟩
  obtain ⟨g, cap, rfl⟩ : ∃ g cap, v = .slice (some ⟨g, 0, none⟩) 1 cap := ownsRow_succ own4
  obtain ⟨cur, hg0, hg, hc1, hc2, hc3, hc4⟩ : ∃ cur, w3.heap.size + 2 ≤ g ∧ w4.heap[g]? = some (.cells cur 5 (0, 0)) ∧ 1 ≤ cap ∧ cap ≤ maxLen ∧ cur.size = cap * 1 ∧ cur.toList.take (1 * 1) = [.int .u8 49] := by
    rcases own4.2 with ⟨h, _⟩ | ⟨g', cp, cur, eq, hg0, hg, hc1, hc2, hc3, hc4⟩
    · cases h
    injection eq with eq1 _ eq3
    injection eq1 with eq1
    injection eq1 with eq1
    subst eq1 eq3
    exact ⟨cur, hg0, hg, hc1, hc2, hc3, hc4⟩
  have ltg := lt_of_row hg
  have hcell : ∀ i x, [Value.int .u8 49][i]? = some x → w4.cell? ⟨g, i, none⟩ = some x := fun i x hx => by
    have hi : i = 0 := by
      have := (List.getElem?_eq_some_iff.1 hx).1
      simpa using this
    subst hi
    rw [cell_of_row w4 g 0 cur 5 _ hg, ← Array.getElem?_toList]
    have h7 : (cur.toList.take (1 * 1))[0]? = [Value.int .u8 49][0]? := by rw [hc4]
    rw [List.getElem?_take_of_lt (by omega)] at h7
    rw [h7]
    exact hx
  have hB4 : Below w.heap.size w w4 := hB3.trans (C4.below hB3.size (fun j hj => by have : j = w2.heap.size := hj; have := hB2.size; omega))
  have kc := clone_one (w := w4) (d := w2.heap.size) (m := w3.heap.size) (f := w3.heap.size + 1) (g := g) (nb := 1) (cap := cap) 3 ⟨by omega, by omega⟩ [.int .u8 49] (by omega) (by omega) rfl (by simp [Value.oneCell']) h4 m4 F4 ltg hcell
  clear ka2
  go_wp2_with fail
  refine kc.mono ?_
  rintro e w5 ⟨c, mc, f', v', rfl, hc5, hmc5, hf5, hcm, hcf, hmf, h5, m5, F5, own5, hvf, hvc, hvm, hb5⟩
  obtain ⟨g', cap', rfl⟩ : ∃ g cap, v' = .slice (some ⟨g, 0, none⟩) 1 cap := ownsRow_succ own5
  obtain ⟨cur', hg0', hg', hc1', hc2', hc3'⟩ : ∃ cur, w4.heap.size ≤ g' ∧ w5.heap[g']? = some (.cells cur 5 (0, 0)) ∧ 1 ≤ cap' ∧ cap' ≤ maxLen ∧ cur.size = cap' * 1 := by
    rcases own5.2 with ⟨h, _⟩ | ⟨g1, cp, cur, eq, hg0, hg, hc1, hc2, hc3, hc4⟩
    · cases h
    injection eq with eq1 _ eq3
    injection eq1 with eq1
    injection eq1 with eq1
    subst eq1 eq3
    exact ⟨cur, hg0, hg, hc1, hc2, hc3⟩
  have hgc : c ≠ g' := fun e => hvc (by rw [e]; rfl)
  have kw := write_one (d := c) (m := mc) (b := f') (g := g') (n := 1) (cap := cap') 3 ⟨by omega, by omega⟩ 0 o2 (by decide) (by omega) (by omega) (by omega) (by omega) ⟨by omega, by omega⟩ hcf hgc hcm w5 h5 m5 (at_one 3 _) F5 hg'
  have kw2 : Calls Try.prog 24 #[.pointer (some ⟨c, 0, none⟩), .int .i64 3, .int .i64 0, .string ⟨#[50]⟩] w5 _ := kw
  clear kc kw
  go_wp2_with fail
  refine kw2.mono ?_
  rintro e w6 ⟨rfl, q, hw6⟩
  have hb6 : Below w4.heap.size w5 w6 := by
    rw [hw6]
    refine ⟨rfl, rfl, rfl, by simp [World.drewN], fun k hk => ?_⟩
    rw [setRow_other _ _ _ _ (by omega), Below.heap_setCell _ _ _ _ (by show k ≠ c; omega)]
    rfl
  have hb46 : Below w4.heap.size w4 w6 := hb5.trans hb6
  have h6 : Dk w6 w2.heap.size (.map (some w3.heap.size)) 4 1 1 (.slice none 0 0) false := (hb46.block _ (lt_of_row h4)).trans h4
  have m6 : Mp w6 w3.heap.size 1 (D1 3 (.lit (.int .u64 ((w3.heap.size + 1 : Nat) : Int)))) := mp_kept m4 (hb46.block _ m4.lt)
  have F6 : Fl w6 (w3.heap.size + 1) (.slice (some ⟨g, 0, none⟩) 1 cap) 0 (.map none) := (hb46.block _ (lt_of_row F4)).trans F4
  have own6 : w6.ownsRow 0 5 1 (.slice (some ⟨g, 0, none⟩) 1 cap) o1.size (Lib.strCells o1) := by
    rw [hsz1, hsc1]
    exact ⟨rfl, Or.inr ⟨g, cap, cur, rfl, Nat.zero_le _, (hb46.block _ ltg).trans hg, hc1, hc2, hc3, hc4⟩⟩
  have kr : Calls Try.prog 13 #[.pointer (some ⟨w2.heap.size, 0, none⟩), .int .i64 3] w6 fun e w' => e = .returned (.tuple #[.string ⟨#[49]⟩, .int .i64 0]) ∧ w' = w6 := read_one 3 ⟨by omega, by omega⟩ o1 (by decide) w6 h6 m6 (at_one 3 _) F6 own6
  have hB6 : Below w.heap.size w w6 := hB4.trans (hb46.mono hB4.size)
  clear hw6 kw2
  go_wp2_with fail
  refine kr.mono ?_
  rintro e wz ⟨rfl, hq⟩
  rw [hq]
  clear hq
  go_wp2_with fail
  refine (awake_any w6).mono ?_
  rintro e w9 ⟨rfl, hb9⟩
  have hB9 : Below w.heap.size w w9 := hB6.trans (hb9.mono hB6.size)
  clear kr
  rcases hcase with ⟨hn, rfl, rfl⟩ | ⟨hn, ⟨bk, rfl⟩, rfl⟩
  · have hge : ¬ 0 ≤ n := by omega
    go_wp2_with fail
    refine (nwrite n a s w9).mono ?_
    rintro e wz ⟨rfl, hq⟩
    rw [hq]
    clear hq
    go_wp2_with fail
    refine (nsync n w9).mono ?_
    rintro e wz ⟨rfl, hq⟩
    rw [hq]
    clear hq
    go_wp2_with fail
    refine (ncut n a w9).mono ?_
    rintro e wz ⟨rfl, hq⟩
    rw [hq]
    clear hq
    go_wp2_with fail
    refine (nremove n w9).mono ?_
    rintro e wz ⟨rfl, hq⟩
    rw [hq]
    clear hq
    go_wp2_with fail
    refine (nfiles  w9).mono ?_
    rintro e wz ⟨rfl, hq⟩
    rw [hq]
    clear hq
    go_wp2_with fail
    refine (nused  w9).mono ?_
    rintro e wz ⟨rfl, hq⟩
    rw [hq]
    clear hq
    go_wp2_with fail
    refine (ndead  w9).mono ?_
    rintro e wz ⟨rfl, hq⟩
    rw [hq]
    clear hq
    go_wp2_with fail
    refine (nup  w9).mono ?_
    rintro e wz ⟨rfl, hq⟩
    rw [hq]
    clear hq
    go_wp2_with fail
    refine (nchanges  w9).mono ?_
    rintro e wz ⟨rfl, hq⟩
    rw [hq]
    clear hq
    go_wp2_with fail
    refine (nloose  w9).mono ?_
    rintro e wz ⟨rfl, hq⟩
    rw [hq]
    clear hq
    go_wp2_with fail
    refine (nclone  w9).mono ?_
    rintro e wz ⟨rfl, hq⟩
    rw [hq]
    clear hq
    go_wp2
    go_ret
    refine ⟨?_, hB9⟩
    show Ending.returned (Value.bool (!decide (0 ≤ n))) = .returned (.bool true)
    rw [decide_eq_false (by omega : ¬ 0 ≤ n)]
    rfl
  · have hge : 0 ≤ n := by omega
    go_wp2_with fail
    refine (nwrite n a s w9).mono ?_
    rintro e wz ⟨rfl, hq⟩
    rw [hq]
    clear hq
    go_wp2_with fail
    refine (nsync n w9).mono ?_
    rintro e wz ⟨rfl, hq⟩
    rw [hq]
    clear hq
    go_wp2_with fail
    refine (ncut n a w9).mono ?_
    rintro e wz ⟨rfl, hq⟩
    rw [hq]
    clear hq
    go_wp2_with fail
    refine (nremove n w9).mono ?_
    rintro e wz ⟨rfl, hq⟩
    rw [hq]
    clear hq
    go_wp2_with fail
    refine (nfiles  w9).mono ?_
    rintro e wz ⟨rfl, hq⟩
    rw [hq]
    clear hq
    go_wp2_with fail
    refine (nused  w9).mono ?_
    rintro e wz ⟨rfl, hq⟩
    rw [hq]
    clear hq
    go_wp2_with fail
    refine (ndead  w9).mono ?_
    rintro e wz ⟨rfl, hq⟩
    rw [hq]
    clear hq
    go_wp2_with fail
    refine (nup  w9).mono ?_
    rintro e wz ⟨rfl, hq⟩
    rw [hq]
    clear hq
    go_wp2_with fail
    refine (nchanges  w9).mono ?_
    rintro e wz ⟨rfl, hq⟩
    rw [hq]
    clear hq
    go_wp2_with fail
    refine (nloose  w9).mono ?_
    rintro e wz ⟨rfl, hq⟩
    rw [hq]
    clear hq
    go_wp2_with fail
    refine (nclone  w9).mono ?_
    rintro e wz ⟨rfl, hq⟩
    rw [hq]
    clear hq
    go_wp2
    go_ret
    exact ⟨rfl, hB9⟩
end Go.Proofs.Yteanjgfhkfkjbaa
