/- Put, out of what with and grown make; Drop, out of what without and shrunk make. -/
import Derived.Test.YtiplmlalhmldbaaTre
namespace Go.Proofs.Ytiplmlalhmldbaa
open Go.RowKit Go.Shelf
theorem set3_row {w : World} {X : Nat} {x y z : Value} {t : TypeId} (h : w.heap[X]? = some (.cells #[x, y, z] t (0, 0))) (a b : Value) :
    ((w.setCell ⟨X, 0, none⟩ a).setCell ⟨X, 1, none⟩ b).heap[X]? = some (.cells #[a, b, z] t (0, 0)) := by
  have h1 := heap_setCell_same w X 0 _ t a h
  exact heap_setCell_same _ X 1 _ t b h1
set_option maxRecDepth 100000 in
set_option maxHeartbeats 4000000 in
theorem put_of {h h2 h3 : Nat} {t : Nd h} {t2 : Nd h2} {t3 : Nd h3} (ok : Ok h t) (x : Im) (b n : Nat) (hn : n ≤ 1000000) (w : World) (T : Tr w b h t n)
    (k27 : ∀ W v, Lies W h t v → Calls Try.prog 27 #[v, .agg #[.string x.1, .string x.2]] W fun e w' => ∃ v', e = .returned v' ∧ Lies w' h2 t2 v' ∧ Below W.heap.size W w')
    (k26 : ∀ W v, Lies W h2 t2 v → Calls Try.prog 26 #[v] W fun e w' => ∃ v', e = .returned v' ∧ Lies w' h3 t3 v' ∧ Below W.heap.size W w')
    (ok3 : Ok h3 t3) (hp3 : h3 = 0 ∨ 0 < (its h3 t3).length) :
    Calls Try.prog 14 #[.pointer (some ⟨b, 0, none⟩), .string x.1, .string x.2] w fun e w' => e = .returned (.bool (!(getT h t x.1).2)) ∧ Tr w' b h3 t3 (if (getT h t x.1).2 then n else n + 1) ∧ Onl b w w' := by
  obtain ⟨p, c, q, d, h1, hL⟩ := T.ex
  have c0 := cell_of_row w _ 0 _ _ _ h1
  have c1 := cell_of_row w _ 1 _ _ _ h1
  have lt := lt_of_row h1
  have kg := get_any h t ok x.1 _ w hL
  obtain ⟨⟨G1, G2⟩, hG⟩ : ∃ G, getT h t x.1 = G := ⟨_, rfl⟩
  rw [hG] at kg
  rw [hG]
  have k27' := fun W hb => k27 W _ (hL.later (w' := W) hb)
  obtain ⟨m1, hm1⟩ : ∃ m, (its h t).length = m := ⟨_, rfl⟩
  obtain ⟨m2, hm2⟩ : ∃ m, kdn h t = m := ⟨_, rfl⟩
  rw [hm1, hm2] at h1 kg
  rw [hm1] at c0
  rw [hm2] at c1
  simp only [hm1, hm2] at k27'
  have HK : Hid (∀ W v, Lies W h2 t2 v → Calls Try.prog 26 #[v] W fun e w' => ∃ v', e = .returned v' ∧ Lies w' h3 t3 v' ∧ Below W.heap.size W w') := k26
  have HKK : Hid (∀ W, Below w.heap.size w W → Calls Try.prog 27 #[.agg #[.slice p m1 c, .slice q m2 d], .agg #[.string x.1, .string x.2]] W fun e w' => ∃ v', e = .returned v' ∧ Lies w' h2 t2 v' ∧ Below W.heap.size W w') := k27'
  clear T hG hL ok k26 k27 k27'
  go_enter Try.func14, Try.ntmps14
  go_wp2_with fail
  refine kg.mono ?_
  rintro e w1 ⟨rfl, hb1⟩
  have r1 := (hb1.block _ lt).trans h1
  have a0 := cell_of_row w1 _ 0 _ _ _ r1
  have a1 := cell_of_row w1 _ 1 _ _ _ r1
  clear kg c0 c1
  go_wp2_with fail
  refine (HKK.out _ hb1).mono ?_
  rintro e w2 ⟨v2, rfl, L2, hb2⟩
  obtain ⟨p2, c2, q2, d2, L2', rfl, -, -⟩ := L2.form
  have b02 := hb1.trans (hb2.mono hb1.size)
  have kq := HK.out _ _ L2
  obtain ⟨n1, hn1⟩ : ∃ m, (its h2 t2).length = m := ⟨_, rfl⟩
  obtain ⟨n2, hn2⟩ : ∃ m, kdn h2 t2 = m := ⟨_, rfl⟩
  rw [hn1, hn2] at kq
  simp only [hn1, hn2]
  clear L2 a0 a1 hn1 hn2
  go_wp2_with fail
  refine kq.mono ?_
  rintro e w3 ⟨v3, rfl, L3, hb3⟩
  obtain ⟨p3, c3, q3, d3, L3', rfl, -, -⟩ := L3.form
  have b03 := b02.trans (hb3.mono b02.size)
  have r3 := (b03.block _ lt).trans h1
  have e0 := cell_of_row w3 _ 0 _ _ _ r3
  have e1 := cell_of_row w3 _ 1 _ _ _ r3
  have e2 := cell_of_row w3 _ 2 _ _ _ r3
  have g0 := frozen_of_row w3 _ 0 _ _ r3
  have g1 := frozen_of_row w3 _ 1 _ _ r3
  have g2 := frozen_of_row w3 _ 2 _ _ r3
  obtain ⟨n1, hn1⟩ : ∃ m, (its h3 t3).length = m := ⟨_, rfl⟩
  obtain ⟨n2, hn2⟩ : ∃ m, kdn h3 t3 = m := ⟨_, rfl⟩
  have HL3 : Hid (Lies w3 h3 t3 (.agg #[.slice p3 n1 c3, .slice q3 n2 d3])) := by rw [← hn1, ← hn2]; exact L3
  have HN : Hid ((its h3 t3).length = n1 ∧ kdn h3 t3 = n2) := ⟨hn1, hn2⟩
  simp only [hn1, hn2]
  clear kq L3 hn1 hn2 r1
  have rr := set3_row r3 (.slice p3 n1 c3) (.slice q3 n2 d3)
  have ss : ∀ s, Value.string s ≠ .slice p m1 c ∧ Value.string s ≠ .slice q m2 d ∧ Value.string s ≠ .int .i64 (n : Int) := fun s => ⟨by simp, by simp, by simp⟩
  cases G2 with
  | true =>
    go_wp2
    go_ret
    refine ⟨rfl, ⟨p3, c3, q3, d3, ?_, ?_⟩, ((Onl.of b03).setCell 0 _).setCell 1 _⟩
    · rw [HN.out.1, HN.out.2]
      exact rr
    · rw [HN.out.1, HN.out.2]
      exact Lies.keptT r3 ss (set2_size _ _ _ _) (set2_other _ _ _ _) ok3 hp3 HL3.out
  | false =>
    have i2 := cell_of_row _ _ 2 _ _ _ rr
    have f2 := frozen_of_row _ _ 2 _ _ rr
    have rr2 := heap_setCell_same _ b 2 _ 61 (.int .i64 ((n : Int) + 1)) rr
    have hw1 : IntKind.i64.wrap ((n : Int) + 1) = (n : Int) + 1 := by rw [IntKind.wrap_i64]; omega
    go_wp2
    go_ret
    refine ⟨rfl, ⟨p3, c3, q3, d3, ?_, ?_⟩, (((Onl.of b03).setCell 0 _).setCell 1 _).setCell 2 _⟩
    · rw [HN.out.1, HN.out.2]
      exact rr2
    · rw [HN.out.1, HN.out.2]
      exact Lies.keptT rr (fun s => ⟨by simp, by simp, by simp⟩) (by simp [World.setCell]) (fun k hk => heap_setCell_other _ _ _ _ hk) ok3 hp3 (Lies.keptT r3 ss (set2_size _ _ _ _) (set2_other _ _ _ _) ok3 hp3 HL3.out)
set_option maxRecDepth 100000 in
set_option maxHeartbeats 4000000 in
theorem drop_none {h : Nat} {t : Nd h} (ok : Ok h t) (key : ByteArray) (hk : (getT h t key).2 = false) (b n : Nat) (w : World) (T : Tr w b h t n) :
    Calls Try.prog 10 #[.pointer (some ⟨b, 0, none⟩), .string key] w fun e w' => e = .returned (.bool false) ∧ Below w.heap.size w w' := by
  have kg := tget_any b h t ok n key w T
  rw [hk] at kg
  obtain ⟨G1, hG⟩ : ∃ G, (getT h t key).1 = G := ⟨_, rfl⟩
  rw [hG] at kg
  clear hk hG
  go_enter Try.func10, Try.ntmps10
  go_wp2_with fail
  refine kg.mono ?_
  rintro e w1 ⟨rfl, hb1⟩
  go_wp2
  go_ret
  exact ⟨rfl, hb1⟩
set_option maxRecDepth 100000 in
set_option maxHeartbeats 4000000 in
theorem drop_of {h h2 h3 : Nat} {t : Nd h} {t2 : Nd h2} {t3 : Nd h3} (ok : Ok h t) (key : ByteArray) (hk : (getT h t key).2 = true) (b n : Nat) (hn0 : 0 < n) (hn : n ≤ 1000000) (w : World) (T : Tr w b h t n)
    (k24 : ∀ W v, Lies W h t v → Calls Try.prog 24 #[v, .string key] W fun e w' => ∃ v', e = .returned v' ∧ Lies w' h2 t2 v' ∧ Below W.heap.size W w')
    (k23 : ∀ W v, Lies W h2 t2 v → Calls Try.prog 23 #[v] W fun e w' => ∃ v', e = .returned v' ∧ Lies w' h3 t3 v' ∧ Below W.heap.size W w')
    (ok3 : Ok h3 t3) (hp3 : h3 = 0 ∨ 0 < (its h3 t3).length) :
    Calls Try.prog 10 #[.pointer (some ⟨b, 0, none⟩), .string key] w fun e w' => e = .returned (.bool true) ∧ Tr w' b h3 t3 (n - 1) ∧ Onl b w w' := by
  have kg := tget_any b h t ok n key w T
  rw [hk] at kg
  obtain ⟨G1, hG⟩ : ∃ G, (getT h t key).1 = G := ⟨_, rfl⟩
  rw [hG] at kg
  obtain ⟨p, c, q, d, h1, hL⟩ := T.ex
  have lt := lt_of_row h1
  have k27' := fun W hb => k24 W _ (hL.later (w' := W) hb)
  obtain ⟨m1, hm1⟩ : ∃ m, (its h t).length = m := ⟨_, rfl⟩
  obtain ⟨m2, hm2⟩ : ∃ m, kdn h t = m := ⟨_, rfl⟩
  rw [hm1, hm2] at h1
  simp only [hm1, hm2] at k27'
  have HK : Hid (∀ W v, Lies W h2 t2 v → Calls Try.prog 23 #[v] W fun e w' => ∃ v', e = .returned v' ∧ Lies w' h3 t3 v' ∧ Below W.heap.size W w') := k23
  have HKK : Hid (∀ W, Below w.heap.size w W → Calls Try.prog 24 #[.agg #[.slice p m1 c, .slice q m2 d], .string key] W fun e w' => ∃ v', e = .returned v' ∧ Lies w' h2 t2 v' ∧ Below W.heap.size W w') := k27'
  clear T hG hL ok k24 k23 k27' hk hm1 hm2
  go_enter Try.func10, Try.ntmps10
  go_wp2_with fail
  refine kg.mono ?_
  rintro e w1 ⟨rfl, hb1⟩
  have r1 := (hb1.block _ lt).trans h1
  have a0 := cell_of_row w1 _ 0 _ _ _ r1
  have a1 := cell_of_row w1 _ 1 _ _ _ r1
  clear kg
  go_wp2_with fail
  refine (HKK.out _ hb1).mono ?_
  rintro e w2 ⟨v2, rfl, L2, hb2⟩
  obtain ⟨p2, c2, q2, d2, L2', rfl, -, -⟩ := L2.form
  have b02 := hb1.trans (hb2.mono hb1.size)
  have kq := HK.out _ _ L2
  obtain ⟨n1, hn1⟩ : ∃ m, (its h2 t2).length = m := ⟨_, rfl⟩
  obtain ⟨n2, hn2⟩ : ∃ m, kdn h2 t2 = m := ⟨_, rfl⟩
  rw [hn1, hn2] at kq
  simp only [hn1, hn2]
  clear L2 a0 a1 hn1 hn2
  go_wp2_with fail
  refine kq.mono ?_
  rintro e w3 ⟨v3, rfl, L3, hb3⟩
  obtain ⟨p3, c3, q3, d3, L3', rfl, -, -⟩ := L3.form
  have b03 := b02.trans (hb3.mono b02.size)
  have r3 := (b03.block _ lt).trans h1
  have e0 := cell_of_row w3 _ 0 _ _ _ r3
  have e1 := cell_of_row w3 _ 1 _ _ _ r3
  have e2 := cell_of_row w3 _ 2 _ _ _ r3
  have g0 := frozen_of_row w3 _ 0 _ _ r3
  have g1 := frozen_of_row w3 _ 1 _ _ r3
  have g2 := frozen_of_row w3 _ 2 _ _ r3
  obtain ⟨n1, hn1⟩ : ∃ m, (its h3 t3).length = m := ⟨_, rfl⟩
  obtain ⟨n2, hn2⟩ : ∃ m, kdn h3 t3 = m := ⟨_, rfl⟩
  have HL3 : Hid (Lies w3 h3 t3 (.agg #[.slice p3 n1 c3, .slice q3 n2 d3])) := by rw [← hn1, ← hn2]; exact L3
  have HN : Hid ((its h3 t3).length = n1 ∧ kdn h3 t3 = n2) := ⟨hn1, hn2⟩
  simp only [hn1, hn2]
  clear kq L3 hn1 hn2 r1
  have rr := set3_row r3 (.slice p3 n1 c3) (.slice q3 n2 d3)
  have ss : ∀ s, Value.string s ≠ .slice p m1 c ∧ Value.string s ≠ .slice q m2 d ∧ Value.string s ≠ .int .i64 (n : Int) := fun s => ⟨by simp, by simp, by simp⟩
  have i2 := cell_of_row _ _ 2 _ _ _ rr
  have f2 := frozen_of_row _ _ 2 _ _ rr
  have rr2 := heap_setCell_same _ b 2 _ 61 (.int .i64 ((n : Int) - 1)) rr
  have hw1 : IntKind.i64.wrap ((n : Int) - 1) = (n : Int) - 1 := by rw [IntKind.wrap_i64]; omega
  have hn1 : ((n - 1 : Nat) : Int) = (n : Int) - 1 := by omega
  have HN1 : Hid (((n - 1 : Nat) : Int) = (n : Int) - 1) := hn1
  clear hn1
  go_wp2
  go_ret
  refine ⟨rfl, ⟨p3, c3, q3, d3, ?_, ?_⟩, (((Onl.of b03).setCell 0 _).setCell 1 _).setCell 2 _⟩
  · rw [HN.out.1, HN.out.2, HN1.out]
    exact rr2
  · rw [HN.out.1, HN.out.2]
    exact Lies.keptT rr (fun s => ⟨by simp, by simp, by simp⟩) (by simp [World.setCell]) (fun k hk => heap_setCell_other _ _ _ _ hk) ok3 hp3 (Lies.keptT r3 ss (set2_size _ _ _ _) (set2_other _ _ _ _) ok3 hp3 HL3.out)
end Go.Proofs.Ytiplmlalhmldbaa
