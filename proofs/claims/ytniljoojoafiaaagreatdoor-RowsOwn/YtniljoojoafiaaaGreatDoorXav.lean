/- Put, out of what with and grown make; Drop, out of what without and shrunk make. Deep of a tree, out of what its nodes' deep and span say; a tree without kids; a nil tree. Put and Drop of a tree without kids; the laws' awake; a nil tree. -/
import Derived.Test.YtniljoojoafiaaaGreatDoorXad
import Derived.Test.YtniljoojoafiaaaGreatDoorXau
namespace Go.Proofs.YtniljoojoafiaaaGreatDoor.B
open Go.RowKit Go.Shelf
set_option maxRecDepth 100000 in
theorem set3_row {w : World} {X : Nat} {x y z : Value} {t : TypeId} (h : w.heap[X]? = some (.cells #[x, y, z] t (0, 0))) (a b : Value) :
    ((w.setCell ⟨X, 0, none⟩ a).setCell ⟨X, 1, none⟩ b).heap[X]? = some (.cells #[a, b, z] t (0, 0)) := by
  have h1 := heap_setCell_same w X 0 _ t a h
  exact heap_setCell_same _ X 1 _ t b h1
set_option maxRecDepth 100000 in
set_option maxHeartbeats 4000000 in
theorem put_of {h h2 h3 : Nat} {t : Nd h} {t2 : Nd h2} {t3 : Nd h3} (ok : Ok h t) (x : Im) (b n : Nat) (hn : n ≤ 1000000) (w : World) (T : Tr w b h t n)
    (k27 : ∀ W v, Lies W h t v → Calls Tryz.prog 58 #[v, .agg #[.string x.1, .string x.2]] W fun e w' => ∃ v', e = .returned v' ∧ Lies w' h2 t2 v' ∧ Below W.heap.size W w')
    (k26 : ∀ W v, Lies W h2 t2 v → Calls Tryz.prog 57 #[v] W fun e w' => ∃ v', e = .returned v' ∧ Lies w' h3 t3 v' ∧ Below W.heap.size W w')
    (ok3 : Ok h3 t3) (hp3 : h3 = 0 ∨ 0 < (its h3 t3).length) :
    Calls Tryz.prog 32 #[.pointer (some ⟨b, 0, none⟩), .string x.1, .string x.2] w fun e w' => e = .returned (.bool (!(getT h t x.1).2)) ∧ Tr w' b h3 t3 (if (getT h t x.1).2 then n else n + 1) ∧ Onl b w w' := by
  obtain ⟨p, c, q, d, h1, hL⟩ := T.ex
  have c0 := cell_of_row w _ 0 _ _ _ h1
  have c1 := cell_of_row w _ 1 _ _ _ h1
  have lt := lt_of_row h1
  have kg := get_any h t ok x.1 _ w hL
  obtain ⟨⟨G1, G2⟩, hG⟩ : ∃ G, getT h t x.1 = G := ⟨_, rfl⟩
  rw [hG] at kg
  rw [hG]
  have k27' := fun W hb => k27 W _ (hL.later (w' := W) hb)
  obtain ⟨m1, hm1⟩ : ∃ m, (its h t).length = m := ⟨_, rfl⟩
  obtain ⟨m2, hm2⟩ : ∃ m, kdn h t = m := ⟨_, rfl⟩
  rw [hm1, hm2] at h1 kg
  rw [hm1] at c0
  rw [hm2] at c1
  simp only [hm1, hm2] at k27'
  have HK : Hid (∀ W v, Lies W h2 t2 v → Calls Tryz.prog 57 #[v] W fun e w' => ∃ v', e = .returned v' ∧ Lies w' h3 t3 v' ∧ Below W.heap.size W w') := k26
  have HKK : Hid (∀ W, Below w.heap.size w W → Calls Tryz.prog 58 #[.agg #[.slice p m1 c, .slice q m2 d], .agg #[.string x.1, .string x.2]] W fun e w' => ∃ v', e = .returned v' ∧ Lies w' h2 t2 v' ∧ Below W.heap.size W w') := k27'
  clear T hG hL ok k26 k27 k27'
  go_enter Tryz.func32, Tryz.ntmps32
  go_wp2_with fail
  refine kg.mono ?_
  rintro e w1 ⟨rfl, hb1⟩
  have r1 := (hb1.block _ lt).trans h1
  have a0 := cell_of_row w1 _ 0 _ _ _ r1
  have a1 := cell_of_row w1 _ 1 _ _ _ r1
  clear kg c0 c1
  go_wp2_with fail
  refine (HKK.out _ hb1).mono ?_
  rintro e w2 ⟨v2, rfl, L2, hb2⟩
  obtain ⟨p2, c2, q2, d2, L2', rfl, -, -⟩ := L2.form
  have b02 := hb1.trans (hb2.mono hb1.size)
  have kq := HK.out _ _ L2
  obtain ⟨n1, hn1⟩ : ∃ m, (its h2 t2).length = m := ⟨_, rfl⟩
  obtain ⟨n2, hn2⟩ : ∃ m, kdn h2 t2 = m := ⟨_, rfl⟩
  rw [hn1, hn2] at kq
  simp only [hn1, hn2]
  clear L2 a0 a1 hn1 hn2
  go_wp2_with fail
  refine kq.mono ?_
  rintro e w3 ⟨v3, rfl, L3, hb3⟩
  obtain ⟨p3, c3, q3, d3, L3', rfl, -, -⟩ := L3.form
  have b03 := b02.trans (hb3.mono b02.size)
  have r3 := (b03.block _ lt).trans h1
  have e0 := cell_of_row w3 _ 0 _ _ _ r3
  have e1 := cell_of_row w3 _ 1 _ _ _ r3
  have e2 := cell_of_row w3 _ 2 _ _ _ r3
  have g0 := frozen_of_row w3 _ 0 _ _ r3
  have g1 := frozen_of_row w3 _ 1 _ _ r3
  have g2 := frozen_of_row w3 _ 2 _ _ r3
  obtain ⟨n1, hn1⟩ : ∃ m, (its h3 t3).length = m := ⟨_, rfl⟩
  obtain ⟨n2, hn2⟩ : ∃ m, kdn h3 t3 = m := ⟨_, rfl⟩
  have HL3 : Hid (Lies w3 h3 t3 (.agg #[.slice p3 n1 c3, .slice q3 n2 d3])) := by rw [← hn1, ← hn2]; exact L3
  have HN : Hid ((its h3 t3).length = n1 ∧ kdn h3 t3 = n2) := ⟨hn1, hn2⟩
  simp only [hn1, hn2]
  clear kq L3 hn1 hn2 r1
  have rr := set3_row r3 (.slice p3 n1 c3) (.slice q3 n2 d3)
  have ss : ∀ s, Value.string s ≠ .slice p m1 c ∧ Value.string s ≠ .slice q m2 d ∧ Value.string s ≠ .int .i64 (n : Int) := fun s => ⟨by simp, by simp, by simp⟩
  cases G2 with
  | true =>
    go_wp2
    go_ret
    refine ⟨rfl, ⟨p3, c3, q3, d3, ?_, ?_⟩, ((Onl.of b03).setCell 0 _).setCell 1 _⟩
    · rw [HN.out.1, HN.out.2]
      exact rr
    · rw [HN.out.1, HN.out.2]
      exact Lies.keptT r3 ss (set2_size _ _ _ _) (set2_other _ _ _ _) ok3 hp3 HL3.out
  | false =>
    have i2 := cell_of_row _ _ 2 _ _ _ rr
    have f2 := frozen_of_row _ _ 2 _ _ rr
    have rr2 := heap_setCell_same _ b 2 _ 110 (.int .i64 ((n : Int) + 1)) rr
    have hw1 : IntKind.i64.wrap ((n : Int) + 1) = (n : Int) + 1 := by rw [IntKind.wrap_i64]; omega
    go_wp2
    go_ret
    refine ⟨rfl, ⟨p3, c3, q3, d3, ?_, ?_⟩, (((Onl.of b03).setCell 0 _).setCell 1 _).setCell 2 _⟩
    · rw [HN.out.1, HN.out.2]
      exact rr2
    · rw [HN.out.1, HN.out.2]
      exact Lies.keptT rr (fun s => ⟨by simp, by simp, by simp⟩) (by simp [World.setCell]) (fun k hk => heap_setCell_other _ _ _ _ hk) ok3 hp3 (Lies.keptT r3 ss (set2_size _ _ _ _) (set2_other _ _ _ _) ok3 hp3 HL3.out)
set_option maxRecDepth 100000 in
set_option maxHeartbeats 4000000 in
theorem drop_none {h : Nat} {t : Nd h} (ok : Ok h t) (key : ByteArray) (hk : (getT h t key).2 = false) (b n : Nat) (w : World) (T : Tr w b h t n) :
    Calls Tryz.prog 29 #[.pointer (some ⟨b, 0, none⟩), .string key] w fun e w' => e = .returned (.bool false) ∧ Below w.heap.size w w' := by
  have kg := tget_any b h t ok n key w T
  rw [hk] at kg
  obtain ⟨G1, hG⟩ : ∃ G, (getT h t key).1 = G := ⟨_, rfl⟩
  rw [hG] at kg
  clear hk hG
  go_enter Tryz.func29, Tryz.ntmps29
  go_wp2_with fail
  refine kg.mono ?_
  rintro e w1 ⟨rfl, hb1⟩
  go_wp2
  go_ret
  exact ⟨rfl, hb1⟩
set_option maxRecDepth 100000 in
set_option maxHeartbeats 4000000 in
theorem drop_of {h h2 h3 : Nat} {t : Nd h} {t2 : Nd h2} {t3 : Nd h3} (ok : Ok h t) (key : ByteArray) (hk : (getT h t key).2 = true) (b n : Nat) (hn0 : 0 < n) (hn : n ≤ 1000000) (w : World) (T : Tr w b h t n)
    (k24 : ∀ W v, Lies W h t v → Calls Tryz.prog 53 #[v, .string key] W fun e w' => ∃ v', e = .returned v' ∧ Lies w' h2 t2 v' ∧ Below W.heap.size W w')
    (k23 : ∀ W v, Lies W h2 t2 v → Calls Tryz.prog 52 #[v] W fun e w' => ∃ v', e = .returned v' ∧ Lies w' h3 t3 v' ∧ Below W.heap.size W w')
    (ok3 : Ok h3 t3) (hp3 : h3 = 0 ∨ 0 < (its h3 t3).length) :
    Calls Tryz.prog 29 #[.pointer (some ⟨b, 0, none⟩), .string key] w fun e w' => e = .returned (.bool true) ∧ Tr w' b h3 t3 (n - 1) ∧ Onl b w w' := by
  have kg := tget_any b h t ok n key w T
  rw [hk] at kg
  obtain ⟨G1, hG⟩ : ∃ G, (getT h t key).1 = G := ⟨_, rfl⟩
  rw [hG] at kg
  obtain ⟨p, c, q, d, h1, hL⟩ := T.ex
  have lt := lt_of_row h1
  have k27' := fun W hb => k24 W _ (hL.later (w' := W) hb)
  obtain ⟨m1, hm1⟩ : ∃ m, (its h t).length = m := ⟨_, rfl⟩
  obtain ⟨m2, hm2⟩ : ∃ m, kdn h t = m := ⟨_, rfl⟩
  rw [hm1, hm2] at h1
  simp only [hm1, hm2] at k27'
  have HK : Hid (∀ W v, Lies W h2 t2 v → Calls Tryz.prog 52 #[v] W fun e w' => ∃ v', e = .returned v' ∧ Lies w' h3 t3 v' ∧ Below W.heap.size W w') := k23
  have HKK : Hid (∀ W, Below w.heap.size w W → Calls Tryz.prog 53 #[.agg #[.slice p m1 c, .slice q m2 d], .string key] W fun e w' => ∃ v', e = .returned v' ∧ Lies w' h2 t2 v' ∧ Below W.heap.size W w') := k27'
  clear T hG hL ok k24 k23 k27' hk hm1 hm2
  go_enter Tryz.func29, Tryz.ntmps29
  go_wp2_with fail
  refine kg.mono ?_
  rintro e w1 ⟨rfl, hb1⟩
  have r1 := (hb1.block _ lt).trans h1
  have a0 := cell_of_row w1 _ 0 _ _ _ r1
  have a1 := cell_of_row w1 _ 1 _ _ _ r1
  clear kg
  go_wp2_with fail
  refine (HKK.out _ hb1).mono ?_
  rintro e w2 ⟨v2, rfl, L2, hb2⟩
  obtain ⟨p2, c2, q2, d2, L2', rfl, -, -⟩ := L2.form
  have b02 := hb1.trans (hb2.mono hb1.size)
  have kq := HK.out _ _ L2
  obtain ⟨n1, hn1⟩ : ∃ m, (its h2 t2).length = m := ⟨_, rfl⟩
  obtain ⟨n2, hn2⟩ : ∃ m, kdn h2 t2 = m := ⟨_, rfl⟩
  rw [hn1, hn2] at kq
  simp only [hn1, hn2]
  clear L2 a0 a1 hn1 hn2
  go_wp2_with fail
  refine kq.mono ?_
  rintro e w3 ⟨v3, rfl, L3, hb3⟩
  obtain ⟨p3, c3, q3, d3, L3', rfl, -, -⟩ := L3.form
  have b03 := b02.trans (hb3.mono b02.size)
  have r3 := (b03.block _ lt).trans h1
  have e0 := cell_of_row w3 _ 0 _ _ _ r3
  have e1 := cell_of_row w3 _ 1 _ _ _ r3
  have e2 := cell_of_row w3 _ 2 _ _ _ r3
  have g0 := frozen_of_row w3 _ 0 _ _ r3
  have g1 := frozen_of_row w3 _ 1 _ _ r3
  have g2 := frozen_of_row w3 _ 2 _ _ r3
  obtain ⟨n1, hn1⟩ : ∃ m, (its h3 t3).length = m := ⟨_, rfl⟩
  obtain ⟨n2, hn2⟩ : ∃ m, kdn h3 t3 = m := ⟨_, rfl⟩
  have HL3 : Hid (Lies w3 h3 t3 (.agg #[.slice p3 n1 c3, .slice q3 n2 d3])) := by rw [← hn1, ← hn2]; exact L3
  have HN : Hid ((its h3 t3).length = n1 ∧ kdn h3 t3 = n2) := ⟨hn1, hn2⟩
  simp only [hn1, hn2]
  clear kq L3 hn1 hn2 r1
  have rr := set3_row r3 (.slice p3 n1 c3) (.slice q3 n2 d3)
  have ss : ∀ s, Value.string s ≠ .slice p m1 c ∧ Value.string s ≠ .slice q m2 d ∧ Value.string s ≠ .int .i64 (n : Int) := fun s => ⟨by simp, by simp, by simp⟩
  have i2 := cell_of_row _ _ 2 _ _ _ rr
  have f2 := frozen_of_row _ _ 2 _ _ rr
  have rr2 := heap_setCell_same _ b 2 _ 110 (.int .i64 ((n : Int) - 1)) rr
  have hw1 : IntKind.i64.wrap ((n : Int) - 1) = (n : Int) - 1 := by rw [IntKind.wrap_i64]; omega
  have hn1 : ((n - 1 : Nat) : Int) = (n : Int) - 1 := by omega
  have HN1 : Hid (((n - 1 : Nat) : Int) = (n : Int) - 1) := hn1
  clear hn1
  go_wp2
  go_ret
  refine ⟨rfl, ⟨p3, c3, q3, d3, ?_, ?_⟩, (((Onl.of b03).setCell 0 _).setCell 1 _).setCell 2 _⟩
  · rw [HN.out.1, HN.out.2, HN1.out]
    exact rr2
  · rw [HN.out.1, HN.out.2]
    exact Lies.keptT rr (fun s => ⟨by simp, by simp, by simp⟩) (by simp [World.setCell]) (fun k hk => heap_setCell_other _ _ _ _ hk) ok3 hp3 (Lies.keptT r3 ss (set2_size _ _ _ _) (set2_other _ _ _ _) ok3 hp3 HL3.out)
end Go.Proofs.YtniljoojoafiaaaGreatDoor.B
namespace Go.Proofs.YtniljoojoafiaaaGreatDoor.B
open Go.RowKit Go.Shelf
attribute [local go_sem] Oper.semAt_some
/- A tree without kids. -/
set_option maxRecDepth 100000 in
theorem ris_drop {xs : List Im} (hr : Ris xs) (i : Nat) : Ris (xs.drop i) := by
  intro a b hab hb
  rw [List.length_drop] at hb
  have h := hr (i + a) (i + b) (by omega) (by omega)
  rw [getElem!_pos xs (i + a) (by omega), getElem!_pos xs (i + b) (by omega)] at h
  rw [getElem!_pos (xs.drop i) a (by rw [List.length_drop]; omega), getElem!_pos (xs.drop i) b (by rw [List.length_drop]; omega), List.getElem_drop, List.getElem_drop]
  exact h
set_option maxRecDepth 100000 in
theorem ris_prefix {xs ys : List Im} (hr : Ris xs) (hp : ys <+: xs) : Ris ys := by
  obtain ⟨r, rfl⟩ := hp
  intro a b hab hb
  have h := hr a b hab (by rw [List.length_append]; omega)
  rw [getElem!_pos (ys ++ r) a (by rw [List.length_append]; omega), getElem!_pos (ys ++ r) b (by rw [List.length_append]; omega), List.getElem_append_left (by omega), List.getElem_append_left hb] at h
  rw [getElem!_pos ys a (by omega), getElem!_pos ys b hb]
  exact h
set_option maxRecDepth 100000 in
theorem ris_span {xs : List Im} (hr : Ris xs) (lo hi : ByteArray) (i : Nat) : Ris (spanL xs lo hi i) := ris_prefix (ris_drop hr i) (List.takeWhile_prefix _)
end Go.Proofs.YtniljoojoafiaaaGreatDoor.B
namespace Go.Proofs.YtniljoojoafiaaaGreatDoor.B
open Go.RowKit Go.Shelf
set_option maxRecDepth 100000 in
theorem put0 (xs : List Im) (hr : Ris xs) (hn : xs.length ≤ 50) (x : Im) (hr2 : Ris (insK xs x)) (hn2 : (insK xs x).length ≤ 7) (b n : Nat) (hn3 : n ≤ 1000000) (w : World) (T : Tr w b 0 xs n) :
    Calls Tryz.prog 32 #[.pointer (some ⟨b, 0, none⟩), .string x.1, .string x.2] w fun e w' => e = .returned (.bool (!(isK xs x.1))) ∧ Tr w' b 0 (insK xs x) (if isK xs x.1 then n else n + 1) ∧ Onl b w w' := by
  have h := put_of (h := 0) (h2 := 0) (h3 := 0) (t := xs) (t2 := insK xs x) (t3 := insK xs x) ⟨hr, hn⟩ x b n hn3 w T
    (fun W v hL => by
      obtain ⟨p, c, q, d, rfl, hS, hQ⟩ := hL
      exact with_leaf xs hr hn x p c q d W hS hQ)
    (fun W v hL => by
      obtain ⟨p, c, q, d, rfl, hS, hQ⟩ := hL
      refine (grown_small p _ c hn2 q 0 d W).mono ?_
      rintro e w' ⟨rfl, hb⟩
      exact ⟨_, rfl, ⟨p, c, q, d, rfl, hS.later hb, hQ.later hb⟩, hb⟩)
    ⟨hr2, Nat.le_trans hn2 (by omega)⟩ (Or.inl rfl)
  have e : (getT 0 xs x.1).2 = isK xs x.1 := by
    show (if isK xs x.1 = true then ((xs[posK xs x.1]!).2, true) else (⟨#[]⟩, false) : ByteArray × Bool).2 = _
    cases isK xs x.1 <;> rfl
  rw [e] at h
  exact h
set_option maxRecDepth 100000 in
theorem drop0 (xs : List Im) (hr : Ris xs) (hn : xs.length ≤ 7) (key : ByteArray) (hk : isK xs key = true) (hr2 : Ris (delK xs key)) (hn2 : (delK xs key).length ≤ 7) (b n : Nat) (hn0 : 0 < n) (hn3 : n ≤ 1000000) (w : World) (T : Tr w b 0 xs n) :
    Calls Tryz.prog 29 #[.pointer (some ⟨b, 0, none⟩), .string key] w fun e w' => e = .returned (.bool true) ∧ Tr w' b 0 (delK xs key) (n - 1) ∧ Onl b w w' := by
  have e : (getT 0 xs key).2 = isK xs key := by
    show (if isK xs key = true then ((xs[posK xs key]!).2, true) else (⟨#[]⟩, false) : ByteArray × Bool).2 = _
    cases isK xs key <;> rfl
  exact drop_of (h := 0) (h2 := 0) (h3 := 0) (t := xs) (t2 := delK xs key) (t3 := delK xs key) ⟨hr, Nat.le_trans hn (by omega)⟩ key (e.trans hk) b n hn0 hn3 w T
    (fun W v hL => by
      obtain ⟨p, c, q, d, rfl, hS, hQ⟩ := hL
      exact without_leaf xs hr (Nat.le_trans hn (by omega)) key hk p c q d W hS)
    (fun W v hL => by
      obtain ⟨p, c, q, d, rfl, hS, hQ⟩ := hL
      refine (shrunk_leaf p _ c q d W).mono ?_
      rintro e w' ⟨rfl, hb⟩
      exact ⟨_, rfl, ⟨p, c, q, d, rfl, hS.later hb, hQ.later hb⟩, hb⟩)
    ⟨hr2, Nat.le_trans hn2 (by omega)⟩ (Or.inl rfl)
def sA : ByteArray := ⟨#[97]⟩
def sB : ByteArray := ⟨#[98]⟩
def s1 : ByteArray := ⟨#[49]⟩
def s2 : ByteArray := ⟨#[50]⟩
def s3 : ByteArray := ⟨#[51]⟩
set_option maxRecDepth 100000 in
theorem lt8_ab : ltB sA sB = true := by decide +kernel
set_option maxRecDepth 100000 in
theorem ris0 : Ris [] := fun i j _ h => by simp at h
set_option maxRecDepth 100000 in
theorem ris1 (x : Im) : Ris [x] := fun i j h1 h2 => by simp at h2; omega
set_option maxRecDepth 100000 in
theorem ris2 (x y : Im) (h : ltB x.1 y.1 = true) : Ris [x, y] := fun i j h1 h2 => by
  obtain rfl : j = 1 := by simp at h2; omega
  obtain rfl : i = 0 := by omega
  exact h
set_option maxRecDepth 100000 in
theorem i1 : insK [] (sB, s1) = [(sB, s1)] := by kernel_rfl
set_option maxRecDepth 100000 in
theorem i2 : insK [(sB, s1)] (sA, s2) = [(sA, s2), (sB, s1)] := by kernel_rfl
set_option maxRecDepth 100000 in
theorem i3 : insK [(sA, s2), (sB, s1)] (sB, s3) = [(sA, s2), (sB, s3)] := by kernel_rfl
set_option maxRecDepth 100000 in
theorem i4 : delK [(sA, s2), (sB, s3)] sA = [(sB, s3)] := by kernel_rfl
set_option maxRecDepth 100000 in
theorem k1 : isK [] sB = false := by kernel_rfl
set_option maxRecDepth 100000 in
theorem k2 : isK [(sB, s1)] sA = false := by kernel_rfl
set_option maxRecDepth 100000 in
theorem k3 : isK [(sA, s2), (sB, s1)] sB = true := by kernel_rfl
set_option maxRecDepth 100000 in
theorem k4 : isK [(sA, s2), (sB, s3)] sA = true := by kernel_rfl
set_option maxRecDepth 100000 in
theorem k5 : getT 0 ([(sA, s2), (sB, s3)] : List Im) sB = (s3, true) := by kernel_rfl
end Go.Proofs.YtniljoojoafiaaaGreatDoor.B
