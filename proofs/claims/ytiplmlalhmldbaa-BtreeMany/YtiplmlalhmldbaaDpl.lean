/- Deep of a tree, out of what its nodes' deep and span say; a tree without kids; a nil tree. -/
import Derived.Test.YtiplmlalhmldbaaRng
import Derived.Test.YtiplmlalhmldbaaPut
namespace Go.Proofs.Ytiplmlalhmldbaa
open Go.RowKit Go.Shelf
attribute [local go_sem] Oper.semAt_some
set_option maxRecDepth 100000 in
set_option maxHeartbeats 4000000 in
theorem deep_of (b h : Nat) (t : Nd h) (n : Nat) (w : World) (T : Tr w b h t n) (hh : h ≤ 1000) (xs : List Im) (hr : Ris xs)
    (k28 : ∀ W v, Lies W h t v → Calls Try.prog 28 #[v, .int .i64 0] W fun e w' => e = .returned (.int .i64 ((h : Int) + 1)) ∧ Below W.heap.size W w')
    (kseq : ∀ x y bn bs W, Below w.heap.size w W → Lies w h t (.agg #[x, y]) → W.heap[bn]? = some (.cells #[x, y] 59 (0, 0)) → W.heap[bs]? = some (.cells #[.string ⟨#[]⟩, .string ⟨#[]⟩] 24 (0, 0)) →
      SeqB Try.prog 38 #[.pointer (some ⟨bn, 0, none⟩), .pointer (some ⟨bs, 0, none⟩)] (fun x : Im => #[.string x.1, .string x.2]) xs (fun k => k < w.heap.size ∨ k = bn ∨ k = bs) W) :
    Calls Try.prog 16 #[.pointer (some ⟨b, 0, none⟩)] w fun e w' => e = .returned (.int .i64 ((h : Int) + 1)) ∧ Below w.heap.size w w' := by
  obtain ⟨p, c, q, d, h1, hL⟩ := T.ex
  have c0 := cell_of_row w _ 0 _ _ _ h1
  have c1 := cell_of_row w _ 1 _ _ _ h1
  have lt := lt_of_row h1
  have kd := k28 w _ hL
  have ks := fun bn bs W hb h1 h2 => kseq _ _ bn bs W hb hL h1 h2
  obtain ⟨m1, hm1⟩ : ∃ m, (its h t).length = m := ⟨_, rfl⟩
  obtain ⟨m2, hm2⟩ : ∃ m, kdn h t = m := ⟨_, rfl⟩
  rw [hm1, hm2] at h1 kd
  rw [hm1] at c0
  rw [hm2] at c1
  simp only [hm1, hm2] at ks
  have HS : Hid (∀ bn bs W, Below w.heap.size w W → W.heap[bn]? = some (.cells #[.slice p m1 c, .slice q m2 d] 59 (0, 0)) → W.heap[bs]? = some (.cells #[.string ⟨#[]⟩, .string ⟨#[]⟩] 24 (0, 0)) →
      SeqB Try.prog 38 #[.pointer (some ⟨bn, 0, none⟩), .pointer (some ⟨bs, 0, none⟩)] (fun x : Im => #[.string x.1, .string x.2]) xs (fun k => k < w.heap.size ∨ k = bn ∨ k = bs) W) := ks
  have hne : ¬ ((h : Int) + 1 = 0) := by omega
  have hne2 : decide ((h : Int) + 1 = 0) = false := decide_eq_false hne
  clear T hL k28 kseq ks hm1 hm2
  go_enter Try.func16, Try.ntmps16
  go_wp2_with fail
  refine kd.mono ?_
  rintro e w1 ⟨rfl, hb1⟩
  clear kd c0 c1
  go_wp2_with fail
  refine (kall_any _).mono ?_
  rintro e w2 ⟨rfl, hb2⟩
  have b02 := hb1.trans (hb2.mono hb1.size)
  have r2 := (b02.block _ lt).trans h1
  have kr := range_tree p m1 c q m2 d _ b ⟨#[]⟩ ⟨#[]⟩ w2 r2
  clear r2
  go_wp2_with fail
  refine kr.mono ?_
  rintro e w3 ⟨bn, bs, rfl, hbn, hbs, rn, rs, hb3⟩
  have b03 := b02.trans (hb3.mono b02.size)
  have kz := rise_any xs hr #[.pointer (some ⟨bn, 0, none⟩), .pointer (some ⟨bs, 0, none⟩)] (fun k => k < w.heap.size ∨ k = bn ∨ k = bs) w3 (fun k hk => by
    have s1 := lt_of_row rn
    have s2 := lt_of_row rs
    have s3 := b03.size
    omega) (fun W hbW => HS.out bn bs W (b03.trans (hbW.mono b03.size)) ((hbW.block _ (lt_of_row rn)).trans rn) ((hbW.block _ (lt_of_row rs)).trans rs))
  clear kr rn rs
  go_wp2_with fail
  refine kz.mono ?_
  rintro e w4 ⟨rfl, hb4⟩
  go_wp2
  go_ret
  exact ⟨rfl, b03.trans (hb4.mono b03.size)⟩
/- A tree without kids. -/
theorem ris_drop {xs : List Im} (hr : Ris xs) (i : Nat) : Ris (xs.drop i) := by
  intro a b hab hb
  rw [List.length_drop] at hb
  have h := hr (i + a) (i + b) (by omega) (by omega)
  rw [getElem!_pos xs (i + a) (by omega), getElem!_pos xs (i + b) (by omega)] at h
  rw [getElem!_pos (xs.drop i) a (by rw [List.length_drop]; omega), getElem!_pos (xs.drop i) b (by rw [List.length_drop]; omega), List.getElem_drop, List.getElem_drop]
  exact h
theorem ris_prefix {xs ys : List Im} (hr : Ris xs) (hp : ys <+: xs) : Ris ys := by
  obtain ⟨r, rfl⟩ := hp
  intro a b hab hb
  have h := hr a b hab (by rw [List.length_append]; omega)
  rw [getElem!_pos (ys ++ r) a (by rw [List.length_append]; omega), getElem!_pos (ys ++ r) b (by rw [List.length_append]; omega), List.getElem_append_left (by omega), List.getElem_append_left hb] at h
  rw [getElem!_pos ys a (by omega), getElem!_pos ys b hb]
  exact h
theorem ris_span {xs : List Im} (hr : Ris xs) (lo hi : ByteArray) (i : Nat) : Ris (spanL xs lo hi i) := ris_prefix (ris_drop hr i) (List.takeWhile_prefix _)
theorem deep0 (b : Nat) (xs : List Im) (hr : Ris xs) (hn : xs.length ≤ 7) (n : Nat) (w : World) (T : Tr w b 0 xs n) :
    Calls Try.prog 16 #[.pointer (some ⟨b, 0, none⟩)] w fun e w' => e = .returned (.int .i64 1) ∧ Below w.heap.size w w' := by
  have := deep_of b 0 xs n w T (by omega) (spanL xs ⟨#[]⟩ ⟨#[]⟩ (posK xs ⟨#[]⟩)) (ris_span hr _ _ _)
    (fun W v hL => by simpa using deep_leaf 0 xs ⟨Nat.zero_le _, hn⟩ v W hL)
    (fun x y bn bs W hb hL h1 h2 => by
      obtain ⟨p, c, q, d, e, hS, hK⟩ := hL
      obtain ⟨rfl, rfl⟩ := agg2 e
      exact span0_seq xs hr (by omega) ⟨#[]⟩ ⟨#[]⟩ p c q d bn bs w W hS hb h1 h2)
  simpa using this
end Go.Proofs.Ytiplmlalhmldbaa
