/- A tree of the law's names (MA): the names from one number on up to another one. -/
import Derived.Test.YtiplmlalhmldbaaNam
namespace Go.Proofs.Ytiplmlalhmldbaa
open Go.RowKit Go.Shelf
def nm (D : Int) (j : Nat) : ByteArray := nmB (nmX D j)
theorem nm_ne {D : Int} (hD : D % 2 = 1) {i j : Nat} (hi : i < 1024) (hj : j < 1024) (h : i ≠ j) : nm D i ≠ nm D j := fun e =>
  h (nmX_inj hD hi hj (nm_inj (nmX_lt D i) (nmX_lt D j) e))
theorem or_one (n : Int) : bits .or .i64 n 1 % 2 = 1 := by
  have h1 : (BitVec.ofInt 64 1).toNat = 1 := by decide
  have hb := (BitVec.ofInt 64 n ||| BitVec.ofInt 64 1).isLt
  have key : (BitVec.ofInt 64 n ||| BitVec.ofInt 64 1).toNat % 2 = 1 := by
    rw [BitVec.toNat_or, h1]
    simp
  show IntKind.i64.wrap (((BitVec.ofInt 64 n ||| BitVec.ofInt 64 1).toNat : Nat) : Int) % 2 = 1
  generalize (BitVec.ofInt 64 n ||| BitVec.ofInt 64 1).toNat = m at hb key
  rw [IntKind.wrap_i64]
  omega
theorem mem_insF {xs : List Im} {x y : Im} (h : y ∈ insF xs x) : y = x ∨ y ∈ xs := by
  unfold insF at h
  rcases List.mem_append.1 h with h | h
  · exact .inr (List.mem_filter.1 h).1
  · rcases List.mem_cons.1 h with h | h
    · exact .inl h
    · exact .inr (List.mem_filter.1 h).1
theorem insF_self (xs : List Im) (x : Im) : x ∈ insF xs x := List.mem_append_right _ List.mem_cons_self
theorem insF_old {xs : List Im} {x y : Im} (h : y ∈ xs) (hne : y.1 ≠ x.1) : y ∈ insF xs x := by
  unfold insF
  rcases ltB_total y.1 x.1 with h1 | h1 | h1
  · exact List.mem_append_left _ (List.mem_filter.2 ⟨h, h1⟩)
  · exact absurd h1 hne
  · exact List.mem_append_right _ (List.mem_cons_of_mem _ (List.mem_filter.2 ⟨h, h1⟩))
theorem mem_delF {xs : List Im} {k : ByteArray} {y : Im} (h : y ∈ delF xs k) : y ∈ xs ∧ y.1 ≠ k := by
  unfold delF at h
  rcases List.mem_append.1 h with h | h
  · obtain ⟨h1, h2⟩ := List.mem_filter.1 h
    exact ⟨h1, ne_below h2⟩
  · obtain ⟨h1, h2⟩ := List.mem_filter.1 h
    exact ⟨h1, ne_above h2⟩
theorem delF_old {xs : List Im} {k : ByteArray} {y : Im} (h : y ∈ xs) (hne : y.1 ≠ k) : y ∈ delF xs k := by
  unfold delF
  rcases ltB_total y.1 k with h1 | h1 | h1
  · exact List.mem_append_left _ (List.mem_filter.2 ⟨h, h1⟩)
  · exact absurd h1 hne
  · exact List.mem_append_right _ (List.mem_filter.2 ⟨h, h1⟩)
structure MA (w wr : World) (D : Int) (lo hi : Nat) : Prop where
  ex : ∃ (h : Nat) (t : Nd h), Rt h t ∧ Tr wr (w.heap.size + 1) h t (hi - lo) ∧ (flat h t).length = hi - lo ∧ (∀ y ∈ flat h t, ∃ j, lo ≤ j ∧ j < hi ∧ y.1 = nm D j) ∧ (∀ j, lo ≤ j → j < hi → ∃ y ∈ flat h t, y.1 = nm D j)
  bx : wr.heap[w.heap.size]? = some (.cells #[.int .i64 D] 3 (0, 0))
  bel : Below w.heap.size w wr
theorem MA.later {w wr w2 : World} {D : Int} {lo hi : Nat} (H : MA w wr D lo hi) (hb : Below wr.heap.size wr w2) : MA w w2 D lo hi := by
  obtain ⟨h, t, h1, h2, h3, h4, h5⟩ := H.ex
  exact ⟨⟨h, t, h1, h2.later hb, h3, h4, h5⟩, (hb.block _ (lt_of_row H.bx)).trans H.bx, H.bel.trans (hb.mono H.bel.size)⟩
theorem MA.onl {w wr w2 : World} {D : Int} {lo hi : Nat} (H : MA w wr D lo hi) (ho : Onl (w.heap.size + 1) wr w2) : w2.heap[w.heap.size]? = some (.cells #[.int .i64 D] 3 (0, 0)) ∧ Below w.heap.size w w2 := by
  have := H.bel.size
  exact ⟨(ho.block _ (lt_of_row H.bx) (by omega)).trans H.bx, H.bel.trans (ho.below (by omega) (by omega))⟩
theorem MA.name {w wr : World} {D : Int} {lo hi : Nat} (H : MA w wr D lo hi) (i : Nat) (hi2 : i < 1024) :
    Calls Try.prog 20 #[.int .i64 (i : Int), .pointer (some ⟨w.heap.size, 0, none⟩)] wr fun e w1 => e = .returned (.string (nm D i)) ∧ MA w w1 D lo hi := by
  refine (name_any D i hi2 w.heap.size wr (cell_of_row wr _ 0 _ _ _ H.bx)).mono ?_
  rintro e w1 ⟨rfl, hb⟩
  exact ⟨rfl, H.later hb⟩
theorem MA.put {w wr : World} {D : Int} (hD : D % 2 = 1) {i : Nat} (H : MA w wr D 0 i) (hi : i < 600) (v : ByteArray) :
    Calls Try.prog 14 #[.pointer (some ⟨w.heap.size + 1, 0, none⟩), .string (nm D i), .string v] wr fun e w1 => e = .returned (.bool true) ∧ MA w w1 D 0 (i + 1) := by
  obtain ⟨h, t, R, T, hm, h4, h5⟩ := H.ex
  have hno : hasF (flat h t) (nm D i) = false := by
    cases e : hasF (flat h t) (nm D i) with
    | false => rfl
    | true =>
      obtain ⟨y, hy, he⟩ := has_mem.1 e
      obtain ⟨j, -, hj, hj2⟩ := h4 y hy
      exact absurd (hj2.symm.trans he) (nm_ne hD (by omega) (by omega) (by omega))
  have hg := congrArg Prod.snd (getT_flat (nm D i) R.bal R.pw)
  rw [getF_has, hno] at hg
  have hl := insF_lenE R.pw (nm D i, v)
  rw [hno, if_neg Bool.false_ne_true] at hl
  refine (put_any R (nm D i, v) (w.heap.size + 1) _ (by omega) wr T).mono ?_
  rintro e w2 ⟨rfl, ⟨h3, t3, R3, f3, T3⟩, ho⟩
  rw [hg, if_neg Bool.false_ne_true] at T3
  obtain ⟨b1, b2⟩ := H.onl ho
  refine ⟨by rw [hg]; rfl, ⟨h3, t3, R3, ?_, ?_, fun y hy => ?_, fun j _ hj => ?_⟩, b1, b2⟩
  · rw [show i + 1 - 0 = i - 0 + 1 by omega]
    exact T3
  · rw [f3, hl]
    omega
  · rw [f3] at hy
    rcases mem_insF hy with rfl | hy
    · exact ⟨i, by omega, by omega, rfl⟩
    · obtain ⟨j, a, b, c⟩ := h4 y hy
      exact ⟨j, a, by omega, c⟩
  · rw [f3]
    by_cases e : j = i
    · exact ⟨_, insF_self _ _, by rw [e]⟩
    · obtain ⟨y, hy, hy2⟩ := h5 j (by omega) (by omega)
      exact ⟨y, insF_old hy (by rw [hy2]; exact nm_ne hD (by omega) (by omega) e), hy2⟩
theorem MA.drop {w wr : World} {D : Int} (hD : D % 2 = 1) {i k : Nat} (H : MA w wr D i k) (hik : i < k) (hk : k < 600) :
    Calls Try.prog 10 #[.pointer (some ⟨w.heap.size + 1, 0, none⟩), .string (nm D i)] wr fun e w1 => e = .returned (.bool true) ∧ MA w w1 D (i + 1) k := by
  obtain ⟨h, t, R, T, hm, h4, h5⟩ := H.ex
  have hyes : hasF (flat h t) (nm D i) = true := has_mem.2 (h5 i (by omega) hik)
  obtain ⟨l1, l2⟩ := delF_lenE R.pw hyes
  refine (drop_any R (nm D i) (w.heap.size + 1) _ (fun _ => by omega) (by omega) wr T).mono ?_
  rintro e w2 ⟨rfl, ⟨h3, t3, R3, f3, T3⟩, ho⟩
  rw [hyes, if_pos rfl] at f3 T3
  obtain ⟨b1, b2⟩ := H.onl ho
  refine ⟨by rw [hyes], ⟨h3, t3, R3, ?_, ?_, fun y hy => ?_, fun j hj1 hj => ?_⟩, b1, b2⟩
  · rw [show k - (i + 1) = k - i - 1 by omega]
    exact T3
  · rw [f3, l1]
    omega
  · rw [f3] at hy
    obtain ⟨hy1, hy2⟩ := mem_delF hy
    obtain ⟨j, a, b, c⟩ := h4 y hy1
    refine ⟨j, ?_, b, c⟩
    rcases Nat.lt_or_ge i j with h | h
    · omega
    · obtain rfl : j = i := by omega
      exact absurd c hy2
  · rw [f3]
    obtain ⟨y, hy, hy2⟩ := h5 j (by omega) hj
    exact ⟨y, delF_old hy (by rw [hy2]; exact nm_ne hD (by omega) (by omega) (by omega)), hy2⟩
theorem MA.drop2 {w wr : World} {D : Int} (hD : D % 2 = 1) {i k : Nat} (H : MA w wr D (i + 1) k) (hik : i < k) (hk : k < 600) :
    Calls Try.prog 10 #[.pointer (some ⟨w.heap.size + 1, 0, none⟩), .string (nm D i)] wr fun e w1 => e = .returned (.bool false) ∧ MA w w1 D (i + 1) k := by
  obtain ⟨h, t, R, T, hm, h4, h5⟩ := H.ex
  have hno : hasF (flat h t) (nm D i) = false := by
    cases e : hasF (flat h t) (nm D i) with
    | false => rfl
    | true =>
      obtain ⟨y, hy, he⟩ := has_mem.1 e
      obtain ⟨j, hj0, hj, hj2⟩ := h4 y hy
      exact absurd (hj2.symm.trans he) (nm_ne hD (by omega) (by omega) (by omega))
  have hg := congrArg Prod.snd (getT_flat (nm D i) R.bal R.pw)
  rw [getF_has, hno] at hg
  refine (drop_none R.ok (nm D i) hg (w.heap.size + 1) _ wr T).mono ?_
  rintro e w2 ⟨rfl, hb⟩
  exact ⟨rfl, H.later hb⟩
theorem MA.len {w wr : World} {D : Int} {lo hi : Nat} (H : MA w wr D lo hi) :
    Calls Try.prog 15 #[.pointer (some ⟨w.heap.size + 1, 0, none⟩)] wr fun e w1 => e = .returned (.int .i64 ((hi - lo : Nat) : Int)) ∧ MA w w1 D lo hi := by
  obtain ⟨h, t, R, T, hm, h4, h5⟩ := H.ex
  refine (len_any _ h t _ wr T).mono ?_
  rintro e w1 ⟨rfl, hb1⟩
  exact ⟨rfl, H.later hb1⟩
theorem MA.deep {w wr : World} {D : Int} {lo hi : Nat} (H : MA w wr D lo hi) (hh : hi < 600) :
    Calls Try.prog 16 #[.pointer (some ⟨w.heap.size + 1, 0, none⟩)] wr fun e w1 => (∃ k : Nat, k ≤ 4 ∧ e = .returned (.int .i64 ((k : Int) + 1))) ∧ MA w w1 D lo hi := by
  obtain ⟨h, t, R, T, hm, h4, h5⟩ := H.ex
  have hl := root_low R (by omega)
  refine (deep_any R (by omega) _ _ wr T).mono ?_
  rintro e w1 ⟨rfl, hb1⟩
  exact ⟨⟨h, hl, rfl⟩, H.later hb1⟩
end Go.Proofs.Ytiplmlalhmldbaa
