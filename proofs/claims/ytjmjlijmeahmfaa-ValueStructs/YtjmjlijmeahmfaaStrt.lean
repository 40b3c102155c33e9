/- The order of names as numbers (osF), which of them are kept (keptP), the struct's tree (structT). -/
import Derived.Test.YtjmjlijmeahmfaaSrt
import Derived.Test.YtjmjlijmeahmfaaCln
import Derived.Test.YtjmjlijmeahmfaaSimp
namespace Go.Proofs.Ytjmjlijmeahmfaa
open Go.Shelf Go.RowKit Go.Lib Go.Sort
def idF (n : Nat) : Array (Fin (n + 1)) := (List.finRange (n + 1)).toArray
theorem idF_size (n : Nat) : (idF n).size = n + 1 := by simp [idF]
theorem idF_get (n j : Nat) (h : j < n + 1) : (idF n)[j]! = ⟨j, h⟩ := by
  rw [getElem!_pos _ j (by rw [idF_size]; exact h)]
  simp [idF]
def osF (g : Nat → ByteArray) (n : Nat) (p : Nat) : Nat := ((sortF g n (idF n))[p]!).val
def keepP (g : Nat → ByteArray) (os : Nat → Nat) (N p : Nat) : Bool := !(decide (p + 1 < N) && ((g (os (p + 1))).toList == (g (os p)).toList))
def keptP (g : Nat → ByteArray) (os : Nat → Nat) (N : Nat) : Nat → List Nat
  | 0 => []
  | i + 1 => if keepP g os N i then keptP g os N i ++ [os i] else keptP g os N i
theorem kept_len (g : Nat → ByteArray) (os : Nat → Nat) (N : Nat) : ∀ i, (keptP g os N i).length ≤ i
  | 0 => Nat.le_refl _
  | i + 1 => by
    have := kept_len g os N i
    unfold keptP
    by_cases h : keepP g os N i = true
    · rw [if_pos h]; simp; omega
    · rw [if_neg h]; omega
theorem kept_prefix (g : Nat → ByteArray) (os : Nat → Nat) (N : Nat) (i : Nat) : ∀ k, keptP g os N i <+: keptP g os N (i + k)
  | 0 => List.prefix_rfl
  | k + 1 => by
    refine (kept_prefix g os N i k).trans ?_
    show _ <+: (if keepP g os N (i + k) then _ else _)
    by_cases h : keepP g os N (i + k) = true
    · rw [if_pos h]; exact List.prefix_append _ _
    · rw [if_neg h]; exact List.prefix_rfl
theorem kept_at (g : Nat → ByteArray) (os : Nat → Nat) (N i : Nat) (hi : i < N) (h : keepP g os N i = true) : (keptP g os N N).getD (keptP g os N i).length 0 = os i := by
  have h1 : keptP g os N (i + 1) = keptP g os N i ++ [os i] := by show (if _ then _ else _) = _; rw [if_pos h]
  obtain ⟨k, rfl⟩ : ∃ k, N = i + 1 + k := ⟨N - (i + 1), by omega⟩
  obtain ⟨r, hr⟩ := kept_prefix g os (i + 1 + k) (i + 1) k
  rw [← hr, h1]
  simp [List.getD_eq_getElem?_getD]
theorem kept_lt (g : Nat → ByteArray) (os : Nat → Nat) (N q : Nat) (hos : ∀ p, p < N → os p < q) : ∀ i, i ≤ N → ∀ a ∈ keptP g os N i, a < q
  | 0, _, a, ha => by cases ha
  | i + 1, hi, a, ha => by
    unfold keptP at ha
    by_cases h : keepP g os N i = true
    · rw [if_pos h] at ha
      rcases List.mem_append.1 ha with h1 | h1
      · exact kept_lt g os N q hos i (by omega) a h1
      · simp at h1; subst h1; exact hos i (by omega)
    · rw [if_neg h] at ha
      exact kept_lt g os N q hos i (by omega) a ha
def structT (g : Nat → ByteArray) (f : Nat → Tr) (os : Nat → Nat) (N : Nat) : Tr :=
  .mk 6 false 0 ⟨#[]⟩ (keptP g os N N).length (fun j => f ((keptP g os N N).getD j 0)) (keptP g os N N).length (fun j => ((keptP g os N N).map g).getD j ⟨#[]⟩)
theorem heap_putF {n : Nat} (w : World) (z : Nat) (d : Array (Fin (n + 1))) (k j : Nat) (h : j ≠ z) : ((putRow (encF n) w z 0 d).drewN k).heap[j]? = w.heap[j]? := by
  show (putRow (encF n) w z 0 d).heap[j]? = _
  simp only [putRow, mapBlock, Array.getElem?_modify]
  rw [if_neg (fun e => h e.symm)]
theorem insInner_size {α : Type} [Inhabited α] (lt : α → α → Bool) (a : Nat) : ∀ (j : Nat) (d : Array α), (insInner lt a j d).size = d.size
  | 0, _ => rfl
  | j + 1, d => by
    unfold insInner
    by_cases h : (decide (j + 1 > a) && lt d[j + 1]! d[j]!) = true
    · rw [if_pos h, insInner_size lt a j, swp_size]
    · rw [if_neg h]
theorem insOuter_size {α : Type} [Inhabited α] (lt : α → α → Bool) (a b : Nat) : ∀ (k i : Nat) (d : Array α), b - i = k → (insOuter lt a b i d).size = d.size
  | 0, i, d, h => by
    unfold insOuter
    rw [if_neg (by omega)]
  | k + 1, i, d, h => by
    unfold insOuter
    by_cases hb : i < b
    · rw [if_pos hb, insOuter_size lt a b k (i + 1) _ (by omega), insInner_size]
    · rw [if_neg hb]
theorem sortF_size (g : Nat → ByteArray) (n : Nat) (d : Array (Fin (n + 1))) : (sortF g n d).size = d.size := insOuter_size _ _ _ _ _ _ rfl
theorem info3 : (Try.prog.info? 3).map (fun i => (i.zero, i.size, i.bytes)) = some (some (.int .i64 0), 1, 8) := by kernel_rfl
theorem sort_ints {q nc n blk z b o : Nat} {g : Nat → ByteArray} {wr : World} {cur : Array Value} (hn12 : n + 1 ≤ 13) (hnq : n + 1 ≤ q) (hrow : wr.heap[blk]? = some (.cells cur 3 (0, 0))) (hcs : ∀ j, j < n + 1 → cur[j]? = some (.int .i64 (j : Int)))
    (hz : wr.cell? ⟨z, 0, none⟩ = some (.slice (some ⟨b, o, none⟩) q nc)) (hn : ∀ i, i < q → wr.cell? ⟨b, o + i, none⟩ = some (.string (g i))) (hzb : z ≠ blk) (hbb : b ≠ blk) :
    Calls Try.prog 55 #[.slice (some ⟨blk, 0, none⟩) (n + 1) (n + 1), .func (.func 56) #[] #[.pointer (some ⟨z, 0, none⟩)]] wr fun e w' => e = .returned (.tuple #[]) ∧ (∀ p, p < n + 1 → w'.cell? ⟨blk, p, none⟩ = some (.int .i64 (osF g n p : Int))) ∧ (∀ j, j ≠ blk → w'.heap[j]? = wr.heap[j]?) ∧ RowKit.Below blk wr w' ∧ w'.heap.size = wr.heap.size := by
  have hH : Holds (encF n) wr blk 0 (idF n) := fun j hj => by
    rw [idF_size] at hj
    rw [idF_get n j hj, Nat.zero_add]
    exact ⟨by rw [cell_of_row wr _ _ _ _ _ hrow, hcs j (by omega)]; rfl, frozen_of_row wr _ _ _ _ hrow⟩
  have hl := lt_of_row hrow
  have hsort := sort_any (cap := n + 1) (g := g) hn12 hnq hz hn hzb hbb (idF n) (idF_size n) hH
  have hsz' := sortF_size g n (idF n)
  have hH2 := holds_putRow (encF n) wr blk 0 (idF n) (sortF g n (idF n)) hH hsz'
  refine hsort.mono ?_
  rintro e w' ⟨rfl, k, rfl⟩
  refine ⟨rfl, fun p hp => ?_, fun j hj => heap_putF _ _ _ _ _ hj, ?_, size_putRow _ _ _ _ _⟩
  · have := (hH2 p (by rw [hsz', idF_size]; omega)).1
    rw [Nat.zero_add] at this
    exact this
  · exact (RowKit.Below.refl _ wr).grown (show wr.grownBy _ (some blk) from ⟨rfl, rfl, rfl, by rw [show ((putRow (encF n) wr blk 0 (sortF g n (idF n))).drewN k).heap.size = wr.heap.size from size_putRow _ _ _ _ _]; exact Nat.le_refl _, fun j _ hne => heap_putF _ _ _ _ _ (fun e => hne (by rw [e]))⟩) (by omega) (fun j hj => by injection hj with hj; omega)
theorem osF_lt (g : Nat → ByteArray) (n p : Nat) : osF g n p < n + 1 := (((sortF g n (idF n))[p]!)).isLt
end Go.Proofs.Ytjmjlijmeahmfaa
