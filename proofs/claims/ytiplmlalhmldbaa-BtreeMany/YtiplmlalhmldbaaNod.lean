/- Nodes with all below them, as deep as a number says (Nd), how they lie in memory (Lies), which may be gone down (Ok); get, last. -/
import Derived.Test.YtiplmlalhmldbaaCax
namespace Go.Proofs.Ytiplmlalhmldbaa
open Go.RowKit Go.Shelf
def Nd : Nat → Type
  | 0 => List Im
  | h + 1 => List Im × List (Nd h)
def dflt : (h : Nat) → Nd h
  | 0 => ([] : List Im)
  | _ + 1 => (([], []) : List Im × List _)
def its : (h : Nat) → Nd h → List Im
  | 0, t => t
  | _ + 1, t => t.1
def kdn : (h : Nat) → Nd h → Nat
  | 0, _ => 0
  | _ + 1, t => t.2.length
def Lies (w : World) : (h : Nat) → Nd h → Value → Prop
  | 0, t, v => ∃ p c q d, v = .agg #[.slice p (its 0 t).length c, .slice q 0 d] ∧ Sl w p (its 0 t).length c (itC (its 0 t)) ∧ Sl w q 0 d []
  | h + 1, t, v => ∃ p c q d L, v = .agg #[.slice p t.1.length c, .slice q t.2.length d] ∧ Sl w p t.1.length c (itC t.1) ∧ Sl w q t.2.length d L ∧
      ∀ i, i < t.2.length → Lies w h (t.2.getD i (dflt h)) (.agg #[L.getD (2 * i) undef, L.getD (2 * i + 1) undef])
theorem Lies.later {w w' : World} (hb : Below w.heap.size w w') : ∀ {h : Nat} {t : Nd h} {v : Value}, Lies w h t v → Lies w' h t v
  | 0, _, _, ⟨p, c, q, d, h1, h2, h3⟩ => ⟨p, c, q, d, h1, h2.later hb, h3.later hb⟩
  | _ + 1, _, _, ⟨p, c, q, d, L, h1, h2, h3, h4⟩ => ⟨p, c, q, d, L, h1, h2.later hb, h3.later hb, fun i hi => (h4 i hi).later hb⟩
theorem Lies.form {w : World} : ∀ {h : Nat} {t : Nd h} {v : Value}, Lies w h t v → ∃ p c q d L, v = .agg #[.slice p (its h t).length c, .slice q (kdn h t) d] ∧ Sl w p (its h t).length c (itC (its h t)) ∧ Sl w q (kdn h t) d L
  | 0, _, _, ⟨p, c, q, d, h1, h2, h3⟩ => ⟨p, c, q, d, [], h1, h2, h3⟩
  | _ + 1, _, _, ⟨p, c, q, d, L, h1, h2, h3, _⟩ => ⟨p, c, q, d, L, h1, h2, h3⟩
def Ok : (h : Nat) → Nd h → Prop
  | 0, t => Ris (its 0 t) ∧ (its 0 t).length ≤ 50
  | h + 1, t => Ris t.1 ∧ t.1.length ≤ 50 ∧ t.2.length = t.1.length + 1 ∧ ∀ i, i < t.2.length → Ok h (t.2.getD i (dflt h)) ∧ 0 < (its h (t.2.getD i (dflt h))).length
theorem Ok.ris : ∀ {h : Nat} {t : Nd h}, Ok h t → Ris (its h t) ∧ (its h t).length ≤ 50
  | 0, _, h => h
  | _ + 1, _, h => ⟨h.1, h.2.1⟩
def getT : (h : Nat) → Nd h → ByteArray → ByteArray × Bool
  | 0, t, key => if isK (its 0 t) key then (((its 0 t)[posK (its 0 t) key]!).2, true) else (⟨#[]⟩, false)
  | h + 1, t, key => if isK t.1 key then ((t.1[posK t.1 key]!).2, true) else getT h (t.2.getD (posK t.1 key) (dflt h)) key
theorem isK_lt {xs : List Im} {key : ByteArray} (h : isK xs key = true) : posK xs key < xs.length := by
  unfold isK at h
  simp only [Bool.and_eq_true, decide_eq_true_eq] at h
  exact h.1
theorem Sl.get {w : World} {b o : Nat} {xs : List Im} (hc : ∀ j u, (itC xs)[j]? = some u → w.cell? ⟨b, o + j, none⟩ = some u) {i : Nat} (hi : i < xs.length) :
    w.cell? ⟨b, o + i * 2, none⟩ = some (.string (xs[i]!).1) ∧ w.cell? ⟨b, o + i * 2 + 1, none⟩ = some (.string (xs[i]!).2) := by
  obtain ⟨c1, c2⟩ := itC_at xs i hi
  have z1 := hc _ _ c1
  have z2 := hc _ _ c2
  rw [show o + 2 * i = o + i * 2 by omega] at z1
  rw [show o + (2 * i + 1) = o + i * 2 + 1 by omega] at z2
  exact ⟨z1, z2⟩
/- What lies somewhere lies there when a block was written that holds none of its first cells. -/
theorem Sl.kept {w w' : World} {p : Option Addr} {n c : Nat} {L : List Value} (h : Sl w p n c L) {X : Nat} {cs : Array Value} {T : TypeId} {fr : Nat × Nat} (hX : w.heap[X]? = some (.cells cs T fr)) (hs : w.heap.size ≤ w'.heap.size) (ho : ∀ k, k ≠ X → w'.heap[k]? = w.heap[k]?)
    (hne : ∀ u, L[0]? = some u → u ∉ cs) : Sl w' p n c L := by
  refine ⟨h.cap, h.len, h.one, fun h0 => ?_⟩
  obtain ⟨b, o, h1, h2, h3⟩ := h.lies h0
  have hl := h.len
  have hb : b ≠ X := by
    rintro rfl
    have hu : L[0]? = some L[0] := List.getElem?_eq_getElem (by omega)
    have h4 := h3 0 _ hu
    rw [cell_of_row w b _ _ _ _ hX] at h4
    exact hne _ hu (Array.mem_of_getElem? h4)
  exact ⟨b, o, h1, by omega, fun j u hu => (World.cell?_of_block (a := ⟨b, o + j, none⟩) (ho b hb)).trans (h3 j u hu)⟩
theorem itC_head {xs : List Im} {u : Value} (h : (itC xs)[0]? = some u) : ∃ s, u = .string s := by
  cases xs with
  | nil => cases h
  | cons x xs => exact ⟨x.1, (Option.some.inj h).symm⟩
theorem agg2 {a b c d : Value} (h : Value.agg #[a, b] = .agg #[c, d]) : a = c ∧ b = d := by
  injection h with h
  have h1 := congrArg (fun (x : Array Value) => x.toList) h
  simpa using h1
def zrow : Array Value := #[.slice none 0 0, .slice none 0 0]
theorem Lies.kept {w w' : World} {X : Nat} {T : TypeId} {fr : Nat × Nat} (hX : w.heap[X]? = some (.cells zrow T fr)) (hs : w.heap.size ≤ w'.heap.size) (ho : ∀ k, k ≠ X → w'.heap[k]? = w.heap[k]?) : ∀ {h : Nat} {t : Nd h} {v : Value}, Ok h t → Lies w h t v → Lies w' h t v
  | 0, t, _, _, ⟨p, c, q, d, h1, h2, h3⟩ => ⟨p, c, q, d, h1, h2.kept hX hs ho (fun u hu hm => by
      obtain ⟨s, rfl⟩ := itC_head hu
      simp [zrow] at hm), h3.kept hX hs ho (fun u hu => by cases hu)⟩
  | h + 1, t, _, ok, ⟨p, c, q, d, L, h1, h2, h3, h4⟩ => by
    obtain ⟨_, _, o3, o4⟩ := ok
    refine ⟨p, c, q, d, L, h1, h2.kept hX hs ho (fun u hu hm => by
      obtain ⟨s, rfl⟩ := itC_head hu
      simp [zrow] at hm), h3.kept hX hs ho (fun u hu hm => ?_), fun i hi => Lies.kept hX hs ho (o4 i hi).1 (h4 i hi)⟩
    have hl : 0 < t.2.length := by omega
    obtain ⟨p', c', q', d', L', e, -, -⟩ := (h4 0 hl).form
    have hn := (o4 0 hl).2
    obtain ⟨m, hm2⟩ : ∃ m, (its h (t.2.getD 0 (dflt h))).length = m := ⟨_, rfl⟩
    rw [hm2] at e hn
    have e2 := agg2 e
    rw [List.getD_eq_getElem?_getD, Nat.mul_zero, hu, Option.getD_some] at e2
    rw [e2.1] at hm
    simp [zrow] at hm
    omega
end Go.Proofs.Ytiplmlalhmldbaa
