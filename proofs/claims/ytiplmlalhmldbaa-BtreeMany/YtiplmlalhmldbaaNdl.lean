/- Lists of nodes in memory (LiesL), pieces of a node (pieceT; piece). -/
import Derived.Test.YtiplmlalhmldbaaCax
import Derived.Test.YtiplmlalhmldbaaMat
namespace Go.Proofs.Ytiplmlalhmldbaa
open Go.RowKit Go.Shelf
def LiesL (w : World) (h : Nat) (ts : List (Nd h)) (L : List Value) : Prop := L.length = ts.length * 2 ∧ ∀ i, i < ts.length → Lies w h (ts.getD i (dflt h)) (.agg #[L.getD (2 * i) undef, L.getD (2 * i + 1) undef])
theorem LiesL.later {w w' : World} {h : Nat} {ts : List (Nd h)} {L : List Value} (H : LiesL w h ts L) (hb : Below w.heap.size w w') : LiesL w' h ts L := ⟨H.1, fun i hi => (H.2 i hi).later hb⟩
theorem LiesL.nil (w : World) (h : Nat) : LiesL w h [] [] := ⟨rfl, fun _ hi => absurd hi (Nat.not_lt_zero _)⟩
theorem LiesL.one {w : World} {h : Nat} {t : Nd h} {x y : Value} (H : Lies w h t (.agg #[x, y])) : LiesL w h [t] [x, y] := ⟨rfl, fun i hi => by
  obtain rfl : i = 0 := by simpa using hi
  exact H⟩
theorem LiesL.app {w : World} {h : Nat} {ts us : List (Nd h)} {L M : List Value} (H : LiesL w h ts L) (K : LiesL w h us M) : LiesL w h (ts ++ us) (L ++ M) := by
  have hl := H.1
  have hm := K.1
  refine ⟨by rw [List.length_append, List.length_append]; omega, fun i hi => ?_⟩
  rw [List.length_append] at hi
  rcases Nat.lt_or_ge i ts.length with h1 | h1
  · have := H.2 i h1
    rw [List.getD_eq_getElem?_getD, List.getD_eq_getElem?_getD, List.getD_eq_getElem?_getD, List.getElem?_append_left h1, List.getElem?_append_left (by omega), List.getElem?_append_left (by omega)]
    rwa [List.getD_eq_getElem?_getD, List.getD_eq_getElem?_getD, List.getD_eq_getElem?_getD] at this
  · have := K.2 (i - ts.length) (by omega)
    rw [List.getD_eq_getElem?_getD, List.getD_eq_getElem?_getD, List.getD_eq_getElem?_getD, List.getElem?_append_right h1, List.getElem?_append_right (by omega), List.getElem?_append_right (by omega), show 2 * i - L.length = 2 * (i - ts.length) by omega, show 2 * i + 1 - L.length = 2 * (i - ts.length) + 1 by omega]
    rwa [List.getD_eq_getElem?_getD, List.getD_eq_getElem?_getD, List.getD_eq_getElem?_getD] at this
theorem LiesL.take {w : World} {h : Nat} {ts : List (Nd h)} {L : List Value} (H : LiesL w h ts L) (k : Nat) : LiesL w h (ts.take k) (L.take (k * 2)) := by
  have hl := H.1
  refine ⟨by rw [List.length_take, List.length_take]; omega, fun i hi => ?_⟩
  rw [List.length_take] at hi
  have := H.2 i (by omega)
  rw [List.getD_eq_getElem?_getD, List.getD_eq_getElem?_getD, List.getD_eq_getElem?_getD] at this ⊢
  rw [List.getElem?_take_of_lt (by omega), List.getElem?_take_of_lt (by omega), List.getElem?_take_of_lt (by omega)]
  exact this
theorem LiesL.drop {w : World} {h : Nat} {ts : List (Nd h)} {L : List Value} (H : LiesL w h ts L) (k : Nat) : LiesL w h (ts.drop k) (L.drop (k * 2)) := by
  have hl := H.1
  refine ⟨by rw [List.length_drop, List.length_drop]; omega, fun i hi => ?_⟩
  rw [List.length_drop] at hi
  have := H.2 (k + i) (by omega)
  rw [List.getD_eq_getElem?_getD, List.getD_eq_getElem?_getD, List.getD_eq_getElem?_getD] at this ⊢
  rw [List.getElem?_drop, List.getElem?_drop, List.getElem?_drop, show k * 2 + 2 * i = 2 * (k + i) by omega, show k * 2 + (2 * i + 1) = 2 * (k + i) + 1 by omega]
  exact this
theorem Lies.open {w : World} {h : Nat} {t : Nd (h + 1)} {v : Value} (H : Lies w (h + 1) t v) : ∃ p c q d L, v = .agg #[.slice p t.1.length c, .slice q t.2.length d] ∧ Sl w p t.1.length c (itC t.1) ∧ Sl w q t.2.length d L ∧ LiesL w h t.2 L := by
  obtain ⟨p, c, q, d, L, h1, h2, h3, h4⟩ := H
  exact ⟨p, c, q, d, L, h1, h2, h3, h3.len, h4⟩
theorem Lies.make {w : World} {h : Nat} {xs : List Im} {ts : List (Nd h)} {p q : Option Addr} {n m c d : Nat} {L : List Value} (hS : Sl w p n c (itC xs)) (hK : Sl w q m d L) (hL : LiesL w h ts L) : Lies w (h + 1) ((xs, ts) : List Im × List (Nd h)) (.agg #[.slice p n c, .slice q m d]) := by
  have e := hS.it
  subst e
  obtain rfl : m = ts.length := by
    have h1 := hK.len
    have h2 := hL.1
    omega
  exact ⟨p, c, q, d, L, rfl, hS, hK, hL.2⟩
def pieceT : (h : Nat) → Nd h → Nat → Nat → Nd h
  | 0, t, a, b => ((its 0 t).drop a).take (b - a)
  | _ + 1, t, a, b => ((t.1.drop a).take (b - a), (t.2.drop a).take (b + 1 - a))
theorem Sl.mid {w : World} {p : Option Addr} {n c : Nat} {L : List Value} (H : Sl w p n c L) {a b : Nat} (hab : a ≤ b) (hb : b ≤ n) : Sl w (if c = a then p else Option.map (fun x => x.add (a * 2)) p) (b - a) (c - a) ((L.drop (a * 2)).take ((b - a) * 2)) := by
  have h1 := H.last (j := a) (by omega)
  exact h1.first (by omega)
/- What lies in blocks other than X lies there when X was written. -/
theorem Sl.off {w w' : World} {p : Option Addr} {n c : Nat} {L : List Value} (h : Sl w p n c L) {X : Nat} (hs : w.heap.size ≤ w'.heap.size) (ho : ∀ k, k ≠ X → w'.heap[k]? = w.heap[k]?) (hne : ∀ a, p = some a → a.block ≠ X) : Sl w' p n c L := by
  refine ⟨h.cap, h.len, h.one, fun h0 => ?_⟩
  obtain ⟨b, o, h1, h2, h3⟩ := h.lies h0
  exact ⟨b, o, h1, by omega, fun j u hu => (World.cell?_of_block (a := ⟨b, o + j, none⟩) (ho b (hne _ h1))).trans (h3 j u hu)⟩
end Go.Proofs.Ytiplmlalhmldbaa
