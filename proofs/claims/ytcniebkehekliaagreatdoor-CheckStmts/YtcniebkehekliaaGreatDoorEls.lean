/- Lists that grow while a parser goes on (Gl): elements one behind the other (Els), in a list of one's own. -/
import Derived.Test.YtcniebkehekliaaGreatDoorLix
import Derived.Maps.AppendAt
namespace Go.Proofs.YtcniebkehekliaaGreatDoor
open Go.RowKit Go.Shelf
/- What an element is in memory: its cells, in blocks of a kind; it stays while these stay. -/
structure Elem {α : Type} (E : World → (Nat → Prop) → α → List Value → Prop) (z : Nat) : Prop where
  since : ∀ {w w' : World} {S : Nat → Prop} {x : α} {c : List Value}, E w S x c → Since S w w' → E w' S x c
  imp : ∀ {w : World} {R S : Nat → Prop} {x : α} {c : List Value}, (∀ k, S k → k < w.heap.size → R k) → E w S x c → E w R x c
  len : ∀ {w : World} {S : Nat → Prop} {x : α} {c : List Value}, E w S x c → c.length = z
  ones : ∀ {w : World} {S : Nat → Prop} {x : α} {c : List Value}, E w S x c → ∀ u ∈ c, u.oneCell' = true
def Els {α : Type} (E : World → (Nat → Prop) → α → List Value → Prop) (w : World) (S : Nat → Prop) : List α → List Value → Prop
  | [], L => L = []
  | x :: l, L => ∃ c r, L = c ++ r ∧ E w S x c ∧ Els E w S l r
theorem Els.since {α : Type} {E : World → (Nat → Prop) → α → List Value → Prop} {z : Nat} (hE : Elem E z) {w w' : World} {S : Nat → Prop} (hS : Since S w w') : ∀ {l : List α} {L : List Value}, Els E w S l L → Els E w' S l L
  | [], _, h => h
  | _ :: _, _, ⟨c, r, h1, h2, h3⟩ => ⟨c, r, h1, hE.since h2 hS, Els.since hE hS h3⟩
theorem Els.imp {α : Type} {E : World → (Nat → Prop) → α → List Value → Prop} {z : Nat} (hE : Elem E z) {w : World} {R S : Nat → Prop} (hS : ∀ k, S k → k < w.heap.size → R k) : ∀ {l : List α} {L : List Value}, Els E w S l L → Els E w R l L
  | [], _, h => h
  | _ :: _, _, ⟨c, r, h1, h2, h3⟩ => ⟨c, r, h1, hE.imp hS h2, Els.imp hE hS h3⟩
theorem Els.app {α : Type} {E : World → (Nat → Prop) → α → List Value → Prop} {w : World} {S : Nat → Prop} {y : α} {d : List Value} (hy : E w S y d) : ∀ {l : List α} {L : List Value}, Els E w S l L → Els E w S (l ++ [y]) (L ++ d)
  | [], L, h => by
    have h' : L = [] := h
    subst h'
    exact ⟨d, [], by simp, hy, rfl⟩
  | _ :: _, _, ⟨c, r, h1, h2, h3⟩ => ⟨c, r ++ d, by rw [h1]; simp, h2, Els.app hy h3⟩
theorem Els.at {α : Type} {E : World → (Nat → Prop) → α → List Value → Prop} {z : Nat} (hE : Elem E z) {w : World} {S : Nat → Prop} : ∀ {l : List α} {L : List Value}, Els E w S l L → ∀ i x, l[i]? = some x → ∃ c, E w S x c ∧ ∀ j u, c[j]? = some u → L[i * z + j]? = some u
  | [], _, _, i, x, hi => by simp at hi
  | y :: l, _, ⟨c, r, h1, h2, h3⟩, 0, x, hi => by
    have e : y = x := by simpa using hi
    subst e
    subst h1
    refine ⟨c, h2, fun j u hu => ?_⟩
    rw [Nat.zero_mul, Nat.zero_add, List.getElem?_append_left (List.getElem?_eq_some_iff.1 hu).1]
    exact hu
  | y :: l, _, ⟨c, r, h1, h2, h3⟩, i + 1, x, hi => by
    obtain ⟨d, hd, hk⟩ := Els.at hE h3 i x (by simpa using hi)
    subst h1
    refine ⟨d, hd, fun j u hu => ?_⟩
    have hl := hE.len h2
    rw [List.getElem?_append_right (by rw [hl, Nat.add_mul]; omega)]
    have e : (i + 1) * z + j - c.length = i * z + j := by rw [hl, Nat.add_mul]; omega
    rw [e]
    exact hk j u hu
/- A list of one's own beside a parser. -/
structure Gl {α : Type} (E : World → (Nat → Prop) → α → List Value → Prop) (T z : Nat) (w0 W : World) (b : Nat) (p : Option Addr) (c : Nat) (ws : List Wd) (v : Value) (l : List α) (s : PS) : Prop where
  own : ∃ L, W.ownsRow w0.heap.size T z v l.length L ∧ Els E W (fun k => w0.heap.size ≤ k ∧ v.ownBlock ≠ some k) l L
  onl : Onl b w0 W
  ps : Ps W b p c ws s
  lb : b < w0.heap.size
  old : ∀ g, p = some ⟨g, 0, none⟩ → g < w0.heap.size
theorem own_onl {b : Nat} {w w' : World} {base T z : Nat} {v : Value} {n : Nat} {L : List Value} (h : w.ownsRow base T z v n L) (hb : b < base) (hO : Onl b w w') : w'.ownsRow base T z v n L := by
  refine ⟨h.1, ?_⟩
  rcases h.2 with hn | ⟨g, cap, cur, hv, hg, hr, rest⟩
  · exact .inl hn
  · exact .inr ⟨g, cap, cur, hv, hg, (hO.block g (lt_of_row hr) (by omega)).trans hr, rest⟩
theorem Gl.calls {α : Type} {E : World → (Nat → Prop) → α → List Value → Prop} {T z : Nat} (hE : Elem E z) {w0 W W2 : World} {b : Nat} {p : Option Addr} {c : Nat} {ws : List Wd} {v : Value} {l : List α} {s s2 : PS} (h : Gl E T z w0 W b p c ws v l s) (hO : Onl b W W2) (hP : Ps W2 b p c ws s2) : Gl E T z w0 W2 b p c ws v l s2 := by
  obtain ⟨L, h1, h2⟩ := h.own
  have lb := h.lb
  exact ⟨⟨L, own_onl h1 lb hO, h2.since hE (Since.onl hO (by omega))⟩, h.onl.trans hO, hP, h.lb, h.old⟩
theorem Gl.start {α : Type} (E : World → (Nat → Prop) → α → List Value → Prop) (T z : Nat) {w : World} {b : Nat} {p : Option Addr} {c : Nat} {ws : List Wd} {s : PS} (H : Ps w b p c ws s) : Gl E T z w w b p c ws (.slice none 0 0) ([] : List α) s :=
  ⟨⟨[], World.ownsRow_nil _ _ _ _, rfl⟩, Onl.of (Below.refl _ _), H, lt_of_row H.row, H.old⟩
/- The first one, in a list that was written down. -/
theorem Gl.one {α : Type} {E : World → (Nat → Prop) → α → List Value → Prop} {T z : Nat} (hE : Elem E z) {w0 W W2 : World} {b : Nat} {p : Option Addr} {c : Nat} {ws : List Wd} {s : PS} (H0 : Ps w0 b p c ws s) {s2 : PS} (hO : Onl b w0 W) (hP : Ps W b p c ws s2)
    {x : α} {d : List Value} (hx : E W (fun k => w0.heap.size ≤ k) x d) (hW2 : W2 = W.alloc (.cells d.toArray T)) : Gl E T z w0 W2 b p c ws (.slice (some ⟨W.heap.size, 0, none⟩) 1 1) [x] s2 := by
  have hb2 : Below W.heap.size W W2 := by rw [hW2]; exact (Below.refl _ W).alloc (Nat.le_refl _) _
  refine ⟨⟨d, ⟨by simpa using hE.len hx, .inr ⟨W.heap.size, 1, d.toArray, rfl, hO.size, by rw [hW2]; exact heap_alloc_new _ _, Nat.le_refl _, by decide, by simpa using hE.len hx, ?_⟩⟩, d, [], by simp, ?_, rfl⟩, hO.trans (Onl.of hb2), hP.later hb2, lt_of_row H0.row, H0.old⟩
  · have e := hE.len hx
    simp [List.take_of_length_le (Nat.le_of_eq e)]
  · refine hE.since (hE.imp (fun k hk hl => ⟨hk, fun e => ?_⟩) hx) (Since.below hb2)
    have e' : W.heap.size = k := by injection e
    omega
/- One more: what a call made was appended. -/
theorem Gl.more {α : Type} {E : World → (Nat → Prop) → α → List Value → Prop} {T z : Nat} (hE : Elem E z) {w0 W W2 W3 : World} {b : Nat} {p : Option Addr} {c : Nat} {ws : List Wd} {v v' : Value} {l : List α} {s : PS} (h : Gl E T z w0 W b p c ws v l s)
    {L : List Value} (h2 : Els E W (fun k => w0.heap.size ≤ k ∧ v.ownBlock ≠ some k) l L) {x : α} {d : List Value} (hx : E W (fun k => w0.heap.size ≤ k ∧ v.ownBlock ≠ some k) x d) {o : Obj} (hW2 : W2 = W.alloc o)
    (ho : W3.ownsRow w0.heap.size T z v' (l.length + 1) (L ++ d)) (hg : W2.grownBy W3 v.ownBlock) (ha : v'.ownBlock = v.ownBlock ∨ v'.ownBlock = some (W.heap.size + 1)) : Gl E T z w0 W3 b p c ws v' (l ++ [x]) s := by
  obtain ⟨L', h1, -⟩ := h.own
  have lb := h.lb
  have hsz := h.onl.size
  have hs2 : W2.heap.size = W.heap.size + 1 := by rw [hW2]; simp
  have hb2 : Below W.heap.size W W2 := by rw [hW2]; exact (Below.refl _ W).alloc (Nat.le_refl _) _
  have hkeep : ∀ k, k < W.heap.size → v.ownBlock ≠ some k → W3.heap[k]? = W.heap[k]? := fun k hk hv => (hg.block k (by omega) (fun e => hv e.symm)).trans (hb2.block k hk)
  have hown : ∀ k, v.ownBlock = some k → w0.heap.size ≤ k := fun k hk => (h1.lt k hk).1
  have hsize : W.heap.size ≤ W3.heap.size := Nat.le_trans hb2.size hg.size
  have himp : ∀ k, (w0.heap.size ≤ k ∧ v.ownBlock ≠ some k) → k < W.heap.size → (w0.heap.size ≤ k ∧ v'.ownBlock ≠ some k) := by
    intro k hk hl
    refine ⟨hk.1, ?_⟩
    rcases ha with ha | ha
    · rw [ha]; exact hk.2
    · rw [ha]; intro e; injection e with e; omega
  have hlies' : Els E W3 (fun k => w0.heap.size ≤ k ∧ v'.ownBlock ≠ some k) (l ++ [x]) (L ++ d) := by
    have hS' : Since (fun k => (w0.heap.size ≤ k ∧ v.ownBlock ≠ some k) ∧ k < W.heap.size) W W3 := ⟨hsize, fun k hk hl => hkeep k hl hk.1.2⟩
    have a1 := Els.imp hE (R := fun k => (w0.heap.size ≤ k ∧ v.ownBlock ≠ some k) ∧ k < W.heap.size) (fun k hk hl => ⟨hk, hl⟩) (Els.app hx h2)
    exact Els.imp hE (fun k hk _ => himp k hk.1 hk.2) (a1.since hE hS')
  have lenE : (l ++ [x]).length = l.length + 1 := by simp
  refine ⟨⟨L ++ d, by rw [lenE]; exact ho, hlies'⟩, ?_, ?_, h.lb, h.old⟩
  · refine ⟨hg.os.trans (hb2.os.trans h.onl.os), hg.tape.trans (hb2.tape.trans h.onl.tape), hg.output.trans (hb2.output.trans h.onl.output), Nat.le_trans hsz hsize, fun k hk hb => ?_⟩
    exact (hkeep k (by omega) (fun e => by have := hown k e; omega)).trans (h.onl.block k hk hb)
  · refine ⟨(hkeep b (by omega) (fun e => by have := hown b e; omega)).trans h.ps.row, ⟨h.ps.sl.cap, h.ps.sl.len, fun h0 => ?_⟩, h.ps.lt, h.ps.few⟩
    obtain ⟨g, e, k2, k3⟩ := h.ps.sl.lies h0
    have hgo := h.old g e
    exact ⟨g, e, Nat.lt_of_lt_of_le k2 hsize, fun j u hu => (World.cell?_of_block (a := ⟨g, j, none⟩) (hkeep g k2 (fun e => by have := hown g e; omega))).trans (k3 j u hu)⟩
/- Elements of three kinds: texts, expressions, names with expressions. -/
def EStr (_ : World) (_ : Nat → Prop) (x : ByteArray) (c : List Value) : Prop := c = [.string x]
def EExp (w : World) (S : Nat → Prop) (t : Et) (c : List Value) : Prop := ∃ d, LiesE w S d t (.agg c.toArray)
def EFld (w : World) (S : Nat → Prop) (x : ByteArray × Et) (c : List Value) : Prop := ∃ e, c = .string x.1 :: e ∧ EExp w S x.2 e
theorem eStr : Elem EStr 1 := by
  refine ⟨fun h _ => h, fun _ h => h, fun h => ?_, fun h u hu => ?_⟩
  · rw [h]; rfl
  · rw [h] at hu
    simp at hu
    rw [hu]; rfl
theorem eExp : Elem EExp 10 := by
  refine ⟨fun ⟨d, h⟩ hS => ⟨d, h.since hS⟩, fun hS ⟨d, h⟩ => ⟨d, h.imp hS⟩, fun ⟨d, h⟩ => ?_, fun ⟨d, h⟩ u hu => ?_⟩
  · obtain ⟨V, e, h10, -⟩ := h.agg
    injection e with e
    have := congrArg Array.size e
    simpa [h10] using this
  · obtain ⟨V, e, -, h1⟩ := h.agg
    injection e with e
    rw [← e] at h1
    exact (Array.all_eq_true_iff_forall_mem.1 h1) u (by simpa using hu)
theorem eFld : Elem EFld 11 := by
  refine ⟨fun ⟨e, h1, h2⟩ hS => ⟨e, h1, eExp.since h2 hS⟩, fun hS ⟨e, h1, h2⟩ => ⟨e, h1, eExp.imp hS h2⟩, fun ⟨e, h1, h2⟩ => ?_, fun ⟨e, h1, h2⟩ u hu => ?_⟩
  · rw [h1, List.length_cons, eExp.len h2]
  · rw [h1] at hu
    rcases List.mem_cons.1 hu with rfl | hu
    · rfl
    · exact eExp.ones h2 u hu
def lenOf : Value → Nat
  | .slice _ n _ => n
  | _ => 0
theorem own_len {w : World} {base T z : Nat} {v : Value} {n : Nat} {L : List Value} (h : w.ownsRow base T z v n L) : ∃ q k, v = .slice q n k := by
  rcases h.2 with ⟨hv, hn⟩ | ⟨g, cap, cur, hv, _⟩
  · exact ⟨none, 0, by rw [hv, hn]⟩
  · exact ⟨_, _, hv⟩
end Go.Proofs.YtcniebkehekliaaGreatDoor
