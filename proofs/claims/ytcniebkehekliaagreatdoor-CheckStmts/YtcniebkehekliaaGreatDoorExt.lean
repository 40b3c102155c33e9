/- Expressions in memory (LiesE): a tree is what stands at each way down from its top. -/
import Derived.Test.YtcniebkehekliaaGreatDoorPrs
namespace Go.Proofs.YtcniebkehekliaaGreatDoor
open Go.RowKit Go.Shelf
/- A node: its kind and text, a literal's value, how many kids and names, and the names. -/
structure En where
  k : Nat
  s : ByteArray
  vk : Nat
  vb : Bool
  vn : Int
  vs : ByteArray
  n : Nat
  m : Nat
  nm : Nat → ByteArray
abbrev Et := List Nat → En
def Et.sub (t : Et) (i : Nat) : Et := fun p => t (i :: p)
def Et.node (e : En) (f : Nat → Et) : Et
  | [] => e
  | i :: q => f i q
theorem Et.node_sub (e : En) (f : Nat → Et) (i : Nat) : (Et.node e f).sub i = f i := rfl
theorem Et.node_top (e : En) (f : Nat → Et) : Et.node e f [] = e := rfl
def enV (e : En) (kp : Option Addr) (kc : Nat) (np : Option Addr) (nc : Nat) : Value :=
  .agg #[.int .i64 (e.k : Int), .string e.s, .int .i64 (e.vk : Int), .bool e.vb, .int .i64 e.vn, .string e.vs, .slice none 0 0, .slice none 0 0, .slice kp e.n kc, .slice np e.m nc]
def row10 (K : Nat → Value) : Value := .agg #[K 0, K 1, K 2, K 3, K 4, K 5, K 6, K 7, K 8, K 9]
/- Names that lie somewhere, in blocks of a kind. -/
structure Nms (w : World) (S : Nat → Prop) (p : Option Addr) (n c : Nat) (g : Nat → ByteArray) : Prop where
  cap : n ≤ c ∧ c ≤ maxLen
  lies : 0 < n → ∃ b o, p = some ⟨b, o, none⟩ ∧ S b ∧ b < w.heap.size ∧ ∀ i, i < n → w.cell? ⟨b, o + i, none⟩ = some (.string (g i))
/- Kids that lie somewhere, in blocks of a kind: ten cells each. -/
structure Kds (w : World) (S : Nat → Prop) (p : Option Addr) (n c : Nat) (K : Nat → Nat → Value) : Prop where
  cap : n ≤ c ∧ c ≤ maxLen
  lies : 0 < n → ∃ b o, p = some ⟨b, o, none⟩ ∧ S b ∧ b < w.heap.size ∧ ∀ i, i < n → ∀ j, j < 10 → w.cell? ⟨b, o + i * 10 + j, none⟩ = some (K i j)
/- Nothing in a world's blocks of a kind has changed. -/
structure Since (S : Nat → Prop) (w w' : World) : Prop where
  size : w.heap.size ≤ w'.heap.size
  block : ∀ k, S k → k < w.heap.size → w'.heap[k]? = w.heap[k]?
theorem Since.onl {b : Nat} {S : Nat → Prop} {w w' : World} (h : Onl b w w') (hb : ¬ S b) : Since S w w' := ⟨h.size, fun k hk hl => h.block k hl (fun e => hb (e ▸ hk))⟩
theorem Since.below {S : Nat → Prop} {w w' : World} (h : Below w.heap.size w w') : Since S w w' := ⟨h.size, fun k _ hl => h.block k hl⟩
theorem Since.trans {S : Nat → Prop} {w w' w'' : World} (h : Since S w w') (k : Since S w' w'') : Since S w w'' :=
  ⟨Nat.le_trans h.size k.size, fun j hj hl => (k.block j hj (Nat.lt_of_lt_of_le hl h.size)).trans (h.block j hj hl)⟩
theorem Nms.since {w w' : World} {S : Nat → Prop} {p : Option Addr} {n c : Nat} {g : Nat → ByteArray} (h : Nms w S p n c g) (hb : Since S w w') : Nms w' S p n c g := by
  refine ⟨h.cap, fun h0 => ?_⟩
  obtain ⟨b, o, h1, h2, h3, h4⟩ := h.lies h0
  exact ⟨b, o, h1, h2, Nat.lt_of_lt_of_le h3 hb.size, fun i hi => (World.cell?_of_block (a := ⟨b, o + i, none⟩) (hb.block b h2 h3)).trans (h4 i hi)⟩
theorem Kds.since {w w' : World} {S : Nat → Prop} {p : Option Addr} {n c : Nat} {K : Nat → Nat → Value} (h : Kds w S p n c K) (hb : Since S w w') : Kds w' S p n c K := by
  refine ⟨h.cap, fun h0 => ?_⟩
  obtain ⟨b, o, h1, h2, h3, h4⟩ := h.lies h0
  exact ⟨b, o, h1, h2, Nat.lt_of_lt_of_le h3 hb.size, fun i hi j hj => (World.cell?_of_block (a := ⟨b, o + i * 10 + j, none⟩) (hb.block b h2 h3)).trans (h4 i hi j hj)⟩
theorem Nms.imp {w : World} {R S : Nat → Prop} (hab : ∀ k, S k → k < w.heap.size → R k) {p : Option Addr} {n c : Nat} {g : Nat → ByteArray} (h : Nms w S p n c g) : Nms w R p n c g := by
  refine ⟨h.cap, fun h0 => ?_⟩
  obtain ⟨b, o, h1, h2, h3, h4⟩ := h.lies h0
  exact ⟨b, o, h1, hab b h2 h3, h3, h4⟩
theorem Kds.imp {w : World} {R S : Nat → Prop} (hab : ∀ k, S k → k < w.heap.size → R k) {p : Option Addr} {n c : Nat} {K : Nat → Nat → Value} (h : Kds w S p n c K) : Kds w R p n c K := by
  refine ⟨h.cap, fun h0 => ?_⟩
  obtain ⟨b, o, h1, h2, h3, h4⟩ := h.lies h0
  exact ⟨b, o, h1, hab b h2 h3, h3, h4⟩
/- A tree that lies somewhere, in blocks of a kind. -/
def LiesE (w : World) (S : Nat → Prop) : Nat → Et → Value → Prop
  | 0, _, _ => False
  | d + 1, t, v => ∃ kp kc np nc K, v = enV (t []) kp kc np nc ∧ Nms w S np (t []).m nc (t []).nm ∧ Kds w S kp (t []).n kc K ∧ ∀ i, i < (t []).n → LiesE w S d (t.sub i) (row10 (K i))
theorem LiesE.since {w w' : World} {S : Nat → Prop} (hb : Since S w w') : ∀ {d : Nat} {t : Et} {v : Value}, LiesE w S d t v → LiesE w' S d t v
  | 0, _, _, h => h
  | _ + 1, _, _, ⟨kp, kc, np, nc, K, h1, h2, h3, h4⟩ => ⟨kp, kc, np, nc, K, h1, h2.since hb, h3.since hb, fun i hi => (h4 i hi).since hb⟩
theorem LiesE.imp {w : World} {R S : Nat → Prop} (hab : ∀ k, S k → k < w.heap.size → R k) : ∀ {d : Nat} {t : Et} {v : Value}, LiesE w S d t v → LiesE w R d t v
  | 0, _, _, h => h
  | _ + 1, _, _, ⟨kp, kc, np, nc, K, h1, h2, h3, h4⟩ => ⟨kp, kc, np, nc, K, h1, h2.imp hab, h3.imp hab, fun i hi => (h4 i hi).imp hab⟩
theorem LiesE.up {w : World} {S : Nat → Prop} : ∀ {d : Nat} {t : Et} {v : Value}, LiesE w S d t v → LiesE w S (d + 1) t v
  | 0, _, _, h => h.elim
  | _ + 1, _, _, ⟨kp, kc, np, nc, K, h1, h2, h3, h4⟩ => ⟨kp, kc, np, nc, K, h1, h2, h3, fun i hi => (h4 i hi).up⟩
theorem LiesE.mono {w : World} {S : Nat → Prop} {d e : Nat} (h : d ≤ e) {t : Et} {v : Value} (H : LiesE w S d t v) : LiesE w S e t v := by
  induction h with
  | refl => exact H
  | step _ ih => exact ih.up
/- An expression is its ten cells. -/
theorem LiesE.form {w : World} {S : Nat → Prop} {d : Nat} {t : Et} {v : Value} (h : LiesE w S d t v) : ∃ kp kc np nc, v = enV (t []) kp kc np nc := by
  cases d with
  | zero => exact h.elim
  | succ d =>
    obtain ⟨kp, kc, np, nc, K, h1, -, -, -⟩ := h
    exact ⟨kp, kc, np, nc, h1⟩
theorem Nms.none (w : World) (S : Nat → Prop) (g : Nat → ByteArray) : Nms w S none 0 0 g := ⟨⟨Nat.le_refl _, Nat.zero_le _⟩, fun h => absurd h (Nat.lt_irrefl _)⟩
theorem Kds.none (w : World) (S : Nat → Prop) (K : Nat → Nat → Value) : Kds w S none 0 0 K := ⟨⟨Nat.le_refl _, Nat.zero_le _⟩, fun h => absurd h (Nat.lt_irrefl _)⟩
/- An expression without kids. -/
theorem LiesE.leaf (w : World) (S : Nat → Prop) (e : En) (hn : e.n = 0) (hm : e.m = 0) (f : Nat → Et) : LiesE w S 1 (Et.node e f) (enV e none 0 none 0) := by
  refine ⟨none, 0, none, 0, fun _ _ => undef, rfl, ?_, ?_, fun i hi => ?_⟩
  · rw [Et.node_top, hm]; exact Nms.none w S _
  · rw [Et.node_top, hn]; exact Kds.none w S _
  · rw [Et.node_top, hn] at hi; exact absurd hi (Nat.not_lt_zero _)
end Go.Proofs.YtcniebkehekliaaGreatDoor
