/- Expressions in memory (LiesE): a tree is what stands at each way down from its top. Where an expression more is whole (whole), one more and one less within one another (deeper, back). One more within those that are being parsed (deeper), and back. An expression of one kid (around). What the parser does, as plain functions: pr, of a rank. How strongly a word binds (Rank, keyRank, signRank). -/
import Derived.Test.YtfemippjaokcmaaGreatDoorXad
import Derived.Defers
namespace Go.Proofs.YtfemippjaokcmaaGreatDoor
open Go.RowKit Go.Shelf
/- A node: its kind and text, a literal's value, how many kids and names, and the names. -/
structure En where
  k : Nat
  s : ByteArray
  vk : Nat
  vb : Bool
  vn : Int
  vs : ByteArray
  n : Nat
  m : Nat
  nm : Nat → ByteArray
abbrev Et := List Nat → En
def Et.sub (t : Et) (i : Nat) : Et := fun p => t (i :: p)
def Et.node (e : En) (f : Nat → Et) : Et
  | [] => e
  | i :: q => f i q
theorem Et.node_top (e : En) (f : Nat → Et) : Et.node e f [] = e := rfl
def enV (e : En) (kp : Option Addr) (kc : Nat) (np : Option Addr) (nc : Nat) : Value :=
  .agg #[.int .i64 (e.k : Int), .string e.s, .int .i64 (e.vk : Int), .bool e.vb, .int .i64 e.vn, .string e.vs, .slice none 0 0, .slice none 0 0, .slice kp e.n kc, .slice np e.m nc]
def row10 (K : Nat → Value) : Value := .agg #[K 0, K 1, K 2, K 3, K 4, K 5, K 6, K 7, K 8, K 9]
/- Names that lie somewhere, in blocks of a kind. -/
structure Nms (w : World) (S : Nat → Prop) (p : Option Addr) (n c : Nat) (g : Nat → ByteArray) : Prop where
  cap : n ≤ c ∧ c ≤ maxLen
  lies : 0 < n → ∃ b o, p = some ⟨b, o, none⟩ ∧ S b ∧ b < w.heap.size ∧ ∀ i, i < n → w.cell? ⟨b, o + i, none⟩ = some (.string (g i))
/- Kids that lie somewhere, in blocks of a kind: ten cells each. -/
structure Kds (w : World) (S : Nat → Prop) (p : Option Addr) (n c : Nat) (K : Nat → Nat → Value) : Prop where
  cap : n ≤ c ∧ c ≤ maxLen
  lies : 0 < n → ∃ b o, p = some ⟨b, o, none⟩ ∧ S b ∧ b < w.heap.size ∧ ∀ i, i < n → ∀ j, j < 10 → w.cell? ⟨b, o + i * 10 + j, none⟩ = some (K i j)
/- Nothing in a world's blocks of a kind has changed. -/
structure Since (S : Nat → Prop) (w w' : World) : Prop where
  size : w.heap.size ≤ w'.heap.size
  block : ∀ k, S k → k < w.heap.size → w'.heap[k]? = w.heap[k]?
theorem Since.onl {b : Nat} {S : Nat → Prop} {w w' : World} (h : Onl b w w') (hb : ¬ S b) : Since S w w' := ⟨h.size, fun k hk hl => h.block k hl (fun e => hb (e ▸ hk))⟩
theorem Since.below {S : Nat → Prop} {w w' : World} (h : Below w.heap.size w w') : Since S w w' := ⟨h.size, fun k _ hl => h.block k hl⟩
theorem Since.trans {S : Nat → Prop} {w w' w'' : World} (h : Since S w w') (k : Since S w' w'') : Since S w w'' :=
  ⟨Nat.le_trans h.size k.size, fun j hj hl => (k.block j hj (Nat.lt_of_lt_of_le hl h.size)).trans (h.block j hj hl)⟩
theorem Nms.since {w w' : World} {S : Nat → Prop} {p : Option Addr} {n c : Nat} {g : Nat → ByteArray} (h : Nms w S p n c g) (hb : Since S w w') : Nms w' S p n c g := by
  refine ⟨h.cap, fun h0 => ?_⟩
  obtain ⟨b, o, h1, h2, h3, h4⟩ := h.lies h0
  exact ⟨b, o, h1, h2, Nat.lt_of_lt_of_le h3 hb.size, fun i hi => (World.cell?_of_block (a := ⟨b, o + i, none⟩) (hb.block b h2 h3)).trans (h4 i hi)⟩
theorem Kds.since {w w' : World} {S : Nat → Prop} {p : Option Addr} {n c : Nat} {K : Nat → Nat → Value} (h : Kds w S p n c K) (hb : Since S w w') : Kds w' S p n c K := by
  refine ⟨h.cap, fun h0 => ?_⟩
  obtain ⟨b, o, h1, h2, h3, h4⟩ := h.lies h0
  exact ⟨b, o, h1, h2, Nat.lt_of_lt_of_le h3 hb.size, fun i hi j hj => (World.cell?_of_block (a := ⟨b, o + i * 10 + j, none⟩) (hb.block b h2 h3)).trans (h4 i hi j hj)⟩
theorem Nms.imp {w : World} {R S : Nat → Prop} (hab : ∀ k, S k → k < w.heap.size → R k) {p : Option Addr} {n c : Nat} {g : Nat → ByteArray} (h : Nms w S p n c g) : Nms w R p n c g := by
  refine ⟨h.cap, fun h0 => ?_⟩
  obtain ⟨b, o, h1, h2, h3, h4⟩ := h.lies h0
  exact ⟨b, o, h1, hab b h2 h3, h3, h4⟩
theorem Kds.imp {w : World} {R S : Nat → Prop} (hab : ∀ k, S k → k < w.heap.size → R k) {p : Option Addr} {n c : Nat} {K : Nat → Nat → Value} (h : Kds w S p n c K) : Kds w R p n c K := by
  refine ⟨h.cap, fun h0 => ?_⟩
  obtain ⟨b, o, h1, h2, h3, h4⟩ := h.lies h0
  exact ⟨b, o, h1, hab b h2 h3, h3, h4⟩
/- A tree that lies somewhere, in blocks of a kind. -/
def LiesE (w : World) (S : Nat → Prop) : Nat → Et → Value → Prop
  | 0, _, _ => False
  | d + 1, t, v => ∃ kp kc np nc K, v = enV (t []) kp kc np nc ∧ Nms w S np (t []).m nc (t []).nm ∧ Kds w S kp (t []).n kc K ∧ ∀ i, i < (t []).n → LiesE w S d (t.sub i) (row10 (K i))
theorem LiesE.since {w w' : World} {S : Nat → Prop} (hb : Since S w w') : ∀ {d : Nat} {t : Et} {v : Value}, LiesE w S d t v → LiesE w' S d t v
  | 0, _, _, h => h
  | _ + 1, _, _, ⟨kp, kc, np, nc, K, h1, h2, h3, h4⟩ => ⟨kp, kc, np, nc, K, h1, h2.since hb, h3.since hb, fun i hi => (h4 i hi).since hb⟩
theorem LiesE.imp {w : World} {R S : Nat → Prop} (hab : ∀ k, S k → k < w.heap.size → R k) : ∀ {d : Nat} {t : Et} {v : Value}, LiesE w S d t v → LiesE w R d t v
  | 0, _, _, h => h
  | _ + 1, _, _, ⟨kp, kc, np, nc, K, h1, h2, h3, h4⟩ => ⟨kp, kc, np, nc, K, h1, h2.imp hab, h3.imp hab, fun i hi => (h4 i hi).imp hab⟩
theorem LiesE.up {w : World} {S : Nat → Prop} : ∀ {d : Nat} {t : Et} {v : Value}, LiesE w S d t v → LiesE w S (d + 1) t v
  | 0, _, _, h => h.elim
  | _ + 1, _, _, ⟨kp, kc, np, nc, K, h1, h2, h3, h4⟩ => ⟨kp, kc, np, nc, K, h1, h2, h3, fun i hi => (h4 i hi).up⟩
theorem LiesE.mono {w : World} {S : Nat → Prop} {d e : Nat} (h : d ≤ e) {t : Et} {v : Value} (H : LiesE w S d t v) : LiesE w S e t v := by
  induction h with
  | refl => exact H
  | step _ ih => exact ih.up
/- An expression is its ten cells. -/
theorem LiesE.form {w : World} {S : Nat → Prop} {d : Nat} {t : Et} {v : Value} (h : LiesE w S d t v) : ∃ kp kc np nc, v = enV (t []) kp kc np nc := by
  cases d with
  | zero => exact h.elim
  | succ d =>
    obtain ⟨kp, kc, np, nc, K, h1, -, -, -⟩ := h
    exact ⟨kp, kc, np, nc, h1⟩
theorem Nms.none (w : World) (S : Nat → Prop) (g : Nat → ByteArray) : Nms w S none 0 0 g := ⟨⟨Nat.le_refl _, Nat.zero_le _⟩, fun h => absurd h (Nat.lt_irrefl _)⟩
theorem Kds.none (w : World) (S : Nat → Prop) (K : Nat → Nat → Value) : Kds w S none 0 0 K := ⟨⟨Nat.le_refl _, Nat.zero_le _⟩, fun h => absurd h (Nat.lt_irrefl _)⟩
/- An expression without kids. -/
theorem LiesE.leaf (w : World) (S : Nat → Prop) (e : En) (hn : e.n = 0) (hm : e.m = 0) (f : Nat → Et) : LiesE w S 1 (Et.node e f) (enV e none 0 none 0) := by
  refine ⟨none, 0, none, 0, fun _ _ => undef, rfl, ?_, ?_, fun i hi => ?_⟩
  · rw [Et.node_top, hm]; exact Nms.none w S _
  · rw [Et.node_top, hn]; exact Kds.none w S _
  · rw [Et.node_top, hn] at hi; exact absurd hi (Nat.not_lt_zero _)
end Go.Proofs.YtfemippjaokcmaaGreatDoor
namespace Go.Proofs.YtfemippjaokcmaaGreatDoor
open Go.RowKit Go.Shelf
attribute [local go_sem] Oper.semAt_some fw0 fw1 fw2
def set10 (w : World) (z : Nat) (k0 k1 k2 k3 k4 k5 k6 k7 k8 k9 : Value) : World := (((((((((w.setCell ⟨z, 0, none⟩ k0).setCell ⟨z, 1, none⟩ k1).setCell ⟨z, 2, none⟩ k2).setCell ⟨z, 3, none⟩ k3).setCell ⟨z, 4, none⟩ k4).setCell ⟨z, 5, none⟩ k5).setCell ⟨z, 6, none⟩ k6).setCell ⟨z, 7, none⟩ k7).setCell ⟨z, 8, none⟩ k8).setCell ⟨z, 9, none⟩ k9
theorem set10_row {w : World} {z : Nat} {t : TypeId} {a0 a1 a2 a3 a4 a5 a6 a7 a8 a9 : Value} (h : w.heap[z]? = some (.cells #[a0, a1, a2, a3, a4, a5, a6, a7, a8, a9] t (0, 0))) (k0 k1 k2 k3 k4 k5 k6 k7 k8 k9 : Value) : (set10 w z k0 k1 k2 k3 k4 k5 k6 k7 k8 k9).heap[z]? = some (.cells #[k0, k1, k2, k3, k4, k5, k6, k7, k8, k9] t (0, 0)) := by
  have s0 := row_setCell (k := 0) h k0
  simp only [List.setIfInBounds_toArray, List.set_cons_zero] at s0
  have s1 := row_setCell (k := 1) s0 k1
  simp only [List.setIfInBounds_toArray, List.set_cons_zero, List.set_cons_succ] at s1
  have s2 := row_setCell (k := 2) s1 k2
  simp only [List.setIfInBounds_toArray, List.set_cons_zero, List.set_cons_succ] at s2
  have s3 := row_setCell (k := 3) s2 k3
  simp only [List.setIfInBounds_toArray, List.set_cons_zero, List.set_cons_succ] at s3
  have s4 := row_setCell (k := 4) s3 k4
  simp only [List.setIfInBounds_toArray, List.set_cons_zero, List.set_cons_succ] at s4
  have s5 := row_setCell (k := 5) s4 k5
  simp only [List.setIfInBounds_toArray, List.set_cons_zero, List.set_cons_succ] at s5
  have s6 := row_setCell (k := 6) s5 k6
  simp only [List.setIfInBounds_toArray, List.set_cons_zero, List.set_cons_succ] at s6
  have s7 := row_setCell (k := 7) s6 k7
  simp only [List.setIfInBounds_toArray, List.set_cons_zero, List.set_cons_succ] at s7
  have s8 := row_setCell (k := 8) s7 k8
  simp only [List.setIfInBounds_toArray, List.set_cons_zero, List.set_cons_succ] at s8
  have s9 := row_setCell (k := 9) s8 k9
  simp only [List.setIfInBounds_toArray, List.set_cons_zero, List.set_cons_succ] at s9
  exact s9
theorem set10_other {w : World} {z j : Nat} (hj : j ≠ z) (k0 k1 k2 k3 k4 k5 k6 k7 k8 k9 : Value) : (set10 w z k0 k1 k2 k3 k4 k5 k6 k7 k8 k9).heap[j]? = w.heap[j]? := by
  unfold set10
  rw [Below.heap_setCell _ _ _ j hj, Below.heap_setCell _ _ _ j hj, Below.heap_setCell _ _ _ j hj, Below.heap_setCell _ _ _ j hj, Below.heap_setCell _ _ _ j hj, Below.heap_setCell _ _ _ j hj, Below.heap_setCell _ _ _ j hj, Below.heap_setCell _ _ _ j hj, Below.heap_setCell _ _ _ j hj, Below.heap_setCell _ _ _ j hj]
theorem set10_size (w : World) (z : Nat) (k0 k1 k2 k3 k4 k5 k6 k7 k8 k9 : Value) : (set10 w z k0 k1 k2 k3 k4 k5 k6 k7 k8 k9).heap.size = w.heap.size := by
  unfold set10
  simp [World.setCell]
theorem set10_below {B : Nat} {a w : World} (hb : Below B a w) (z : Nat) (hz : B ≤ z) (k0 k1 k2 k3 k4 k5 k6 k7 k8 k9 : Value) : Below B a (set10 w z k0 k1 k2 k3 k4 k5 k6 k7 k8 k9) := by
  have t0 := hb.setCell (p := ⟨z, 0, none⟩) hz k0
  have t1 := t0.setCell (p := ⟨z, 1, none⟩) hz k1
  have t2 := t1.setCell (p := ⟨z, 2, none⟩) hz k2
  have t3 := t2.setCell (p := ⟨z, 3, none⟩) hz k3
  have t4 := t3.setCell (p := ⟨z, 4, none⟩) hz k4
  have t5 := t4.setCell (p := ⟨z, 5, none⟩) hz k5
  have t6 := t5.setCell (p := ⟨z, 6, none⟩) hz k6
  have t7 := t6.setCell (p := ⟨z, 7, none⟩) hz k7
  have t8 := t7.setCell (p := ⟨z, 8, none⟩) hz k8
  have t9 := t8.setCell (p := ⟨z, 9, none⟩) hz k9
  exact t9
theorem Onl.set10 {b : Nat} {a w : World} (h : Onl b a w) (z : Nat) (hz : a.heap.size ≤ z) (k0 k1 k2 k3 k4 k5 k6 k7 k8 k9 : Value) : Onl b a (set10 w z k0 k1 k2 k3 k4 k5 k6 k7 k8 k9) := by
  have hb0 := set10_below (Below.refl 0 w) z (Nat.zero_le _) k0 k1 k2 k3 k4 k5 k6 k7 k8 k9
  refine ⟨hb0.os.trans h.os, hb0.tape.trans h.tape, hb0.output.trans h.output, ?_, fun j hj hb => ?_⟩
  · rw [set10_size]; exact h.size
  · rw [set10_other (by omega)]; exact h.block j hj hb
def zero10 : Array Value := #[.int .i64 0, .string ⟨#[]⟩, .int .i64 0, .bool false, .int .i64 0, .string ⟨#[]⟩, .slice none 0 0, .slice none 0 0, .slice none 0 0, .slice none 0 0]
def wholeP (ws : List Wd) (s : PS) : PS := if 200 < s.ex + 1 then failP ws { s with ex := s.ex + 1 } 3 else { s with ex := s.ex + 1 }
theorem Ps.kept {w w' : World} {b : Nat} {p : Option Addr} {c : Nat} {ws : List Wd} {s : PS} (H : Ps w b p c ws s) {z : Nat} (hbz : b < z) (hgz : ∀ g, p = some ⟨g, 0, none⟩ → g < z) (ho : ∀ j, j ≠ z → w'.heap[j]? = w.heap[j]?) (hs : w.heap.size ≤ w'.heap.size) : Ps w' b p c ws s := by
  refine ⟨(ho b (by omega)).trans H.row, ⟨H.sl.cap, H.sl.len, fun h0 => ?_⟩, H.lt, H.few⟩
  obtain ⟨g, h1, h2, h3⟩ := H.sl.lies h0
  have hg := hgz g h1
  exact ⟨g, h1, by omega, fun j u hu => (World.cell?_of_block (a := ⟨g, j, none⟩) (ho g (by omega))).trans (h3 j u hu)⟩
theorem Ps.old {w : World} {b : Nat} {p : Option Addr} {c : Nat} {ws : List Wd} {s : PS} (H : Ps w b p c ws s) : ∀ g, p = some ⟨g, 0, none⟩ → g < w.heap.size := by
  intro g hg
  obtain ⟨g', e, h2, -⟩ := H.word_at
  rw [hg] at e
  injection e with e
  injection e with e
  omega
set_option maxRecDepth 100000 in
set_option maxHeartbeats 8000000 in
theorem whole_any {w : World} {b : Nat} {p : Option Addr} {c : Nat} {ws : List Wd} {s : PS} (H : Ps w b p c ws s) (hex : s.ex ≤ 1000000) (e : En) (kp : Option Addr) (kc : Nat) (np : Option Addr) (nc : Nat) :
    Calls Tryz.prog 182 #[.pointer (some ⟨b, 0, none⟩), enV e kp kc np nc] w fun r w' => r = .returned (enV e kp kc np nc) ∧ Ps w' b p c ws (wholeP ws s) ∧ Onl b w w' := by
  unfold enV
  obtain ⟨ek, hek⟩ : ∃ ek, (e.k : Int) = ek := ⟨_, rfl⟩
  obtain ⟨evk, hevk⟩ : ∃ ek, (e.vk : Int) = ek := ⟨_, rfl⟩
  rw [hek, hevk]
  obtain ⟨R, hR⟩ : ∃ R, R = (#[.int .i64 ek, .string e.s, .int .i64 evk, .bool e.vb, .int .i64 e.vn, .string e.vs, .slice none 0 0, .slice none 0 0, .slice kp e.n kc, .slice np e.m nc] : Array Value) := ⟨_, rfl⟩
  obtain ⟨w2, hw2⟩ : ∃ w2, (w.alloc (.cells #[.int .i64 ek, .string e.s, .int .i64 evk, .bool e.vb, .int .i64 e.vn, .string e.vs, .slice none 0 0, .slice none 0 0, .slice kp e.n kc, .slice np e.m nc] 28)).alloc (.cells #[.int .i64 0, .string ⟨#[]⟩, .int .i64 0, .bool false, .int .i64 0, .string ⟨#[]⟩, .slice none 0 0, .slice none 0 0, .slice none 0 0, .slice none 0 0] 28) = w2 := ⟨_, rfl⟩
  have hb2 : Below w.heap.size w w2 := by rw [← hw2]; exact ((Below.refl _ w).alloc (Nat.le_refl _) _).alloc (by simp) _
  have hs2 : w2.heap.size = w.heap.size + 1 + 1 := by rw [← hw2]; simp
  have rx : w2.heap[w.heap.size]? = some (.cells R 28 (0, 0)) := by rw [← hw2, Below.heap_alloc _ _ _ (by simp), hR]; exact heap_alloc_new _ _
  have rz : w2.heap[w.heap.size + 1]? = some (.cells zero10 28 (0, 0)) := by
    rw [← hw2]
    have := heap_alloc_new (w.alloc (.cells #[.int .i64 ek, .string e.s, .int .i64 evk, .bool e.vb, .int .i64 e.vn, .string e.vs, .slice none 0 0, .slice none 0 0, .slice kp e.n kc, .slice np e.m nc] 28)) (.cells zero10 28)
    simpa [zero10] using this
  have H2 := H.later hb2
  have lb := lt_of_row H.row
  have hold := H.old
  have r0 := H2.row
  unfold psRow at r0
  obtain ⟨x, hx⟩ : ∃ x, s.ex = x := ⟨_, rfl⟩
  rw [hx] at r0 hex
  have c2 := cell_of_row w2 _ 2 _ _ _ r0
  have f2 := frozen_of_row w2 _ 2 _ _ r0
  have hw1 : wrap64 ((x : Int) + 1) = (x : Int) + 1 := by unfold wrap64; omega
  obtain ⟨w3, hw3⟩ : ∃ w3, w2.setCell ⟨b, 2, none⟩ (.int .i64 ((x : Int) + 1)) = w3 := ⟨_, rfl⟩
  have r3 : w3.heap[b]? = some (.cells #[.slice p ws.length c, .int .i64 (s.at' : Int), .int .i64 ((x : Int) + 1), .int .i64 (s.ne : Int), .int .i64 (s.er : Int), .int .i64 (s.pl : Int)] 102 (0, 0)) := by rw [← hw3]; exact heap_setCell_same _ _ 2 _ _ _ r0
  have ho3 : Onl b w2 w3 := by rw [← hw3]; exact (Onl.of (Below.refl _ _)).setCell 2 _
  have P3 : Ps w3 b p c ws { s with ex := s.ex + 1 } := H2.upd ho3 (by rw [r3]; unfold psRow; rw [hx]; rfl) H.lt
  have d2 := cell_of_row w3 _ 2 _ _ _ r3
  have oth : ∀ k, k ≠ b → w3.heap[k]? = w2.heap[k]? := fun k hk => by rw [← hw3]; exact heap_setCell_other _ _ _ _ hk
  have rx3 := (oth _ (by omega)).trans rx
  have rz3 := (oth _ (by omega)).trans rz
  have hO3 : Onl b w w3 := (Onl.of hb2).trans ho3
  have hs3 : w3.heap.size = w.heap.size + 1 + 1 := by rw [← hw3]; simpa [World.setCell] using hs2
  have HP3 : Hid (Ps w3 b p c ws { s with ex := s.ex + 1 }) := P3
  have HO3 : Hid (Onl b w w3) := hO3
  unfold wholeP
  rw [hx]
  rw [hx] at HP3
  by_cases hm : 200 < x + 1
  · rw [if_pos hm]
    have hm' : (200 : Int) < (x : Int) + 1 := by omega
    have kf := fail_any HP3.out 3
    clear H H2 P3 hO3 ho3 r0 rx rz hm
    go_enter Tryz.func182, Tryz.ntmps182
    go_wp2_with fail
    refine kf.mono ?_
    rintro q w4 ⟨rfl, hP4, hO4⟩
    have rx4 := (hO4.block _ (by omega) (by omega)).trans rx3
    have rz4 := (hO4.block _ (by omega) (by omega)).trans rz3
    rw [hR] at rx4
    unfold zero10 at rz4
    have p0 := cell_of_row w4 _ 0 _ _ _ rx4
    have q0 := cell_of_row w4 _ 0 _ _ _ rz4
    have g0 := frozen_of_row w4 _ 0 _ _ rz4
    have p1 := cell_of_row w4 _ 1 _ _ _ rx4
    have q1 := cell_of_row w4 _ 1 _ _ _ rz4
    have g1 := frozen_of_row w4 _ 1 _ _ rz4
    have p2 := cell_of_row w4 _ 2 _ _ _ rx4
    have q2 := cell_of_row w4 _ 2 _ _ _ rz4
    have g2 := frozen_of_row w4 _ 2 _ _ rz4
    have p3 := cell_of_row w4 _ 3 _ _ _ rx4
    have q3 := cell_of_row w4 _ 3 _ _ _ rz4
    have g3 := frozen_of_row w4 _ 3 _ _ rz4
    have p4 := cell_of_row w4 _ 4 _ _ _ rx4
    have q4 := cell_of_row w4 _ 4 _ _ _ rz4
    have g4 := frozen_of_row w4 _ 4 _ _ rz4
    have p5 := cell_of_row w4 _ 5 _ _ _ rx4
    have q5 := cell_of_row w4 _ 5 _ _ _ rz4
    have g5 := frozen_of_row w4 _ 5 _ _ rz4
    have p6 := cell_of_row w4 _ 6 _ _ _ rx4
    have q6 := cell_of_row w4 _ 6 _ _ _ rz4
    have g6 := frozen_of_row w4 _ 6 _ _ rz4
    have p7 := cell_of_row w4 _ 7 _ _ _ rx4
    have q7 := cell_of_row w4 _ 7 _ _ _ rz4
    have g7 := frozen_of_row w4 _ 7 _ _ rz4
    have p8 := cell_of_row w4 _ 8 _ _ _ rx4
    have q8 := cell_of_row w4 _ 8 _ _ _ rz4
    have g8 := frozen_of_row w4 _ 8 _ _ rz4
    have p9 := cell_of_row w4 _ 9 _ _ _ rx4
    have q9 := cell_of_row w4 _ 9 _ _ _ rz4
    have g9 := frozen_of_row w4 _ 9 _ _ rz4
    have HP4 : Hid (Ps w4 b p c ws (failP ws { s with ex := x + 1 } 3)) := hP4
    have HO4 : Hid (Onl b w w4) := HO3.out.trans hO4
    have lz := lt_of_row rz4
    have hz4 : w.heap.size + 1 < w4.heap.size := lz
    clear kf hP4 hO4 hw2 hw3 rx3 rz3 r3 d2 c2 f2 rx4
    go_wp2
    refine bodyPost_ret (results_cell_row Tryz.results182 _ _ (w.heap.size + 1) 28 _ (0, 0) _ rfl (set10_row rz4 (.int .i64 ek) (.string e.s) (.int .i64 evk) (.bool e.vb) (.int .i64 e.vn) (.string e.vs) (.slice none 0 0) (.slice none 0 0) (.slice kp e.n kc) (.slice np e.m nc)) Tryz.underlying28 rfl (by kernel_rfl)) rfl ⟨rfl, ?_, ?_⟩
    · exact HP4.out.kept (z := w.heap.size + 1) (by omega) (fun g hg => by have := hold g hg; omega) (fun j hj => set10_other hj _ _ _ _ _ _ _ _ _ _) (Nat.le_of_eq (set10_size _ _ _ _ _ _ _ _ _ _ _ _).symm)
    · exact HO4.out.set10 _ (by omega) _ _ _ _ _ _ _ _ _ _
  · rw [if_neg hm]
    have hm' : ¬ (200 : Int) < (x : Int) + 1 := by omega
    clear H H2 P3 hO3 ho3 r0 rx rz hm
    obtain ⟨w4, hw4⟩ : ∃ w4, w3 = w4 := ⟨_, rfl⟩
    have rx4 := rx3
    have rz4 := rz3
    rw [hR] at rx4
    unfold zero10 at rz4
    rw [hw4] at rx4 rz4 HP3 HO3 hw3 d2
    have p0 := cell_of_row w4 _ 0 _ _ _ rx4
    have q0 := cell_of_row w4 _ 0 _ _ _ rz4
    have g0 := frozen_of_row w4 _ 0 _ _ rz4
    have p1 := cell_of_row w4 _ 1 _ _ _ rx4
    have q1 := cell_of_row w4 _ 1 _ _ _ rz4
    have g1 := frozen_of_row w4 _ 1 _ _ rz4
    have p2 := cell_of_row w4 _ 2 _ _ _ rx4
    have q2 := cell_of_row w4 _ 2 _ _ _ rz4
    have g2 := frozen_of_row w4 _ 2 _ _ rz4
    have p3 := cell_of_row w4 _ 3 _ _ _ rx4
    have q3 := cell_of_row w4 _ 3 _ _ _ rz4
    have g3 := frozen_of_row w4 _ 3 _ _ rz4
    have p4 := cell_of_row w4 _ 4 _ _ _ rx4
    have q4 := cell_of_row w4 _ 4 _ _ _ rz4
    have g4 := frozen_of_row w4 _ 4 _ _ rz4
    have p5 := cell_of_row w4 _ 5 _ _ _ rx4
    have q5 := cell_of_row w4 _ 5 _ _ _ rz4
    have g5 := frozen_of_row w4 _ 5 _ _ rz4
    have p6 := cell_of_row w4 _ 6 _ _ _ rx4
    have q6 := cell_of_row w4 _ 6 _ _ _ rz4
    have g6 := frozen_of_row w4 _ 6 _ _ rz4
    have p7 := cell_of_row w4 _ 7 _ _ _ rx4
    have q7 := cell_of_row w4 _ 7 _ _ _ rz4
    have g7 := frozen_of_row w4 _ 7 _ _ rz4
    have p8 := cell_of_row w4 _ 8 _ _ _ rx4
    have q8 := cell_of_row w4 _ 8 _ _ _ rz4
    have g8 := frozen_of_row w4 _ 8 _ _ rz4
    have p9 := cell_of_row w4 _ 9 _ _ _ rx4
    have q9 := cell_of_row w4 _ 9 _ _ _ rz4
    have g9 := frozen_of_row w4 _ 9 _ _ rz4
    have HP4 := HP3
    have HO4 := HO3
    have lz := lt_of_row rz4
    clear rx3 rz3 r3 rx4 oth hs3
    subst hw4
    go_enter Tryz.func182, Tryz.ntmps182
    go_wp2
    refine bodyPost_ret (results_cell_row Tryz.results182 _ _ (w.heap.size + 1) 28 _ (0, 0) _ rfl (set10_row rz4 (.int .i64 ek) (.string e.s) (.int .i64 evk) (.bool e.vb) (.int .i64 e.vn) (.string e.vs) (.slice none 0 0) (.slice none 0 0) (.slice kp e.n kc) (.slice np e.m nc)) Tryz.underlying28 rfl (by kernel_rfl)) rfl ⟨rfl, ?_, ?_⟩
    · exact HP4.out.kept (z := w.heap.size + 1) (by omega) (fun g hg => by have := hold g hg; omega) (fun j hj => set10_other hj _ _ _ _ _ _ _ _ _ _) (Nat.le_of_eq (set10_size _ _ _ _ _ _ _ _ _ _ _ _).symm)
    · exact HO4.out.set10 _ (by omega) _ _ _ _ _ _ _ _ _ _
end Go.Proofs.YtfemippjaokcmaaGreatDoor
namespace Go.Proofs.YtfemippjaokcmaaGreatDoor
open Go.RowKit Go.Shelf
attribute [local go_sem] Oper.semAt_some fw0 fw1 fw2
def deepP (ws : List Wd) (s : PS) : PS := if 24 < s.ne + 1 then failP ws { s with ne := s.ne + 1 } 3 else { s with ne := s.ne + 1 }
def backP (s : PS) : PS := { s with ne := s.ne - 1 }
set_option maxRecDepth 100000 in
set_option maxHeartbeats 4000000 in
theorem deeper_any {w : World} {b : Nat} {p : Option Addr} {c : Nat} {ws : List Wd} {s : PS} (H : Ps w b p c ws s) (hne : s.ne ≤ 1000000) :
    Calls Tryz.prog 179 #[.pointer (some ⟨b, 0, none⟩)] w fun r w' => r = .returned (.func (.func 197) #[.pointer (some ⟨b, 0, none⟩)] #[]) ∧ Ps w' b p c ws (deepP ws s) ∧ Onl b w w' := by
  have hmf : ∀ (fn : Fn) (first cap : Array Value) (w : World), (Instr.makeFunc fn first cap).run Tryz.prog w = .ok (.func fn first cap) w := fun _ _ _ _ => rfl
  have r0 := H.row
  unfold psRow at r0
  obtain ⟨x, hx⟩ : ∃ x, s.ne = x := ⟨_, rfl⟩
  rw [hx] at r0 hne
  have c3 := cell_of_row w _ 3 _ _ _ r0
  have f3 := frozen_of_row w _ 3 _ _ r0
  have hw1 : wrap64 ((x : Int) + 1) = (x : Int) + 1 := by unfold wrap64; omega
  obtain ⟨w3, hw3⟩ : ∃ w3, w.setCell ⟨b, 3, none⟩ (.int .i64 ((x : Int) + 1)) = w3 := ⟨_, rfl⟩
  have r3 : w3.heap[b]? = some (.cells #[.slice p ws.length c, .int .i64 (s.at' : Int), .int .i64 (s.ex : Int), .int .i64 ((x : Int) + 1), .int .i64 (s.er : Int), .int .i64 (s.pl : Int)] 102 (0, 0)) := by rw [← hw3]; exact heap_setCell_same _ _ 3 _ _ _ r0
  have ho3 : Onl b w w3 := by rw [← hw3]; exact (Onl.of (Below.refl _ _)).setCell 3 _
  have P3 : Ps w3 b p c ws { s with ne := s.ne + 1 } := H.upd ho3 (by rw [r3]; unfold psRow; rw [hx]; rfl) H.lt
  have d3 := cell_of_row w3 _ 3 _ _ _ r3
  have HP3 : Hid (Ps w3 b p c ws { s with ne := s.ne + 1 }) := P3
  have HO3 : Hid (Onl b w w3) := ho3
  unfold deepP
  rw [hx]
  rw [hx] at HP3
  by_cases hm : 24 < x + 1
  · rw [if_pos hm]
    have hm' : (24 : Int) < (x : Int) + 1 := by omega
    have kf := fail_any HP3.out 3
    clear H P3 ho3 r0 hm
    go_enter Tryz.func179, Tryz.ntmps179
    go_wp2_with fail
    refine kf.mono ?_
    rintro q w4 ⟨rfl, hP4, hO4⟩
    have HP : Hid (Ps w4 b p c ws (failP ws { s with ne := x + 1 } 3) ∧ Onl b w w4) := ⟨hP4, HO3.out.trans hO4⟩
    clear kf hP4 hO4 hw3 r3 d3 c3 f3
    go_wp2
    go_ret
    exact ⟨rfl, HP.out.1, HP.out.2⟩
  · rw [if_neg hm]
    have hm' : ¬ (24 : Int) < (x : Int) + 1 := by omega
    clear H P3 ho3 r0 hm
    go_enter Tryz.func179, Tryz.ntmps179
    go_wp2
    go_ret
    exact ⟨rfl, HP3.out, HO3.out⟩
set_option maxRecDepth 100000 in
set_option maxHeartbeats 4000000 in
theorem back_d {w : World} {b : Nat} {p : Option Addr} {c : Nat} {ws : List Wd} {s : PS} (H : Ps w b p c ws s) (h0 : 0 < s.ne) (hne : s.ne ≤ 1000000) (u : FrameMode) :
    CallsD Tryz.prog 197 #[.pointer (some ⟨b, 0, none⟩)] u w fun e u' w' => u' = u ∧ (e = .returned (.tuple #[]) ∧ Ps w' b p c ws (backP s) ∧ Onl b w w') := by
  have r0 := H.row
  unfold psRow at r0
  obtain ⟨x, hx⟩ : ∃ x, s.ne = x := ⟨_, rfl⟩
  rw [hx] at r0 hne h0
  have c3 := cell_of_row w _ 3 _ _ _ r0
  have f3 := frozen_of_row w _ 3 _ _ r0
  have hw1 : wrap64 ((x : Int) - 1) = (x : Int) - 1 := by unfold wrap64; omega
  obtain ⟨w3, hw3⟩ : ∃ w3, w.setCell ⟨b, 3, none⟩ (.int .i64 ((x : Int) - 1)) = w3 := ⟨_, rfl⟩
  have r3 : w3.heap[b]? = some (.cells #[.slice p ws.length c, .int .i64 (s.at' : Int), .int .i64 (s.ex : Int), .int .i64 ((x : Int) - 1), .int .i64 (s.er : Int), .int .i64 (s.pl : Int)] 102 (0, 0)) := by rw [← hw3]; exact heap_setCell_same _ _ 3 _ _ _ r0
  have ho3 : Onl b w w3 := by rw [← hw3]; exact (Onl.of (Below.refl _ _)).setCell 3 _
  have P3 : Ps w3 b p c ws (backP s) := H.upd ho3 (by rw [r3]; unfold psRow backP; rw [hx]; simp only [Int.natCast_sub (show 1 ≤ x by omega)]; rfl) H.lt
  have HP3 : Hid (Ps w3 b p c ws (backP s)) := P3
  have HO3 : Hid (Onl b w w3) := ho3
  clear H P3 ho3 r0
  go_enter_d Tryz.func197, Tryz.ntmps197
  go_wp2
  go_end0
  exact ⟨rfl, HP3.out, HO3.out⟩
end Go.Proofs.YtfemippjaokcmaaGreatDoor
namespace Go.Proofs.YtfemippjaokcmaaGreatDoor
open Go.RowKit Go.Shelf
attribute [local go_sem] Oper.semAt_some fw0 fw1 fw2
def nodeE (k : Nat) (s : ByteArray) (n : Nat) : En := ⟨k, s, 0, false, 0, ⟨#[]⟩, n, 0, fun _ => ⟨#[]⟩⟩
def oneT (k : Nat) (t : Et) : Et := Et.node (nodeE k ⟨#[]⟩ 1) fun _ => t
theorem Kds.ofRow {w : World} {S : Nat → Prop} {g : Nat} (hg : S g) {cs : Array Value} {T : TypeId} {fr : Nat × Nat} (h : w.heap[g]? = some (.cells cs T fr)) {n c : Nat} (hn : n * 10 ≤ cs.size) (hc : n ≤ c ∧ c ≤ maxLen) : Kds w S (some ⟨g, 0, Option.none⟩) n c fun i j => cs.getD (i * 10 + j) undef := by
  refine ⟨hc, fun _ => ⟨g, 0, rfl, hg, lt_of_row h, fun i hi j hj => ?_⟩⟩
  rw [cell_of_row w g _ cs T fr h]
  have hl : i * 10 + j < cs.size := by omega
  simp [hl]
theorem LiesE.one {w : World} {S : Nat → Prop} {g : Nat} (hg : S g) {T : TypeId} {fr : Nat × Nat} {k d : Nat} {t : Et} {e : En} {kp : Option Addr} {kc : Nat} {np : Option Addr} {nc : Nat} (h : w.heap[g]? = some (.cells #[.int .i64 (e.k : Int), .string e.s, .int .i64 (e.vk : Int), .bool e.vb, .int .i64 e.vn, .string e.vs, .slice none 0 0, .slice none 0 0, .slice kp e.n kc, .slice np e.m nc] T fr)) (L : LiesE w S d t (enV e kp kc np nc)) : LiesE w S (d + 1) (oneT k t) (enV (nodeE k ⟨#[]⟩ 1) (some ⟨g, 0, none⟩) 1 none 0) := by
  refine ⟨_, _, _, _, _, rfl, Nms.none _ _ _, Kds.ofRow (n := 1) (c := 1) hg h (by simp) (by decide), fun i hi => ?_⟩
  have hi' : i < 1 := hi
  obtain rfl : i = 0 := by omega
  exact L
set_option maxRecDepth 100000 in
set_option maxHeartbeats 8000000 in
theorem around_any {w : World} {b : Nat} {p : Option Addr} {c : Nat} {ws : List Wd} {s : PS} (H : Ps w b p c ws s) (hex : s.ex ≤ 1000000) (k : Nat) {S : Nat → Prop} {d : Nat} (hB : ¬ S b ∧ ∀ k, w.heap.size ≤ k → S k) {t : Et} {v : Value} (L : LiesE w S d t v) :
    Calls Tryz.prog 180 #[.pointer (some ⟨b, 0, none⟩), .int .i64 (k : Int), v] w fun r w' => ∃ v', r = .returned v' ∧ LiesE w' S (d + 1) (oneT k t) v' ∧ Ps w' b p c ws (wholeP ws s) ∧ Onl b w w' := by
  obtain ⟨kp, kc, np, nc, rfl⟩ := L.form
  obtain ⟨e, he⟩ : ∃ e, t [] = e := ⟨_, rfl⟩
  rw [he] at L ⊢
  have hold := H.old
  have lb := lt_of_row H.row
  obtain ⟨w3, hw3⟩ : ∃ w3, ((w.alloc (.cells #[.int .i64 (e.k : Int), .string e.s, .int .i64 (e.vk : Int), .bool e.vb, .int .i64 e.vn, .string e.vs, .slice none 0 0, .slice none 0 0, .slice kp e.n kc, .slice np e.m nc] 28)).alloc (.cells #[.int .i64 0, .string ⟨#[]⟩, .int .i64 0, .bool false, .int .i64 0, .string ⟨#[]⟩, .slice none 0 0, .slice none 0 0, .slice none 0 0, .slice none 0 0] 28)).alloc (.cells #[.int .i64 (e.k : Int), .string e.s, .int .i64 (e.vk : Int), .bool e.vb, .int .i64 e.vn, .string e.vs, .slice none 0 0, .slice none 0 0, .slice kp e.n kc, .slice np e.m nc] 28) = w3 := ⟨_, rfl⟩
  have hb3 : Below w.heap.size w w3 := by rw [← hw3]; exact (((Below.refl _ w).alloc (Nat.le_refl _) _).alloc (by simp) _).alloc (by simp; omega) _
  have hs3 : w3.heap.size = w.heap.size + 1 + 1 + 1 := by rw [← hw3]; simp
  have rk3 : w3.heap[w.heap.size + 1 + 1]? = some (.cells #[.int .i64 (e.k : Int), .string e.s, .int .i64 (e.vk : Int), .bool e.vb, .int .i64 e.vn, .string e.vs, .slice none 0 0, .slice none 0 0, .slice kp e.n kc, .slice np e.m nc] 28 (0, 0)) := by
    rw [← hw3]
    have := heap_alloc_new ((w.alloc (.cells #[.int .i64 (e.k : Int), .string e.s, .int .i64 (e.vk : Int), .bool e.vb, .int .i64 e.vn, .string e.vs, .slice none 0 0, .slice none 0 0, .slice kp e.n kc, .slice np e.m nc] 28)).alloc (.cells #[.int .i64 0, .string ⟨#[]⟩, .int .i64 0, .bool false, .int .i64 0, .string ⟨#[]⟩, .slice none 0 0, .slice none 0 0, .slice none 0 0, .slice none 0 0] 28)) (.cells #[.int .i64 (e.k : Int), .string e.s, .int .i64 (e.vk : Int), .bool e.vb, .int .i64 e.vn, .string e.vs, .slice none 0 0, .slice none 0 0, .slice kp e.n kc, .slice np e.m nc] 28)
    simpa using this
  have rz3 : w3.heap[w.heap.size + 1]? = some (.cells #[.int .i64 0, .string ⟨#[]⟩, .int .i64 0, .bool false, .int .i64 0, .string ⟨#[]⟩, .slice none 0 0, .slice none 0 0, .slice none 0 0, .slice none 0 0] 28 (0, 0)) := by
    rw [← hw3, Below.heap_alloc _ _ _ (by simp)]
    have := heap_alloc_new (w.alloc (.cells #[.int .i64 (e.k : Int), .string e.s, .int .i64 (e.vk : Int), .bool e.vb, .int .i64 e.vn, .string e.vs, .slice none 0 0, .slice none 0 0, .slice kp e.n kc, .slice np e.m nc] 28)) (.cells #[.int .i64 0, .string ⟨#[]⟩, .int .i64 0, .bool false, .int .i64 0, .string ⟨#[]⟩, .slice none 0 0, .slice none 0 0, .slice none 0 0, .slice none 0 0] 28)
    simpa using this
  have kw := whole_any (H.later hb3) hex (nodeE k ⟨#[]⟩ 1) (some ⟨w.heap.size + 1 + 1, 0, none⟩) 1 none 0
  have HH : Hid (Ps w b p c ws s ∧ LiesE w S d t (enV e kp kc np nc) ∧ Below w.heap.size w w3 ∧ w3.heap[w.heap.size + 1 + 1]? = some (.cells #[.int .i64 (e.k : Int), .string e.s, .int .i64 (e.vk : Int), .bool e.vb, .int .i64 e.vn, .string e.vs, .slice none 0 0, .slice none 0 0, .slice kp e.n kc, .slice np e.m nc] 28 (0, 0))) := ⟨H, L, hb3, rk3⟩
  clear H L hb3 rk3
  unfold enV
  obtain ⟨ek, hek⟩ : ∃ ek, (e.k : Int) = ek := ⟨_, rfl⟩
  obtain ⟨evk, hevk⟩ : ∃ ek, (e.vk : Int) = ek := ⟨_, rfl⟩
  obtain ⟨kk, hkk⟩ : ∃ ek, (k : Int) = ek := ⟨_, rfl⟩
  have kw' : Calls Tryz.prog 182 #[.pointer (some ⟨b, 0, none⟩), .agg #[.int .i64 kk, .string ⟨#[]⟩, .int .i64 0, .bool false, .int .i64 0, .string ⟨#[]⟩, .slice none 0 0, .slice none 0 0, .slice (some ⟨w.heap.size + 1 + 1, 0, none⟩) 1 1, .slice none 0 0]] w3 fun r w' => r = .returned (.agg #[.int .i64 kk, .string ⟨#[]⟩, .int .i64 0, .bool false, .int .i64 0, .string ⟨#[]⟩, .slice none 0 0, .slice none 0 0, .slice (some ⟨w.heap.size + 1 + 1, 0, none⟩) 1 1, .slice none 0 0]) ∧ Ps w' b p c ws (wholeP ws s) ∧ Onl b w3 w' := by rw [← hkk]; exact kw
  rw [hek, hevk] at hw3 ⊢
  rw [hkk]
  clear kw
  go_enter Tryz.func180, Tryz.ntmps180
  go_wp2_with fail
  refine kw'.mono ?_
  rintro r w4 ⟨rfl, hP4, hO4⟩
  have rz4 := (hO4.block _ (by omega) (by omega)).trans rz3
  have q0 := cell_of_row w4 _ 0 _ _ _ rz4
  have g0 := frozen_of_row w4 _ 0 _ _ rz4
  have q1 := cell_of_row w4 _ 1 _ _ _ rz4
  have g1 := frozen_of_row w4 _ 1 _ _ rz4
  have q2 := cell_of_row w4 _ 2 _ _ _ rz4
  have g2 := frozen_of_row w4 _ 2 _ _ rz4
  have q3 := cell_of_row w4 _ 3 _ _ _ rz4
  have g3 := frozen_of_row w4 _ 3 _ _ rz4
  have q4 := cell_of_row w4 _ 4 _ _ _ rz4
  have g4 := frozen_of_row w4 _ 4 _ _ rz4
  have q5 := cell_of_row w4 _ 5 _ _ _ rz4
  have g5 := frozen_of_row w4 _ 5 _ _ rz4
  have q6 := cell_of_row w4 _ 6 _ _ _ rz4
  have g6 := frozen_of_row w4 _ 6 _ _ rz4
  have q7 := cell_of_row w4 _ 7 _ _ _ rz4
  have g7 := frozen_of_row w4 _ 7 _ _ rz4
  have q8 := cell_of_row w4 _ 8 _ _ _ rz4
  have g8 := frozen_of_row w4 _ 8 _ _ rz4
  have q9 := cell_of_row w4 _ 9 _ _ _ rz4
  have g9 := frozen_of_row w4 _ 9 _ _ rz4
  have lz := lt_of_row rz4
  have HP : Hid (Ps w4 b p c ws (wholeP ws s) ∧ Onl b w3 w4) := ⟨hP4, hO4⟩
  clear kw' hP4 hO4 hw3 rz3
  go_wp2
  refine bodyPost_ret (results_cell_row Tryz.results180 _ _ (w.heap.size + 1) 28 _ (0, 0) _ rfl (set10_row rz4 (.int .i64 kk) (.string ⟨#[]⟩) (.int .i64 0) (.bool false) (.int .i64 0) (.string ⟨#[]⟩) (.slice none 0 0) (.slice none 0 0) (.slice (some ⟨w.heap.size + 1 + 1, 0, none⟩) 1 1) (.slice none 0 0)) Tryz.underlying28 rfl (by kernel_rfl)) rfl ?_
  obtain ⟨H, L, hb3, rk3⟩ := HH.out
  obtain ⟨hP4, hO4⟩ := HP.out
  have hO : Onl b w (set10 w4 (w.heap.size + 1) (.int .i64 kk) (.string ⟨#[]⟩) (.int .i64 0) (.bool false) (.int .i64 0) (.string ⟨#[]⟩) (.slice none 0 0) (.slice none 0 0) (.slice (some ⟨w.heap.size + 1 + 1, 0, none⟩) 1 1) (.slice none 0 0)) := ((Onl.of hb3).trans hO4).set10 _ (by omega) _ _ _ _ _ _ _ _ _ _
  refine ⟨_, rfl, ?_, ?_, hO⟩
  · rw [← hkk] at hO ⊢
    refine LiesE.one (g := w.heap.size + 1 + 1) (hB.2 _ (by omega)) ((set10_other (by omega) _ _ _ _ _ _ _ _ _ _).trans ((hO4.block _ (by omega) (by omega)).trans rk3)) (L.since (Since.onl hO hB.1))
  · exact hP4.kept (z := w.heap.size + 1) (by omega) (fun g hg => by have := hold g hg; omega) (fun j hj => set10_other hj _ _ _ _ _ _ _ _ _ _) (Nat.le_of_eq (set10_size _ _ _ _ _ _ _ _ _ _ _ _).symm)
end Go.Proofs.YtfemippjaokcmaaGreatDoor
namespace Go.Proofs.YtfemippjaokcmaaGreatDoor
open Go.RowKit Go.Shelf
def isP (x : Wd) (k : Nat) (l : List UInt8) : Bool := decide (x.k = k) && (x.s == l)
def mustQ (ws : List Wd) (s : PS) (k : Nat) (l : List UInt8) : PS := if isP (wAt ws s.at') k l then takeP s else failP ws s 120
def keyR (l : List UInt8) : Int := if (l == [79, 82]) = true then 0 else if (l == [65, 78, 68]) = true then 1 else -1
def signR (l : List UInt8) : Int :=
  if (l == [61]) = true then 3 else if (l == [60, 62]) = true then 3 else if (l == [60]) = true then 3 else if (l == [60, 61]) = true then 3 else if (l == [62]) = true then 3 else if (l == [62, 61]) = true then 3
  else if (l == [43]) = true then 4 else if (l == [45]) = true then 4 else if (l == [42]) = true then 5 else -1
def rankI (x : Wd) : Int := if x.k = 2 then keyR x.s else if x.k = 6 then signR x.s else -1
def zeroE : En := nodeE 0 ⟨#[]⟩ 0
def zeroT : Et := Et.node zeroE fun _ _ => zeroE
def binT (sg : ByteArray) (a b : Et) : Et := Et.node (nodeE 6 sg 2) fun i => if i = 0 then a else b
def litT (v : Nat × Bool × Int × ByteArray) : Et := Et.node ⟨1, ⟨#[]⟩, v.1, v.2.1, v.2.2.1, v.2.2.2, 0, 0, fun _ => ⟨#[]⟩⟩ fun _ _ => zeroE
def fieldT (s : ByteArray) : Et := Et.node (nodeE 2 s 0) fun _ _ => zeroE
def listT (l : List Et) : Et := Et.node (nodeE 7 ⟨#[]⟩ l.length) fun i => l.getD i zeroT
def structT (l : List (ByteArray × Et)) : Et := Et.node ⟨8, ⟨#[]⟩, 0, false, 0, ⟨#[]⟩, l.length, l.length, fun i => (l.getD i (⟨#[]⟩, zeroT)).1⟩ fun i => (l.getD i (⟨#[]⟩, zeroT)).2
def litV (x : Wd) : Option (Nat × Bool × Int × ByteArray) :=
  if x.k = 3 then (match Lib.parseIntB 64 x.s with | .ok v => some (2, false, v, ⟨#[]⟩) | _ => none)
  else if x.k = 4 then some (3, false, 0, wdS x)
  else if x.k = 5 then some (4, false, 0, wdS x)
  else if x.k = 2 then
    (if x.s = [78, 85, 76, 76] then some (0, false, 0, ⟨#[]⟩) else if x.s = [84, 82, 85, 69] then some (1, true, 0, ⟨#[]⟩) else if x.s = [70, 65, 76, 83, 69] then some (1, false, 0, ⟨#[]⟩) else none)
  else none
def litF (ws : List Wd) (s : PS) : Et × PS :=
  match litV (wAt ws s.at') with
  | some v => (litT v, wholeP ws (takeP s))
  | none => (zeroT, failP ws s 120)
def pathL (ws : List Wd) : Nat → List ByteArray → PS → List ByteArray × PS
  | 0, l, s => (l, s)
  | n + 1, l, s => if isP (wAt ws s.at') 6 [46] then pathL ws n (l ++ [nameS ws (takeP s)]) (nameP ws (takeP s)) else (l, s)
def joinB : List ByteArray → List UInt8
  | [] => []
  | [x] => x.data.toList
  | x :: y :: l => x.data.toList ++ 46 :: joinB (y :: l)
def pathF (ws : List Wd) (s : PS) : ByteArray × PS :=
  (⟨(joinB (pathL ws ws.length [nameS ws s] (nameP ws s)).1).toArray⟩, (pathL ws ws.length [nameS ws s] (nameP ws s)).2)
def comF {α : Type} (ws : List Wd) (one : PS → α × PS) : Nat → List α → PS → List α × PS
  | 0, l, s => (l, s)
  | n + 1, l, s =>
    if l.length = 32 then ([], failP ws s 3)
    else if isP (wAt ws (one s).2.at') 6 [44] then comF ws one n (l ++ [(one s).1]) (takeP (one s).2) else (l ++ [(one s).1], (one s).2)
def sidesF (ws : List Wd) (f : PS → Et × PS) (t : Et) (s : PS) : Et × PS := (binT (wdS (wAt ws s.at')) t (f (takeP s)).1, wholeP ws (f (takeP s)).2)
def loopF (ws : List Wd) (f : PS → Et × PS) (rank : Nat) : Nat → Et × PS → Et × PS
  | 0, x => x
  | n + 1, x => if rankI (wAt ws x.2.at') = (rank : Int) then loopF ws f rank n (sidesF ws f x.1 x.2) else x
def isNullF (ws : List Wd) (t : Et) (s : PS) : Et × PS :=
  if isP (wAt ws s.at') 2 [78, 79, 84] then (oneT 4 (oneT 5 t), wholeP ws (wholeP ws (mustQ ws (takeP s) 2 [78, 85, 76, 76])))
  else (oneT 5 t, wholeP ws (mustQ ws s 2 [78, 85, 76, 76]))
def cmpS (ws : List Wd) (f : PS → Et × PS) (x : Et × PS) : Et × PS := if rankI (wAt ws x.2.at') = 3 then sidesF ws f x.1 x.2 else x
def cmpI (ws : List Wd) (x : Et × PS) : Et × PS := if isP (wAt ws x.2.at') 2 [73, 83] then isNullF ws x.1 (takeP x.2) else x
def cmpF (ws : List Wd) (f : PS → Et × PS) (s : PS) : Et × PS := cmpI ws (cmpS ws f (f s))
def notS (ws : List Wd) (s : PS) : PS := mustQ ws (deepP ws s) 2 [78, 79, 84]
def negF (ws : List Wd) (go : Nat → PS → Et × PS) (s : PS) : Et × PS :=
  if isP (wAt ws s.at') 2 [78, 79, 84] then (oneT 4 (go 2 (notS ws s)).1, backP (wholeP ws (go 2 (notS ws s)).2)) else go 3 s
def namedF (ws : List Wd) (f : PS → Et × PS) (between : List UInt8) (s : PS) : (ByteArray × Et) × PS :=
  ((nameS ws s, (f (mustQ ws (nameP ws s) 6 between)).1), (f (mustQ ws (nameP ws s) 6 between)).2)
def listF (ws : List Wd) (f : PS → Et × PS) (s : PS) : Et × PS :=
  if isP (wAt ws s.at') 6 [93] then (listT [], wholeP ws (takeP s))
  else (listT (comF ws f 33 [] s).1, wholeP ws (mustQ ws (comF ws f 33 [] s).2 6 [93]))
def structF (ws : List Wd) (f : PS → Et × PS) (s : PS) : Et × PS :=
  if isP (wAt ws s.at') 6 [125] then (structT [], wholeP ws (takeP s))
  else (structT (comF ws (namedF ws f [58]) 33 [] s).1, wholeP ws (mustQ ws (comF ws (namedF ws f [58]) 33 [] s).2 6 [125]))
def strB (ws : List Wd) (go : Nat → PS → Et × PS) (s : PS) : Et × PS :=
  if (wAt ws s.at').k = 1 then (fieldT (pathF ws s).1, wholeP ws (pathF ws s).2)
  else if isP (wAt ws s.at') 6 [45] then (oneT 3 (go 6 (takeP s)).1, wholeP ws (go 6 (takeP s)).2)
  else if isP (wAt ws s.at') 6 [40] then ((go 0 (takeP s)).1, mustQ ws (go 0 (takeP s)).2 6 [41])
  else if isP (wAt ws s.at') 6 [91] then listF ws (go 0) (takeP s)
  else if isP (wAt ws s.at') 6 [123] then structF ws (go 0) (takeP s)
  else litF ws s
def strF (ws : List Wd) (go : Nat → PS → Et × PS) (s : PS) : Et × PS := ((strB ws go (deepP ws s)).1, backP (strB ws go (deepP ws s)).2)
/- An expression that binds as strongly as a rank, or more strongly; the first number is for the nesting. -/
def pr (ws : List Wd) : Nat → Nat → PS → Et × PS
  | 0, _, s => (zeroT, s)
  | n + 1, rank, s =>
    if rank = 2 then negF ws (pr ws n) s
    else if rank = 3 then cmpF ws (pr ws n 4) s
    else if rank = 6 then strF ws (pr ws n) s
    else loopF ws (pr ws n (rank + 1)) rank ws.length (pr ws n (rank + 1) s)
/- How far a parser went: words taken pay for expressions; a first error leaves the end alone. -/
structure Pk (c e : Nat) (ws : List Wd) (s s' : PS) : Prop where
  lt : s'.at' < ws.length
  ge : s.at' ≤ s'.at'
  ne : s'.ne = s.ne + e
  ex : s'.ex + c + s.at' ≤ s.ex + s'.at'
  er : (s.er ≠ 0 → s.at' + 1 = ws.length) → s'.er ≠ 0 → s'.at' + 1 = ws.length
theorem Pk.refl {ws : List Wd} {s : PS} (h : s.at' < ws.length) : Pk 0 0 ws s s := ⟨h, Nat.le_refl _, rfl, Nat.le_refl _, fun k => k⟩
theorem Pk.trans {c e : Nat} {ws : List Wd} {s t u : PS} (h : Pk c e ws s t) (k : Pk 0 0 ws t u) : Pk c e ws s u := by
  have a1 := h.ge
  have a2 := k.ge
  have a3 := h.ex
  have a4 := k.ex
  exact ⟨k.lt, by omega, by rw [k.ne, h.ne]; rfl, by omega, fun g => k.er (h.er g)⟩
theorem Pk.less {c e : Nat} {ws : List Wd} {s t : PS} (h : Pk (c + 1) e ws s t) : Pk c e ws s t := by
  have a3 := h.ex
  exact ⟨h.lt, h.ge, h.ne, by omega, h.er⟩
theorem Pk.fail {c e : Nat} {ws : List Wd} {s t : PS} (h : Pk c e ws s t) (x : Nat) : Pk c e ws s (failP ws t x) := by
  have a0 := h.lt
  have a1 := h.ge
  have a2 := h.ne
  have a3 := h.ex
  unfold failP
  split
  · exact ⟨by simp only; omega, by simp only; omega, a2, by simp only; omega, fun _ _ => by simp only; omega⟩
  · exact h
theorem Pk.take {c e : Nat} {ws : List Wd} (hz : Wz ws) {s t : PS} (h : Pk c e ws s t) (hk : (wAt ws t.at').k ≠ 0) : Pk (c + 1) e ws s (takeP t) := by
  have a0 := hz.next h.lt hk
  have a1 := h.ge
  have a2 := h.ne
  have a3 := h.ex
  refine ⟨a0, by simp only [takeP]; omega, a2, by simp only [takeP]; omega, fun g k => ?_⟩
  have := h.er g k
  omega
theorem Pk.whole {c e : Nat} {ws : List Wd} {s t : PS} (h : Pk (c + 1) e ws s t) : Pk c e ws s (wholeP ws t) := by
  have h2 : Pk c e ws s { t with ex := t.ex + 1 } := ⟨h.lt, h.ge, h.ne, by have a3 := h.ex; simp only; omega, h.er⟩
  unfold wholeP
  split
  · exact h2.fail 3
  · exact h2
theorem Pk.deep {c e : Nat} {ws : List Wd} {s t : PS} (h : Pk c e ws s t) : Pk c (e + 1) ws s (deepP ws t) := by
  have h2 : Pk c (e + 1) ws s { t with ne := t.ne + 1 } := ⟨h.lt, h.ge, by have a3 := h.ne; simp only; omega, h.ex, h.er⟩
  unfold deepP
  split
  · exact h2.fail 3
  · exact h2
theorem Pk.back {c e : Nat} {ws : List Wd} {s t : PS} (h : Pk c (e + 1) ws s t) : Pk c e ws s (backP t) := ⟨h.lt, h.ge, by have a3 := h.ne; simp only [backP]; omega, h.ex, h.er⟩
theorem isP_kind {x : Wd} {k : Nat} {l : List UInt8} (h : isP x k l = true) : x.k = k := by
  unfold isP at h
  simp only [Bool.and_eq_true, decide_eq_true_eq] at h
  exact h.1
theorem Pk.is {c e : Nat} {ws : List Wd} (hz : Wz ws) {s t : PS} (h : Pk c e ws s t) {k : Nat} {l : List UInt8} (hk : isP (wAt ws t.at') k l = true) (h0 : k ≠ 0) : Pk (c + 1) e ws s (takeP t) := h.take hz (by rw [isP_kind hk]; exact h0)
theorem Pk.must {c e : Nat} {ws : List Wd} (hz : Wz ws) {s t : PS} (h : Pk c e ws s t) {k : Nat} (h0 : k ≠ 0) (l : List UInt8) : Pk c e ws s (mustQ ws t k l) := by
  unfold mustQ
  split
  · rename_i h1; exact (h.is hz h1 h0).less
  · exact h.fail 120
theorem Pk.name {c e : Nat} {ws : List Wd} (hz : Wz ws) {s t : PS} (h : Pk c e ws s t) : Pk c e ws s (nameP ws t) := by
  unfold nameP
  split
  · rename_i h1; exact (h.take hz (by rw [h1]; decide)).less
  · exact h.fail 120
theorem rankI_kind {x : Wd} (h : 0 ≤ rankI x) : x.k ≠ 0 := by
  intro h0
  unfold rankI at h
  rw [h0] at h
  simp at h
theorem Pk.sides {c e : Nat} {ws : List Wd} (hz : Wz ws) {s t : PS} (h : Pk c e ws s t) (hr : 0 ≤ rankI (wAt ws t.at')) {f : PS → Et × PS} (hf : ∀ u, u.at' < ws.length → Pk 0 0 ws u (f u).2) (x : Et) : Pk c e ws s (sidesF ws f x t).2 := by
  have h1 := h.take hz (rankI_kind hr)
  exact (h1.trans (hf _ h1.lt)).whole
theorem Pk.loop {c e : Nat} {ws : List Wd} (hz : Wz ws) {f : PS → Et × PS} (hf : ∀ u, u.at' < ws.length → Pk 0 0 ws u (f u).2) (rank : Nat) {s : PS} : ∀ (n : Nat) (x : Et × PS), Pk c e ws s x.2 → Pk c e ws s (loopF ws f rank n x).2
  | 0, _, h => h
  | n + 1, x, h => by
    unfold loopF
    split
    · rename_i hr
      exact Pk.loop hz hf rank n _ (h.sides hz (by rw [hr]; omega) hf x.1)
    · exact h
theorem Pk.path {c e : Nat} {ws : List Wd} (hz : Wz ws) {s : PS} : ∀ (n : Nat) (l : List ByteArray) (t : PS), Pk c e ws s t → Pk c e ws s (pathL ws n l t).2
  | 0, _, _, h => h
  | n + 1, l, t, h => by
    unfold pathL
    split
    · rename_i h1
      exact Pk.path hz n _ _ ((h.is hz h1 (by decide)).less.name hz)
    · exact h
theorem Pk.commas {α : Type} {c e : Nat} {ws : List Wd} (hz : Wz ws) {one : PS → α × PS} (hf : ∀ u, u.at' < ws.length → Pk 0 0 ws u (one u).2) {s : PS} : ∀ (n : Nat) (l : List α) (t : PS), Pk c e ws s t → Pk c e ws s (comF ws one n l t).2
  | 0, _, _, h => h
  | n + 1, l, t, h => by
    unfold comF
    split
    · exact h.fail 3
    · have h1 := h.trans (hf t h.lt)
      split
      · rename_i h2
        exact Pk.commas hz hf n _ _ (h1.is hz h2 (by decide)).less
      · exact h1
theorem Pk.named {c e : Nat} {ws : List Wd} (hz : Wz ws) {f : PS → Et × PS} (hf : ∀ u, u.at' < ws.length → Pk 0 0 ws u (f u).2) (bt : List UInt8) {s t : PS} (h : Pk c e ws s t) : Pk c e ws s (namedF ws f bt t).2 := by
  have h1 := (h.name hz).must hz (k := 6) (by decide) bt
  exact h1.trans (hf _ h1.lt)
theorem Pk.list {c e : Nat} {ws : List Wd} (hz : Wz ws) {f : PS → Et × PS} (hf : ∀ u, u.at' < ws.length → Pk 0 0 ws u (f u).2) {s t : PS} (h : Pk (c + 1) e ws s t) : Pk c e ws s (listF ws f t).2 := by
  unfold listF
  split
  · rename_i h1; exact (h.is hz h1 (by decide)).whole.less
  · exact ((Pk.commas hz hf 33 [] t h).must hz (by decide) _).whole
theorem Pk.struct {c e : Nat} {ws : List Wd} (hz : Wz ws) {f : PS → Et × PS} (hf : ∀ u, u.at' < ws.length → Pk 0 0 ws u (f u).2) {s t : PS} (h : Pk (c + 1) e ws s t) : Pk c e ws s (structF ws f t).2 := by
  unfold structF
  split
  · rename_i h1; exact (h.is hz h1 (by decide)).whole.less
  · exact ((Pk.commas hz (fun u hu => Pk.named hz hf [58] (Pk.refl hu)) 33 [] t h).must hz (by decide) _).whole
theorem litV_kind {x : Wd} {v : Nat × Bool × Int × ByteArray} (h : litV x = some v) : x.k ≠ 0 := by
  intro h0
  unfold litV at h
  rw [h0] at h
  simp at h
theorem Pk.lit {c e : Nat} {ws : List Wd} (hz : Wz ws) {s t : PS} (h : Pk c e ws s t) : Pk c e ws s (litF ws t).2 := by
  unfold litF
  split
  · rename_i h1; exact (h.take hz (litV_kind h1)).whole
  · exact h.fail 120
theorem Pk.isNull {c e : Nat} {ws : List Wd} (hz : Wz ws) (x : Et) {s t : PS} (h : Pk (c + 1) e ws s t) : Pk c e ws s (isNullF ws x t).2 := by
  unfold isNullF
  split
  · rename_i h1; exact ((h.is hz h1 (by decide)).must hz (by decide) _).whole.whole
  · exact (h.must hz (by decide) _).whole
theorem Pk.str {c e : Nat} {ws : List Wd} (hz : Wz ws) {go : Nat → PS → Et × PS} (hf : ∀ r u, u.at' < ws.length → Pk 0 0 ws u (go r u).2) {s t : PS} (h : Pk c e ws s t) : Pk c e ws s (strB ws go t).2 := by
  unfold strB
  split
  · rename_i h1
    refine Pk.whole ?_
    unfold pathF
    refine Pk.path hz _ _ _ ?_
    unfold nameP
    rw [if_pos h1]
    exact h.take hz (by rw [h1]; decide)
  split
  · rename_i h1
    have h2 := h.is hz h1 (by decide)
    exact (h2.trans (hf _ _ h2.lt)).whole
  split
  · rename_i h1
    have h2 := h.is hz h1 (by decide)
    exact ((h2.trans (hf _ _ h2.lt)).must hz (by decide) _).less
  split
  · rename_i h1; exact Pk.list hz (hf 0) (h.is hz h1 (by decide))
  split
  · rename_i h1; exact Pk.struct hz (hf 0) (h.is hz h1 (by decide))
  · exact h.lit hz
theorem pr_ok {ws : List Wd} (hz : Wz ws) : ∀ (n rank : Nat) (s : PS), s.at' < ws.length → Pk 0 0 ws s (pr ws n rank s).2
  | 0, _, _, h => Pk.refl h
  | n + 1, rank, s, h => by
    have ih := fun r u hu => pr_ok hz n r u hu
    unfold pr
    split
    · unfold negF
      split
      · rename_i h1
        have h2 : Pk 1 1 ws s (notS ws s) := by
          by_cases h3 : isP (wAt ws (deepP ws s).at') 2 [78, 79, 84] = true
          · unfold notS mustQ
            rw [if_pos h3]
            exact (Pk.refl h).deep.is hz h3 (by decide)
          · have h4 := hz.next h (by rw [isP_kind h1]; decide)
            have h5 : (deepP ws s).at' = s.at' ∨ (deepP ws s).at' + 1 = ws.length := by
              unfold deepP failP
              split
              · split
                · right; simp only; omega
                · left; rfl
              · left; rfl
            rcases h5 with h5 | h5
            · rw [h5] at h3; exact absurd h1 h3
            · have h6 := (Pk.refl h).deep
              have h7 : Pk 1 1 ws s (deepP ws s) := by
                refine ⟨h6.lt, h6.ge, h6.ne, ?_, h6.er⟩
                have h8 : (deepP ws s).ex = s.ex := by
                  unfold deepP failP
                  split
                  · split
                    · rfl
                    · rfl
                  · rfl
                omega
              exact h7.must hz (by decide) _
        exact (h2.trans (ih _ _ h2.lt)).whole.back
      · exact ih _ _ h
    split
    · unfold cmpF cmpI
      have h1 := ih 4 s h
      have h2 : Pk 0 0 ws s (cmpS ws (pr ws n 4) (pr ws n 4 s)).2 := by
        unfold cmpS
        split
        · rename_i hr; exact h1.sides hz (by rw [hr]; decide) (ih 4) _
        · exact h1
      split
      · rename_i h3; exact Pk.isNull hz _ (h2.is hz h3 (by decide))
      · exact h2
    split
    · exact (Pk.str hz ih (Pk.refl h).deep).back
    · exact Pk.loop hz (ih _) rank _ _ (ih _ s h)
end Go.Proofs.YtfemippjaokcmaaGreatDoor
namespace Go.Proofs.YtfemippjaokcmaaGreatDoor
open Go.RowKit Go.Shelf
attribute [local go_sem] Oper.semAt_some fw0 fw1 fw2
theorem toList_go (a : ByteArray) : ∀ (n i : Nat) (r : List UInt8), a.size - i = n → ByteArray.toList.loop a i r = r.reverse ++ a.data.toList.drop i
  | 0, i, r, h => by
    unfold ByteArray.toList.loop
    have h1 : ¬ i < a.size := by omega
    rw [if_neg h1, List.drop_of_length_le (by have : a.data.toList.length = a.size := rfl; omega), List.append_nil]
  | n + 1, i, r, h => by
    unfold ByteArray.toList.loop
    have h1 : i < a.size := by omega
    have h2 : i < a.data.toList.length := h1
    rw [if_pos h1, toList_go a n (i + 1) _ (by omega), List.reverse_cons, List.append_assoc, List.drop_eq_getElem_cons h2]
    congr 2
    rw [List.singleton_append]
    congr 1
    show a.data[i]! = _
    rw [getElem!_pos a.data i h1]
    rfl
theorem toList_data (a : ByteArray) : a.toList = a.data.toList := by
  unfold ByteArray.toList
  rw [toList_go a _ 0 [] rfl]
  rfl
theorem wdS_list (x : Wd) : (wdS x).toList = x.s := by rw [toList_data]; rfl
theorem isW_isP (x : Wd) (k : Nat) (l : List UInt8) : isW x k ⟨l.toArray⟩ = isP x k l := by
  unfold isW isP
  rw [wdS_list, toList_data]
theorem mustP_mustQ (ws : List Wd) (s : PS) (k : Nat) (l : List UInt8) : mustP ws s k ⟨l.toArray⟩ = mustQ ws s k l := by
  unfold mustP mustQ
  rw [isW_isP]
set_option maxRecDepth 100000 in
set_option maxHeartbeats 4000000 in
theorem keyRank_any (t : ByteArray) (w : World) : Calls Tryz.prog 186 #[.string t] w fun r w' => r = .returned (.int .i64 (keyR t.toList)) ∧ w' = w := by
  go_enter Tryz.func186, Tryz.ntmps186
  go_wp2
  all_goals
    go_ret
    refine ⟨?_, rfl⟩
    unfold keyR
    simp_all
set_option maxRecDepth 100000 in
set_option maxHeartbeats 4000000 in
theorem signRank_any (t : ByteArray) (w : World) : Calls Tryz.prog 187 #[.string t] w fun r w' => r = .returned (.int .i64 (signR t.toList)) ∧ w' = w := by
  go_enter Tryz.func187, Tryz.ntmps187
  go_wp2
  all_goals
    go_ret
    refine ⟨?_, rfl⟩
    unfold signR
    simp_all
set_option maxRecDepth 100000 in
set_option maxHeartbeats 4000000 in
theorem rank_any (x : Wd) (w : World) : Calls Tryz.prog 165 #[wdV x] w fun r w' => r = .returned (.int .i64 (rankI x)) ∧ Below w.heap.size w w' := by
  unfold wdV rankI
  have kk := fun W => keyRank_any (wdS x) W
  have ks := fun W => signRank_any (wdS x) W
  rw [wdS_list] at kk ks
  obtain ⟨kr, hkr⟩ : ∃ kr, keyR x.s = kr := ⟨_, rfl⟩
  obtain ⟨sr, hsr⟩ : ∃ sr, signR x.s = sr := ⟨_, rfl⟩
  rw [hkr] at kk ⊢
  rw [hsr] at ks ⊢
  obtain ⟨xk, hxk⟩ : ∃ xk, x.k = xk := ⟨_, rfl⟩
  obtain ⟨xa, hxa⟩ : ∃ xa, (x.a : Int) = xa := ⟨_, rfl⟩
  obtain ⟨xt, hxt⟩ : ∃ xt, wdS x = xt := ⟨_, rfl⟩
  rw [hxt] at kk ks ⊢
  rw [hxk, hxa]
  clear hkr hsr hxk hxa hxt
  by_cases h2 : xk = 2
  · subst h2
    rw [if_pos rfl]
    go_enter Tryz.func165, Tryz.ntmps165
    go_wp2_with fail
    refine (kk _).mono ?_
    rintro q w1 ⟨rfl, rfl⟩
    clear kk ks
    go_wp2
    go_ret
    exact ⟨rfl, (Below.refl _ _).alloc (Nat.le_refl _) _⟩
  · rw [if_neg h2]
    have h2' : ¬ ((xk : Int) = 2) := by omega
    by_cases h6 : xk = 6
    · subst h6
      rw [if_pos rfl]
      go_enter Tryz.func165, Tryz.ntmps165
      go_wp2_with fail
      refine (ks _).mono ?_
      rintro q w1 ⟨rfl, rfl⟩
      clear kk ks
      go_wp2
      go_ret
      exact ⟨rfl, (Below.refl _ _).alloc (Nat.le_refl _) _⟩
    · rw [if_neg h6]
      have h6' : ¬ ((xk : Int) = 6) := by omega
      go_enter Tryz.func165, Tryz.ntmps165
      go_wp2
      go_ret
      exact ⟨rfl, (Below.refl _ _).alloc (Nat.le_refl _) _⟩
end Go.Proofs.YtfemippjaokcmaaGreatDoor
