/- Expressions that are turned into the document's (Expr): what lies where. -/
import Derived.Test.YtcniebkehekliaaGreatDoorRfl
namespace Go.Proofs.YtcniebkehekliaaGreatDoor
open Go.RowKit Go.Shelf
attribute [local go_sem] Oper.semAt_some
def EExd (d : Nat) (w : World) (S : Nat → Prop) (t : Et) (c : List Value) : Prop := LiesE w S d t (.agg c.toArray)
theorem eExd (d : Nat) : Elem (EExd d) 10 := ⟨fun h hS => LiesE.since hS h, fun hS h => LiesE.imp hS h, fun h => eExp.len ⟨d, h⟩, fun h => eExp.ones ⟨d, h⟩⟩
theorem exd_row {d : Nat} {w : World} {S : Nat → Prop} : ∀ {l : List Et} {L : List Value}, Els (EExd d) w S l L → ∀ i x, l[i]? = some x → LiesE w S d x (row10 fun j => L.getD (i * 10 + j) undef)
  | [], _, _, i, x, h => by simp at h
  | y :: l, _, ⟨c, r, h1, h2, h3⟩, i, x, hi => by
    have hlen := (eExd d).len h2
    subst h1
    cases i with
    | zero =>
      have e : y = x := by simpa using hi
      subst e
      match c, hlen with
      | [a0, a1, a2, a3, a4, a5, a6, a7, a8, a9], _ => exact h2
    | succ i =>
      have h := exd_row h3 i x (by simpa using hi)
      have e : (fun j => (c ++ r).getD ((i + 1) * 10 + j) undef) = fun j => r.getD (i * 10 + j) undef := by
        funext j
        rw [List.getD_eq_getElem?_getD, List.getD_eq_getElem?_getD, List.getElem?_append_right (by omega), hlen]
        have e2 : (i + 1) * 10 + j - 10 = i * 10 + j := by omega
        rw [e2]
      rw [e]
      exact h
theorem kds_own44 {w : World} {base n : Nat} {v : Value} {L : List Value} {S : Nat → Prop} (h : w.ownsRow base 44 10 v n L) (hS : ∀ k, base ≤ k → S k) : ∃ kp kc, v = .slice kp n kc ∧ Kds w S kp n kc (fun i j => L.getD (i * 10 + j) undef) := by
  rcases h.2 with ⟨hv, hn⟩ | ⟨g, cap, cur, hv, hg, hr, h1, h2, h3, h4⟩
  · refine ⟨none, 0, by rw [hv, hn], ?_⟩
    rw [hn]
    exact Kds.none _ _ _
  · refine ⟨_, _, hv, ⟨h1, h2⟩, fun _ => ⟨g, 0, rfl, hS g hg, lt_of_row hr, fun i hi j hj => ?_⟩⟩
    rw [cell_of_row w g _ cur _ _ hr]
    have hlt : i * 10 + j < L.length := by rw [h.1]; omega
    have e : L[i * 10 + j]? = some (L.getD (i * 10 + j) undef) := by
      rw [List.getD_eq_getElem?_getD, List.getElem?_eq_getElem hlt]; rfl
    rw [← e, ← h4, List.getElem?_take]
    have hlt2 : i * 10 + j < n * 10 := by rw [← h.1]; exact hlt
    rw [if_pos hlt2]
    simp
def arrY (R : XR) (v : Value) : Array Value := #[.int .i64 R.k, .string R.s, .int .i64 R.vk, .bool R.vb, .int .i64 R.vn, .string R.vs, .slice none 0 0, .slice none 0 0, v, .slice R.np R.m R.nc]
/- Blocks that are left as they are while an expression is turned. -/
def SX (S : Nat → Prop) (w : World) (g : Nat) (v : Value) (k : Nat) : Prop := (S k ∧ k < w.heap.size) ∨ (g < k ∧ v.ownBlock ≠ some k)
structure Xs (w W : World) (g : Nat) (R : XR) (S : Nat → Prop) (d : Nat) (t : Et) (i : Nat) (v : Value) : Prop where
  hb : Below w.heap.size w W
  rx : W.heap[w.heap.size]? = some (.cells (arrX R) 28 (0, 0))
  rz : W.heap[w.heap.size + 1]? = some (.cells zero10 44 (0, 0))
  ry : W.heap[g]? = some (.cells (arrY R v) 44 (0, 0))
  gt : w.heap.size + 2 ≤ g
  own : ∃ L, W.ownsRow (g + 1) 44 10 v i L ∧ Els (EExd d) W (SX S w g v) ((List.range i).map t.sub) L
theorem own_set {w : World} {base T z n g o : Nat} {v u : Value} {L : List Value} (h : w.ownsRow base T z v n L) (hg : g < base) : (w.setCell ⟨g, o, none⟩ u).ownsRow base T z v n L := by
  refine ⟨h.1, ?_⟩
  rcases h.2 with hn | ⟨b, cap, cur, hv, hb, hr, rest⟩
  · exact .inl hn
  · exact .inr ⟨b, cap, cur, hv, hb, (Below.heap_setCell _ _ _ b (by show b ≠ g; omega)).trans hr, rest⟩
theorem Xs.more {w wr W w5 : World} {g : Nat} {R : XR} {S : Nat → Prop} {d : Nat} {t : Et} {i : Nat} {v v' : Value} {L : List Value} {A : Array Value} (h : Xs w wr g R S d t i v) (hL : wr.ownsRow (g + 1) 44 10 v i L) (hE : Els (EExd d) wr (SX S w g v) ((List.range i).map t.sub) L) (hW : Below wr.heap.size wr W)
    (hx : LiesE W (fun k => (S k ∧ k < w.heap.size) ∨ wr.heap.size ≤ k) d (t.sub i) (.agg A)) (ho : w5.ownsRow (g + 1) 44 10 v' (i + 1) (L ++ A.toList)) (hg : W.grownBy w5 v.ownBlock) (ha : v'.ownBlock = v.ownBlock ∨ v'.ownBlock = some W.heap.size) : Xs w (w5.setCell ⟨g, 8, none⟩ v') g R S d t (i + 1) v' := by
  have hgl := lt_of_row h.ry
  have hgt := h.gt
  have hws := hW.size
  have hown : ∀ k, v.ownBlock = some k → g + 1 ≤ k ∧ k < wr.heap.size := fun k hk => hL.lt k hk
  have hkeep : ∀ k, k < W.heap.size → v.ownBlock ≠ some k → k ≠ g → (w5.setCell ⟨g, 8, none⟩ v').heap[k]? = W.heap[k]? := fun k hk hv hkg => (Below.heap_setCell _ _ _ k hkg).trans (hg.block k hk (fun e => hv e.symm))
  have s5 : (w5.setCell ⟨g, 8, none⟩ v').heap.size = w5.heap.size := by simp [World.setCell]
  have hsz := hg.size
  have hold : ∀ k, k < wr.heap.size → k ≤ g → k ≠ g → (w5.setCell ⟨g, 8, none⟩ v').heap[k]? = wr.heap[k]? := fun k hk hkg hne => (hkeep k (by omega) (fun e => by have := hown k e; omega) hne).trans (hW.block k hk)
  refine ⟨?_, (hold _ (by omega) (by omega) (by omega)).trans h.rx, (hold _ (by omega) (by omega) (by omega)).trans h.rz, ?_, hgt, L ++ A.toList, own_set ho (Nat.lt_succ_self _), ?_⟩
  · have hB := h.hb.trans (hW.mono h.hb.size)
    have hB5 : Below w.heap.size w w5 := hB.grown hg (by have := h.hb.size; omega) (fun k hk => by have := hown k hk; omega)
    exact hB5.setCell (by show w.heap.size ≤ g; omega) _
  · have r5 : w5.heap[g]? = some (.cells (arrY R v) 44 (0, 0)) := ((hg.block g (by omega) (fun e => by have := hown g e.symm; omega)).trans (hW.block g hgl)).trans h.ry
    rw [heap_setCell_same w5 g 8 _ _ v' r5]
    rfl
  · rw [List.range_succ, List.map_append, List.map_singleton]
    have hS1 : Since (SX S w g v) wr W := ⟨hws, fun k _ hl => hW.block k hl⟩
    have e1 : EExd d W (SX S w g v) (t.sub i) A.toList := by
      refine LiesE.imp (fun k hk hl => ?_) hx
      rcases hk with hk | hk
      · exact Or.inl hk
      · exact Or.inr ⟨by omega, fun e => by have := hown k e; omega⟩
    have a0 := Els.app e1 (Els.since (eExd d) hS1 hE)
    have a1 := Els.imp (eExd d) (R := fun k => SX S w g v k ∧ k < W.heap.size) (fun k hk hl => ⟨hk, hl⟩) a0
    have hS2 : Since (fun k => SX S w g v k ∧ k < W.heap.size) W (w5.setCell ⟨g, 8, none⟩ v') := ⟨by omega, fun k hk hl => by
      rcases hk.1 with h1 | h1
      · exact hkeep k hl (fun e => by have := hown k e; omega) (by omega)
      · exact hkeep k hl h1.2 (by omega)⟩
    refine Els.imp (eExd d) (fun k hk _ => ?_) (a1.since (eExd d) hS2)
    rcases hk.1 with h1 | h1
    · exact Or.inl h1
    · refine Or.inr ⟨h1.1, ?_⟩
      rcases ha with ha | ha
      · rw [ha]; exact h1.2
      · rw [ha]; intro e; injection e with e; have := hk.2; omega
/- What Expr answers. -/
def GivesX (S : Nat → Prop) (w : World) (d : Nat) (t : Et) (r : Ending) (w' : World) : Prop := ∃ A, r = .returned (.agg A) ∧ LiesE w' (fun k => S k ∨ w.heap.size ≤ k) d t (.agg A) ∧ Below w.heap.size w w'
theorem Xs.done {w W : World} {g : Nat} {R : XR} {S : Nat → Prop} {d : Nat} {t : Et} {v : Value} (h : Xs w W g R S d t R.n v) (hx : LiesE w S (d + 1) t (rowX R)) : GivesX S w (d + 1) t (.returned (.agg (arrY R v))) (put W (w.heap.size + 1) (arrY R v)) := by
  have hgt := h.gt
  obtain ⟨L, hL, hE⟩ := h.own
  have hbo : Below w.heap.size w (put W (w.heap.size + 1) (arrY R v)) := put_below h.hb _ (by omega) _
  refine ⟨_, rfl, ?_, hbo⟩
  obtain ⟨kp, kc, np, nc, K, e, hN, -, -⟩ := hx
  unfold rowX enV at e
  injection e with e
  have e' := congrArg Array.toList e
  simp only [List.cons.injEq, Value.int.injEq, Value.string.injEq, Value.slice.injEq, Value.bool.injEq] at e'
  obtain ⟨h1, h2, h3, h4, h5, h6, h7, h8, h9, h10, -⟩ := e'
  have hL2 : (put W (w.heap.size + 1) (arrY R v)).ownsRow (g + 1) 44 10 v R.n L := by
    refine ⟨hL.1, ?_⟩
    rcases hL.2 with hn | ⟨b, cap, cur, hv, hb, hr, rest⟩
    · exact .inl hn
    · exact .inr ⟨b, cap, cur, hv, hb, (put_other (by omega) _).trans hr, rest⟩
  obtain ⟨kq, kd, rfl, hK⟩ := kds_own44 (S := fun k => S k ∨ w.heap.size ≤ k) hL2 (fun k hk => Or.inr (by omega))
  have hS : Since (SX S w g (.slice kq R.n kd)) W (put W (w.heap.size + 1) (arrY R (.slice kq R.n kd))) := ⟨Nat.le_of_eq (put_size _ _ _).symm, fun k hk _ => put_other (fun e => by rcases hk with hk | hk <;> omega) _⟩
  have hE2 := Els.imp (eExd d) (R := fun k => S k ∨ w.heap.size ≤ k) (fun k hk _ => by rcases hk with hk | hk; exact Or.inl hk.1; exact Or.inr (by omega)) (hE.since (eExd d) hS)
  refine ⟨kq, kd, R.np, R.nc, fun i j => L.getD (i * 10 + j) undef, ?_, ?_, ?_, fun i hi => ?_⟩
  · unfold arrY enV
    rw [h1.2, h2, h3.2, h4, h5.2, h6, h9.2.1, h10.2.1]
  · rw [h10.1, h10.2.2]
    exact (hN.since (Since.below hbo)).imp fun k hk _ => Or.inl hk
  · rw [← h9.2.1]
    exact hK
  · rw [← h9.2.1] at hi
    exact exd_row hE2 i _ (by simp [hi])
def NwP (B T : Nat) (cs : Array Value) (v : Value) (W : World) : Prop := ∃ g, v = .pointer (some ⟨g, 0, none⟩) ∧ B ≤ g ∧ W.heap[g]? = some (.cells cs T (0, 0))
theorem NwP.later {B T : Nat} {cs : Array Value} : ∀ v W W', NwP B T cs v W → Below W.heap.size W W' → NwP B T cs v W' := fun _ _ _ ⟨g, h1, h2, h3⟩ hb => ⟨g, h1, h2, (hb.block g (lt_of_row h3)).trans h3⟩
def AgV (S : Nat → Prop) (d : Nat) (t : Et) (v : Value) (W : World) : Prop := ∃ A, v = .agg A ∧ LiesE W S d t (.agg A)
theorem AgV.later {S : Nat → Prop} {d : Nat} {t : Et} : ∀ v W W', AgV S d t v W → Below W.heap.size W W' → AgV S d t v W' := fun _ _ _ ⟨A, h1, h2⟩ hb => ⟨A, h1, h2.since (Since.below hb)⟩
def OnV (S : Nat → Prop) (d : Nat) (t : Et) (v : Value) (W : World) : Prop := ∃ g A, v = .slice (some ⟨g, 0, none⟩) 1 1 ∧ W.heap[g]? = some (.cells A 44 (0, 0)) ∧ LiesE W S d t (.agg A)
theorem OnV.later {S : Nat → Prop} {d : Nat} {t : Et} : ∀ v W W', OnV S d t v W → Below W.heap.size W W' → OnV S d t v W' := fun _ _ _ ⟨g, A, h1, h2, h3⟩ hb => ⟨g, A, h1, (hb.block g (lt_of_row h2)).trans h2, h3.since (Since.below hb)⟩
theorem info44 : (Tryz.prog.info? 44).map (·.size) = some 10 := by kernel_rfl
theorem info44c : (Tryz.prog.info? 44).map (fun i => (i.zero, i.size, i.bytes)) = some (some (.agg #[.int .i64 0, .string ⟨#[]⟩, .int .i64 0, .bool false, .int .i64 0, .string ⟨#[]⟩, .slice none 0 0, .slice none 0 0, .slice none 0 0, .slice none 0 0]), 10, 160) := by kernel_rfl
theorem i44 {V : Array Value} (h : V.size = 10) : (Tryz.prog.info? 44).map (·.size) = some V.size := info44.trans (congrArg some h.symm)
end Go.Proofs.YtcniebkehekliaaGreatDoor
