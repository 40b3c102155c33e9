/- A statement's block while it is parsed (Sb), beside the parser. -/
import Derived.Test.YtcniebkehekliaaGreatDoorBou
namespace Go.Proofs.YtcniebkehekliaaGreatDoor
open Go.RowKit Go.Shelf
/- A statement, as it is meant. -/
structure Sm where
  k : Nat
  t : ByteArray
  f : ByteArray
  v : Et
  nm : List ByteArray
  ex : List Et
  wh : Et
  cl : List ByteArray
  cn : Bool
  hi : Bool
  od : ByteArray
  de : Bool
  li : Int
def Sm.zero : Sm := ⟨0, ⟨#[]⟩, ⟨#[]⟩, zeroT, [], [], zeroT, [], false, false, ⟨#[]⟩, false, 0⟩
def Sm.new : Sm := { Sm.zero with li := -1 }
/- Its cells. -/
structure SR where
  k : Int
  t : ByteArray
  f : ByteArray
  v : XR
  nm : Value
  ex : Value
  wh : XR
  cl : Value
  cn : Bool
  hi : Bool
  od : ByteArray
  de : Bool
  li : Int
def stA (R : SR) : Array Value := #[.int .i64 R.k, .string R.t, .string R.f, .int .i64 R.v.k, .string R.v.s, .int .i64 R.v.vk, .bool R.v.vb, .int .i64 R.v.vn, .string R.v.vs, .slice none 0 0, .slice none 0 0, .slice R.v.kp R.v.n R.v.kc, .slice R.v.np R.v.m R.v.nc, R.nm, R.ex, .int .i64 R.wh.k, .string R.wh.s, .int .i64 R.wh.vk, .bool R.wh.vb, .int .i64 R.wh.vn, .string R.wh.vs, .slice none 0 0, .slice none 0 0, .slice R.wh.kp R.wh.n R.wh.kc, .slice R.wh.np R.wh.m R.wh.nc, R.cl, .bool R.cn, .bool R.hi, .string R.od, .bool R.de, .int .i64 R.li]
/- Names, expressions in a list: where they lie. -/
def NmL (w : World) (S : Nat → Prop) (l : List ByteArray) (v : Value) : Prop := ∃ p c, v = .slice p l.length c ∧ Nms w S p l.length c (fun i => l.getD i ⟨#[]⟩)
def ExL (w : World) (S : Nat → Prop) (l : List Et) (v : Value) : Prop := ∃ p c K d, v = .slice p l.length c ∧ Kds w S p l.length c K ∧ ∀ i, i < l.length → LiesE w S d (l.getD i zeroT) (row10 (K i))
theorem NmL.since {w w' : World} {S : Nat → Prop} {l : List ByteArray} {v : Value} (h : NmL w S l v) (hS : Since S w w') : NmL w' S l v := by
  obtain ⟨p, c, h1, h2⟩ := h
  exact ⟨p, c, h1, h2.since hS⟩
theorem NmL.imp {w : World} {R S : Nat → Prop} {l : List ByteArray} {v : Value} (hab : ∀ k, S k → k < w.heap.size → R k) (h : NmL w S l v) : NmL w R l v := by
  obtain ⟨p, c, h1, h2⟩ := h
  exact ⟨p, c, h1, h2.imp hab⟩
theorem ExL.since {w w' : World} {S : Nat → Prop} {l : List Et} {v : Value} (h : ExL w S l v) (hS : Since S w w') : ExL w' S l v := by
  obtain ⟨p, c, K, d, h1, h2, h3⟩ := h
  exact ⟨p, c, K, d, h1, h2.since hS, fun i hi => (h3 i hi).since hS⟩
theorem ExL.imp {w : World} {R S : Nat → Prop} {l : List Et} {v : Value} (hab : ∀ k, S k → k < w.heap.size → R k) (h : ExL w S l v) : ExL w R l v := by
  obtain ⟨p, c, K, d, h1, h2, h3⟩ := h
  exact ⟨p, c, K, d, h1, h2.imp hab, fun i hi => (h3 i hi).imp hab⟩
theorem NmL.none (w : World) (S : Nat → Prop) : NmL w S [] (.slice Option.none 0 0) := ⟨Option.none, 0, rfl, Nms.none _ _ _⟩
theorem ExL.none (w : World) (S : Nat → Prop) : ExL w S [] (.slice Option.none 0 0) := ⟨Option.none, 0, fun _ _ => undef, 0, rfl, Kds.none _ _ _, fun _i hi => absurd hi (Nat.not_lt_zero _)⟩
structure Sx (w : World) (S : Nat → Prop) (R : SR) (M : Sm) : Prop where
  k : R.k = (M.k : Int)
  t : R.t = M.t
  f : R.f = M.f
  v : ∃ d, LiesE w S d M.v (rowX R.v)
  nm : NmL w S M.nm R.nm
  ex : ExL w S M.ex R.ex
  wh : ∃ d, LiesE w S d M.wh (rowX R.wh)
  cl : NmL w S M.cl R.cl
  cn : R.cn = M.cn
  hi : R.hi = M.hi
  od : R.od = M.od
  de : R.de = M.de
  li : R.li = M.li
theorem Sx.since {w w' : World} {S : Nat → Prop} {R : SR} {M : Sm} (h : Sx w S R M) (hS : Since S w w') : Sx w' S R M :=
  ⟨h.k, h.t, h.f, h.v.imp fun _ k => k.since hS, h.nm.since hS, h.ex.since hS, h.wh.imp fun _ k => k.since hS, h.cl.since hS, h.cn, h.hi, h.od, h.de, h.li⟩
theorem Sx.imp {w : World} {Q S : Nat → Prop} {R : SR} {M : Sm} (hab : ∀ k, S k → k < w.heap.size → Q k) (h : Sx w S R M) : Sx w Q R M :=
  ⟨h.k, h.t, h.f, h.v.imp fun _ k => k.imp hab, h.nm.imp hab, h.ex.imp hab, h.wh.imp fun _ k => k.imp hab, h.cl.imp hab, h.cn, h.hi, h.od, h.de, h.li⟩
/- The statement's block x, the parser's block b. -/
structure Sb (S : Nat → Prop) (b : Nat) (p : Option Addr) (c : Nat) (ws : List Wd) (x : Nat) (w0 w : World) (M : Sm) (s : PS) : Prop where
  row : ∃ R, w.heap[x]? = some (.cells (stA R) 30 (0, 0)) ∧ Sx w S R M
  ps : Ps w b p c ws s
  os : w.os = w0.os
  tape : w.tape = w0.tape
  output : w.output = w0.output
  size : w0.heap.size ≤ w.heap.size
  block : ∀ k, k < w0.heap.size → k ≠ b → k ≠ x → w.heap[k]? = w0.heap[k]?
  bx : b < x ∧ x < w0.heap.size
  old : ∀ g, p = some ⟨g, 0, none⟩ → g < x
  no : ¬ S b ∧ ¬ S x
  new : ∀ k, w0.heap.size ≤ k → S k
theorem Sb.self {S : Nat → Prop} {b : Nat} {p : Option Addr} {c : Nat} {ws : List Wd} {x : Nat} {w0 w : World} {M : Sm} {s : PS} (h : Sb S b p c ws x w0 w M s) : Sb S b p c ws x w w M s :=
  ⟨h.row, h.ps, rfl, rfl, rfl, Nat.le_refl _, fun _ _ _ _ => rfl, ⟨h.bx.1, Nat.lt_of_lt_of_le h.bx.2 h.size⟩, h.old, h.no, fun k hk => h.new k (Nat.le_trans h.size hk)⟩
theorem Sb.trans {S : Nat → Prop} {b : Nat} {p : Option Addr} {c : Nat} {ws : List Wd} {x : Nat} {w0 w1 w2 : World} {M N : Sm} {s t : PS} (h : Sb S b p c ws x w0 w1 M s) (k : Sb S b p c ws x w1 w2 N t) : Sb S b p c ws x w0 w2 N t :=
  ⟨k.row, k.ps, k.os.trans h.os, k.tape.trans h.tape, k.output.trans h.output, Nat.le_trans h.size k.size, fun j hj hb hx => (k.block j (Nat.lt_of_lt_of_le hj h.size) hb hx).trans (h.block j hj hb hx), h.bx, h.old, h.no, h.new⟩
/- A call of the parser's. -/
theorem Sb.calls {S : Nat → Prop} {b : Nat} {p : Option Addr} {c : Nat} {ws : List Wd} {x : Nat} {w0 w w2 : World} {M : Sm} {s s2 : PS} (h : Sb S b p c ws x w0 w M s) (hO : Onl b w w2) (hP : Ps w2 b p c ws s2) : Sb S b p c ws x w0 w2 M s2 := by
  obtain ⟨R, h1, h2⟩ := h.row
  have hb := h.bx
  have hs := h.size
  exact ⟨⟨R, (hO.block x (lt_of_row h1) (by omega)).trans h1, h2.since (Since.onl hO h.no.1)⟩, hP, hO.os.trans h.os, hO.tape.trans h.tape, hO.output.trans h.output, Nat.le_trans h.size hO.size, fun k hk hb hx => (hO.block k (by omega) hb).trans (h.block k hk hb hx), h.bx, h.old, h.no, h.new⟩
/- A store into the statement. -/
theorem Sb.store {S : Nat → Prop} {b : Nat} {p : Option Addr} {c : Nat} {ws : List Wd} {x : Nat} {w0 w w2 : World} {M N : Sm} {s : PS} (h : Sb S b p c ws x w0 w M s) {R2 : SR} (hr : w2.heap[x]? = some (.cells (stA R2) 30 (0, 0))) (hb : Below x w w2) (ho : ∀ j, j ≠ x → w2.heap[j]? = w.heap[j]?) (hx : Sx w S R2 N) : Sb S b p c ws x w0 w2 N s := by
  have hbx := h.bx
  refine ⟨⟨R2, hr, hx.since ⟨hb.size, fun k hk _ => ho k (fun e => h.no.2 (e ▸ hk))⟩⟩, h.ps.kept (z := x) hbx.1 h.old ho hb.size, hb.os.trans h.os, hb.tape.trans h.tape, hb.output.trans h.output, Nat.le_trans h.size hb.size, fun k hk kb kx => (ho k kx).trans (h.block k hk kb kx), h.bx, h.old, h.no, h.new⟩
theorem Sb.cell {S : Nat → Prop} {b : Nat} {p : Option Addr} {c : Nat} {ws : List Wd} {x : Nat} {w0 w : World} {M N : Sm} {s : PS} (h : Sb S b p c ws x w0 w M s) {R R2 : SR} (hr : w.heap[x]? = some (.cells (stA R) 30 (0, 0))) (i : Nat) (v : Value) (hA : (stA R).setIfInBounds i v = stA R2) (hx : Sx w S R2 N) : Sb S b p c ws x w0 (w.setCell ⟨x, i, none⟩ v) N s := by
  refine h.store (R2 := R2) ?_ ((Below.refl x w).setCell (p := ⟨x, i, none⟩) (Nat.le_refl _) v) (fun j hj => Below.heap_setCell _ _ _ j hj) hx
  rw [← hA]
  exact heap_setCell_same w x i _ _ v hr
def setAll (cs : Array Value) : Nat → List Value → Array Value
  | _, [] => cs
  | o, v :: r => setAll (cs.setIfInBounds o v) (o + 1) r
theorem heap_setCells_mid (g : Nat) (t : TypeId) : ∀ (vs : List Value) (o : Nat) (W : World) (cs : Array Value), W.heap[g]? = some (.cells cs t (0, 0)) → (W.setCells g o vs).heap[g]? = some (.cells (setAll cs o vs) t (0, 0))
  | [], _, _, _, h => h
  | v :: r, o, W, cs, h => heap_setCells_mid g t r (o + 1) _ _ (heap_setCell_same W g o cs t v h)
theorem Sb.cells {S : Nat → Prop} {b : Nat} {p : Option Addr} {c : Nat} {ws : List Wd} {x : Nat} {w0 w : World} {M N : Sm} {s : PS} (h : Sb S b p c ws x w0 w M s) {R R2 : SR} (hr : w.heap[x]? = some (.cells (stA R) 30 (0, 0))) (o : Nat) (vs : List Value) (hA : setAll (stA R) o vs = stA R2) (hx : Sx w S R2 N) : Sb S b p c ws x w0 (w.setCells x o vs) N s := by
  refine h.store (R2 := R2) ?_ (below_setCells' (Nat.le_refl _) vs o w (Below.refl x w)) (fun j hj => heap_setCells_else x j hj vs o w) hx
  rw [← hA]
  exact heap_setCells_mid x 30 vs o w _ hr
theorem setAll_wh (R : SR) (Q : XR) : setAll (stA R) 15 (arrX Q).toList = stA { R with wh := Q } := by kernel_rfl
theorem setAll_v (R : SR) (Q : XR) : setAll (stA R) 3 (arrX Q).toList = stA { R with v := Q } := by kernel_rfl
theorem there_mid {w : World} {z : Nat} {cs : Array Value} {t : TypeId} (h : w.heap[z]? = some (.cells cs t (0, 0))) {o n : Nat} (hn : o + n ≤ cs.size) : w.there z o n := by
  intro j hj
  refine ⟨?_, frozen_of_row w _ (o + j) _ _ h⟩
  rw [cell_of_row w z (o + j) cs t _ h]
  simp
  omega
/- What a store of an expression's ten cells asks, at the list of a region's operations. -/
theorem wpList_ten {ops : Array Oper} {rest : List Oper} {op : Oper} {a : Act} {w : World} {Q : Exit → Act → World → Prop} (hgd : op.guard = none) (x y : Operand) (ho : op.op = .store 28 x y) (hds : op.dst = none)
    {z o : Nat} {cs vs : Array Value} {t : TypeId} (hx : a.eval x = .pointer (some ⟨z, o, none⟩)) (hy : a.eval y = .agg vs) (h0 : w.heap[z]? = some (.cells cs t (0, 0))) (hn : o + 10 ≤ cs.size) (h10 : vs.size = 10) (h1 : vs.all (·.oneCell') = true)
    (h : wpList Tryz.prog ops Q rest a (w.setCells z o vs.toList)) : wpList Tryz.prog ops Q (op :: rest) a w := by
  refine wpList_store_mid hgd 28 x y ho z o vs hx hy (there_mid h0 (by omega)) (i28 h10) h1 ?_
  rw [hds]
  exact h
theorem zero_sx (w : World) (S : Nat → Prop) (li : Int) : Sx w S ⟨0, ⟨#[]⟩, ⟨#[]⟩, ⟨0, ⟨#[]⟩, 0, false, 0, ⟨#[]⟩, none, 0, 0, none, 0, 0⟩, .slice none 0 0, .slice none 0 0, ⟨0, ⟨#[]⟩, 0, false, 0, ⟨#[]⟩, none, 0, 0, none, 0, 0⟩, .slice none 0 0, false, false, ⟨#[]⟩, false, li⟩ { Sm.zero with li := li } :=
  ⟨rfl, rfl, rfl, ⟨1, LiesE.leaf w S zeroE rfl rfl _⟩, NmL.none _ _, ExL.none _ _, ⟨1, LiesE.leaf w S zeroE rfl rfl _⟩, NmL.none _ _, rfl, rfl, rfl, rfl, rfl⟩
end Go.Proofs.YtcniebkehekliaaGreatDoor
