/- A statement's block while it is parsed (Sb), beside the parser. Statements, part by part (bracketed, where, creation, insertion, deletion, source). -/
import Derived.Test.YtfemippjaokcmaaGreatDoorXal
namespace Go.Proofs.YtfemippjaokcmaaGreatDoor
open Go.RowKit Go.Shelf
/- A statement, as it is meant. -/
structure Sm where
  k : Nat
  t : ByteArray
  f : ByteArray
  v : Et
  nm : List ByteArray
  ex : List Et
  wh : Et
  cl : List ByteArray
  cn : Bool
  hi : Bool
  od : ByteArray
  de : Bool
  li : Int
def Sm.zero : Sm := ⟨0, ⟨#[]⟩, ⟨#[]⟩, zeroT, [], [], zeroT, [], false, false, ⟨#[]⟩, false, 0⟩
def Sm.new : Sm := { Sm.zero with li := -1 }
/- Its cells. -/
structure SR where
  k : Int
  t : ByteArray
  f : ByteArray
  v : XR
  nm : Value
  ex : Value
  wh : XR
  cl : Value
  cn : Bool
  hi : Bool
  od : ByteArray
  de : Bool
  li : Int
def stA (R : SR) : Array Value := #[.int .i64 R.k, .string R.t, .string R.f, .int .i64 R.v.k, .string R.v.s, .int .i64 R.v.vk, .bool R.v.vb, .int .i64 R.v.vn, .string R.v.vs, .slice none 0 0, .slice none 0 0, .slice R.v.kp R.v.n R.v.kc, .slice R.v.np R.v.m R.v.nc, R.nm, R.ex, .int .i64 R.wh.k, .string R.wh.s, .int .i64 R.wh.vk, .bool R.wh.vb, .int .i64 R.wh.vn, .string R.wh.vs, .slice none 0 0, .slice none 0 0, .slice R.wh.kp R.wh.n R.wh.kc, .slice R.wh.np R.wh.m R.wh.nc, R.cl, .bool R.cn, .bool R.hi, .string R.od, .bool R.de, .int .i64 R.li]
/- Names, expressions in a list: where they lie. -/
def NmL (w : World) (S : Nat → Prop) (l : List ByteArray) (v : Value) : Prop := ∃ p c, v = .slice p l.length c ∧ Nms w S p l.length c (fun i => l.getD i ⟨#[]⟩)
def ExL (w : World) (S : Nat → Prop) (l : List Et) (v : Value) : Prop := ∃ p c K d, v = .slice p l.length c ∧ Kds w S p l.length c K ∧ ∀ i, i < l.length → LiesE w S d (l.getD i zeroT) (row10 (K i))
theorem NmL.since {w w' : World} {S : Nat → Prop} {l : List ByteArray} {v : Value} (h : NmL w S l v) (hS : Since S w w') : NmL w' S l v := by
  obtain ⟨p, c, h1, h2⟩ := h
  exact ⟨p, c, h1, h2.since hS⟩
theorem NmL.imp {w : World} {R S : Nat → Prop} {l : List ByteArray} {v : Value} (hab : ∀ k, S k → k < w.heap.size → R k) (h : NmL w S l v) : NmL w R l v := by
  obtain ⟨p, c, h1, h2⟩ := h
  exact ⟨p, c, h1, h2.imp hab⟩
theorem ExL.since {w w' : World} {S : Nat → Prop} {l : List Et} {v : Value} (h : ExL w S l v) (hS : Since S w w') : ExL w' S l v := by
  obtain ⟨p, c, K, d, h1, h2, h3⟩ := h
  exact ⟨p, c, K, d, h1, h2.since hS, fun i hi => (h3 i hi).since hS⟩
theorem ExL.imp {w : World} {R S : Nat → Prop} {l : List Et} {v : Value} (hab : ∀ k, S k → k < w.heap.size → R k) (h : ExL w S l v) : ExL w R l v := by
  obtain ⟨p, c, K, d, h1, h2, h3⟩ := h
  exact ⟨p, c, K, d, h1, h2.imp hab, fun i hi => (h3 i hi).imp hab⟩
theorem NmL.none (w : World) (S : Nat → Prop) : NmL w S [] (.slice Option.none 0 0) := ⟨Option.none, 0, rfl, Nms.none _ _ _⟩
theorem ExL.none (w : World) (S : Nat → Prop) : ExL w S [] (.slice Option.none 0 0) := ⟨Option.none, 0, fun _ _ => undef, 0, rfl, Kds.none _ _ _, fun _i hi => absurd hi (Nat.not_lt_zero _)⟩
structure Sx (w : World) (S : Nat → Prop) (R : SR) (M : Sm) : Prop where
  k : R.k = (M.k : Int)
  t : R.t = M.t
  f : R.f = M.f
  v : ∃ d, LiesE w S d M.v (rowX R.v)
  nm : NmL w S M.nm R.nm
  ex : ExL w S M.ex R.ex
  wh : ∃ d, LiesE w S d M.wh (rowX R.wh)
  cl : NmL w S M.cl R.cl
  cn : R.cn = M.cn
  hi : R.hi = M.hi
  od : R.od = M.od
  de : R.de = M.de
  li : R.li = M.li
theorem Sx.since {w w' : World} {S : Nat → Prop} {R : SR} {M : Sm} (h : Sx w S R M) (hS : Since S w w') : Sx w' S R M :=
  ⟨h.k, h.t, h.f, h.v.imp fun _ k => k.since hS, h.nm.since hS, h.ex.since hS, h.wh.imp fun _ k => k.since hS, h.cl.since hS, h.cn, h.hi, h.od, h.de, h.li⟩
theorem Sx.imp {w : World} {Q S : Nat → Prop} {R : SR} {M : Sm} (hab : ∀ k, S k → k < w.heap.size → Q k) (h : Sx w S R M) : Sx w Q R M :=
  ⟨h.k, h.t, h.f, h.v.imp fun _ k => k.imp hab, h.nm.imp hab, h.ex.imp hab, h.wh.imp fun _ k => k.imp hab, h.cl.imp hab, h.cn, h.hi, h.od, h.de, h.li⟩
/- The statement's block x, the parser's block b. -/
structure Sb (S : Nat → Prop) (b : Nat) (p : Option Addr) (c : Nat) (ws : List Wd) (x : Nat) (w0 w : World) (M : Sm) (s : PS) : Prop where
  row : ∃ R, w.heap[x]? = some (.cells (stA R) 62 (0, 0)) ∧ Sx w S R M
  ps : Ps w b p c ws s
  os : w.os = w0.os
  tape : w.tape = w0.tape
  output : w.output = w0.output
  size : w0.heap.size ≤ w.heap.size
  block : ∀ k, k < w0.heap.size → k ≠ b → k ≠ x → w.heap[k]? = w0.heap[k]?
  bx : b < x ∧ x < w0.heap.size
  old : ∀ g, p = some ⟨g, 0, none⟩ → g < x
  no : ¬ S b ∧ ¬ S x
  new : ∀ k, w0.heap.size ≤ k → S k
theorem Sb.self {S : Nat → Prop} {b : Nat} {p : Option Addr} {c : Nat} {ws : List Wd} {x : Nat} {w0 w : World} {M : Sm} {s : PS} (h : Sb S b p c ws x w0 w M s) : Sb S b p c ws x w w M s :=
  ⟨h.row, h.ps, rfl, rfl, rfl, Nat.le_refl _, fun _ _ _ _ => rfl, ⟨h.bx.1, Nat.lt_of_lt_of_le h.bx.2 h.size⟩, h.old, h.no, fun k hk => h.new k (Nat.le_trans h.size hk)⟩
theorem Sb.trans {S : Nat → Prop} {b : Nat} {p : Option Addr} {c : Nat} {ws : List Wd} {x : Nat} {w0 w1 w2 : World} {M N : Sm} {s t : PS} (h : Sb S b p c ws x w0 w1 M s) (k : Sb S b p c ws x w1 w2 N t) : Sb S b p c ws x w0 w2 N t :=
  ⟨k.row, k.ps, k.os.trans h.os, k.tape.trans h.tape, k.output.trans h.output, Nat.le_trans h.size k.size, fun j hj hb hx => (k.block j (Nat.lt_of_lt_of_le hj h.size) hb hx).trans (h.block j hj hb hx), h.bx, h.old, h.no, h.new⟩
/- A call of the parser's. -/
theorem Sb.calls {S : Nat → Prop} {b : Nat} {p : Option Addr} {c : Nat} {ws : List Wd} {x : Nat} {w0 w w2 : World} {M : Sm} {s s2 : PS} (h : Sb S b p c ws x w0 w M s) (hO : Onl b w w2) (hP : Ps w2 b p c ws s2) : Sb S b p c ws x w0 w2 M s2 := by
  obtain ⟨R, h1, h2⟩ := h.row
  have hb := h.bx
  have hs := h.size
  exact ⟨⟨R, (hO.block x (lt_of_row h1) (by omega)).trans h1, h2.since (Since.onl hO h.no.1)⟩, hP, hO.os.trans h.os, hO.tape.trans h.tape, hO.output.trans h.output, Nat.le_trans h.size hO.size, fun k hk hb hx => (hO.block k (by omega) hb).trans (h.block k hk hb hx), h.bx, h.old, h.no, h.new⟩
/- A store into the statement. -/
theorem Sb.store {S : Nat → Prop} {b : Nat} {p : Option Addr} {c : Nat} {ws : List Wd} {x : Nat} {w0 w w2 : World} {M N : Sm} {s : PS} (h : Sb S b p c ws x w0 w M s) {R2 : SR} (hr : w2.heap[x]? = some (.cells (stA R2) 62 (0, 0))) (hb : Below x w w2) (ho : ∀ j, j ≠ x → w2.heap[j]? = w.heap[j]?) (hx : Sx w S R2 N) : Sb S b p c ws x w0 w2 N s := by
  have hbx := h.bx
  refine ⟨⟨R2, hr, hx.since ⟨hb.size, fun k hk _ => ho k (fun e => h.no.2 (e ▸ hk))⟩⟩, h.ps.kept (z := x) hbx.1 h.old ho hb.size, hb.os.trans h.os, hb.tape.trans h.tape, hb.output.trans h.output, Nat.le_trans h.size hb.size, fun k hk kb kx => (ho k kx).trans (h.block k hk kb kx), h.bx, h.old, h.no, h.new⟩
theorem Sb.cell {S : Nat → Prop} {b : Nat} {p : Option Addr} {c : Nat} {ws : List Wd} {x : Nat} {w0 w : World} {M N : Sm} {s : PS} (h : Sb S b p c ws x w0 w M s) {R R2 : SR} (hr : w.heap[x]? = some (.cells (stA R) 62 (0, 0))) (i : Nat) (v : Value) (hA : (stA R).setIfInBounds i v = stA R2) (hx : Sx w S R2 N) : Sb S b p c ws x w0 (w.setCell ⟨x, i, none⟩ v) N s := by
  refine h.store (R2 := R2) ?_ ((Below.refl x w).setCell (p := ⟨x, i, none⟩) (Nat.le_refl _) v) (fun j hj => Below.heap_setCell _ _ _ j hj) hx
  rw [← hA]
  exact heap_setCell_same w x i _ _ v hr
def setAll (cs : Array Value) : Nat → List Value → Array Value
  | _, [] => cs
  | o, v :: r => setAll (cs.setIfInBounds o v) (o + 1) r
theorem heap_setCells_mid (g : Nat) (t : TypeId) : ∀ (vs : List Value) (o : Nat) (W : World) (cs : Array Value), W.heap[g]? = some (.cells cs t (0, 0)) → (W.setCells g o vs).heap[g]? = some (.cells (setAll cs o vs) t (0, 0))
  | [], _, _, _, h => h
  | v :: r, o, W, cs, h => heap_setCells_mid g t r (o + 1) _ _ (heap_setCell_same W g o cs t v h)
theorem Sb.cells {S : Nat → Prop} {b : Nat} {p : Option Addr} {c : Nat} {ws : List Wd} {x : Nat} {w0 w : World} {M N : Sm} {s : PS} (h : Sb S b p c ws x w0 w M s) {R R2 : SR} (hr : w.heap[x]? = some (.cells (stA R) 62 (0, 0))) (o : Nat) (vs : List Value) (hA : setAll (stA R) o vs = stA R2) (hx : Sx w S R2 N) : Sb S b p c ws x w0 (w.setCells x o vs) N s := by
  refine h.store (R2 := R2) ?_ (below_setCells' (Nat.le_refl _) vs o w (Below.refl x w)) (fun j hj => heap_setCells_else x j hj vs o w) hx
  rw [← hA]
  exact heap_setCells_mid x 62 vs o w _ hr
theorem setAll_wh (R : SR) (Q : XR) : setAll (stA R) 15 (arrX Q).toList = stA { R with wh := Q } := by kernel_rfl
theorem setAll_v (R : SR) (Q : XR) : setAll (stA R) 3 (arrX Q).toList = stA { R with v := Q } := by kernel_rfl
theorem there_mid {w : World} {z : Nat} {cs : Array Value} {t : TypeId} (h : w.heap[z]? = some (.cells cs t (0, 0))) {o n : Nat} (hn : o + n ≤ cs.size) : w.there z o n := by
  intro j hj
  refine ⟨?_, frozen_of_row w _ (o + j) _ _ h⟩
  rw [cell_of_row w z (o + j) cs t _ h]
  simp
  omega
/- What a store of an expression's ten cells asks, at the list of a region's operations. -/
theorem wpList_ten {ops : Array Oper} {rest : List Oper} {op : Oper} {a : Act} {w : World} {Q : Exit → Act → World → Prop} (hgd : op.guard = none) (x y : Operand) (ho : op.op = .store 28 x y) (hds : op.dst = none)
    {z o : Nat} {cs vs : Array Value} {t : TypeId} (hx : a.eval x = .pointer (some ⟨z, o, none⟩)) (hy : a.eval y = .agg vs) (h0 : w.heap[z]? = some (.cells cs t (0, 0))) (hn : o + 10 ≤ cs.size) (h10 : vs.size = 10) (h1 : vs.all (·.oneCell') = true)
    (h : wpList Tryz.prog ops Q rest a (w.setCells z o vs.toList)) : wpList Tryz.prog ops Q (op :: rest) a w := by
  refine wpList_store_mid hgd 28 x y ho z o vs hx hy (there_mid h0 (by omega)) (i28 h10) h1 ?_
  rw [hds]
  exact h
theorem zero_sx (w : World) (S : Nat → Prop) (li : Int) : Sx w S ⟨0, ⟨#[]⟩, ⟨#[]⟩, ⟨0, ⟨#[]⟩, 0, false, 0, ⟨#[]⟩, none, 0, 0, none, 0, 0⟩, .slice none 0 0, .slice none 0 0, ⟨0, ⟨#[]⟩, 0, false, 0, ⟨#[]⟩, none, 0, 0, none, 0, 0⟩, .slice none 0 0, false, false, ⟨#[]⟩, false, li⟩ { Sm.zero with li := li } :=
  ⟨rfl, rfl, rfl, ⟨1, LiesE.leaf w S zeroE rfl rfl _⟩, NmL.none _ _, ExL.none _ _, ⟨1, LiesE.leaf w S zeroE rfl rfl _⟩, NmL.none _ _, rfl, rfl, rfl, rfl, rfl⟩
end Go.Proofs.YtfemippjaokcmaaGreatDoor
namespace Go.Proofs.YtfemippjaokcmaaGreatDoor
open Go.RowKit Go.Shelf
attribute [local go_sem] Oper.semAt_some fw0 fw1 fw2
/- What a part of a statement does. -/
def Gst (S : Nat → Prop) (b : Nat) (p : Option Addr) (c : Nat) (ws : List Wd) (x : Nat) (w : World) (X : Sm × PS) (r : Ending) (w' : World) : Prop :=
  r = .returned (.tuple #[]) ∧ Sb S b p c ws x w w' X.1 X.2 ∧ Gd ws X.2
theorem Gd.take {ws : List Wd} (hz : Wz ws) {s : PS} (g : Gd ws s) (hlt : s.at' < ws.length) {k : Nat} {l : List UInt8} (h : isP (wAt ws s.at') k l = true) (hk : k ≠ 0) : Gd ws (takeP s) := g.pk ((Pk.refl hlt).is hz h hk).less
theorem Gd.must {ws : List Wd} (hz : Wz ws) {s : PS} (g : Gd ws s) (hlt : s.at' < ws.length) {k : Nat} (hk : k ≠ 0) (l : List UInt8) : Gd ws (mustQ ws s k l) := g.pk ((Pk.refl hlt).must hz hk l)
theorem Gd.name {ws : List Wd} (hz : Wz ws) {s : PS} (g : Gd ws s) (hlt : s.at' < ws.length) : Gd ws (nameP ws s) := g.pk ((Pk.refl hlt).name hz)
theorem Gd.fail {ws : List Wd} {s : PS} (g : Gd ws s) (hlt : s.at' < ws.length) (e : Nat) : Gd ws (failP ws s e) := g.pk ((Pk.refl hlt).fail e)
theorem Gd.expr {ws : List Wd} (hz : Wz ws) {s : PS} (g : Gd ws s) (hlt : s.at' < ws.length) : Gd ws (exprF ws s).2 := g.pk (exprF_ok hz s hlt)
/- A name in brackets. -/
def brkF (ws : List Wd) (s : PS) : ByteArray × PS := (nameS ws (mustQ ws s 6 [40]), mustQ ws (nameP ws (mustQ ws s 6 [40])) 6 [41])
theorem brk_pk {ws : List Wd} (hz : Wz ws) {s : PS} (h : s.at' < ws.length) : Pk 0 0 ws s (brkF ws s).2 := (((Pk.refl h).must hz (by decide) _).name hz).must hz (by decide) _
set_option maxRecDepth 100000 in
set_option maxHeartbeats 8000000 in
theorem bracketed_any {w : World} {b : Nat} {p : Option Addr} {c : Nat} {ws : List Wd} {s : PS} (H : Ps w b p c ws s) (hz : Wz ws) :
    Calls Tryz.prog 119 #[.pointer (some ⟨b, 0, none⟩)] w fun r w' => r = .returned (.string (brkF ws s).1) ∧ Ps w' b p c ws (brkF ws s).2 ∧ Onl b w w' := by
  have k0 := psign_q H hz [40]
  unfold brkF
  obtain ⟨t, ht⟩ : ∃ t, mustQ ws s 6 [40] = t := ⟨_, rfl⟩
  rw [ht] at k0 ⊢
  clear H ht
  go_enter Tryz.func119, Tryz.ntmps119
  go_wp2_with fail
  refine k0.mono ?_
  rintro q w1 ⟨rfl, hP1, hO1⟩
  have k1 := pname_any hP1 hz
  have HO1 : Hid (Onl b w w1) := hO1
  clear k0 hP1 hO1
  go_wp2_with fail
  refine k1.mono ?_
  rintro q w2 ⟨rfl, hP2, hO2⟩
  have k2 := psign_q hP2 hz [41]
  have HO2 : Hid (Onl b w w2) := HO1.out.trans hO2
  clear k1 hP2 hO2 HO1
  go_wp2_with fail
  refine k2.mono ?_
  rintro q w3 ⟨rfl, hP3, hO3⟩
  have HP3 : Hid (Ps w3 b p c ws (mustQ ws (nameP ws t) 6 [41]) ∧ Onl b w w3) := ⟨hP3, HO2.out.trans hO3⟩
  clear k2 hP3 hO3 HO2
  go_wp2
  go_ret
  exact ⟨rfl, HP3.out.1, HP3.out.2⟩
def whrF (ws : List Wd) (M : Sm) (s : PS) : Sm × PS :=
  if isP (wAt ws s.at') 2 [87, 72, 69, 82, 69] then ({ M with wh := (exprF ws (takeP s)).1 }, (exprF ws (takeP s)).2) else (M, s)
set_option maxRecDepth 100000 in
set_option maxHeartbeats 8000000 in
theorem where_any {S : Nat → Prop} {b : Nat} {p : Option Addr} {c : Nat} {ws : List Wd} {x : Nat} {w : World} {M : Sm} {s : PS} (H : Sb S b p c ws x w w M s) (hz : Wz ws) (hl : Wl ws) (g : Gd ws s) :
    Calls Tryz.prog 124 #[.pointer (some ⟨b, 0, none⟩), .pointer (some ⟨x, 0, none⟩)] w (Gst S b p c ws x w (whrF ws M s)) := by
  have hlt := H.ps.lt
  unfold whrF
  by_cases hy : isP (wAt ws s.at') 2 [87, 72, 69, 82, 69] = true
  · rw [if_pos hy]
    have g1 := g.take hz hlt hy (by decide)
    have gX := g1.expr hz (hz.next hlt (by rw [isP_kind hy]; decide))
    have HB0 : Hid (Sb S b p c ws x w w M s) := H
    have hbx := H.bx
    clear H
    go_enter Tryz.func124, Tryz.ntmps124
    have k0 := tookKey_yes HB0.out.ps hz [87, 72, 69, 82, 69] hy
    go_wp2_with fail
    refine k0.mono ?_
    rintro q w1 ⟨rfl, hP1, hO1⟩
    have HB1 : Hid (Sb S b p c ws x w w1 M (takeP s)) := HB0.out.calls hO1 hP1
    clear k0 hP1 hO1 HB0
    have k1 := expr_any HB1.out.ps hz hl g1
    go_wp2_with fail
    refine k1.mono ?_
    rintro q w2 ⟨d2, v2, rfl, hL2, hP2, hO2⟩
    have B2 := HB1.out.calls hO2 hP2
    obtain ⟨R2, hr2, hx2⟩ := B2.row
    obtain ⟨Q, rfl⟩ := hL2.row
    obtain ⟨w3, hw3⟩ : ∃ wq, w2.setCells x 15 (arrX Q).toList = wq := ⟨_, rfl⟩
    have hQ : ∃ d, LiesE w2 S d (exprF ws (takeP s)).1 (rowX Q) := ⟨d2, hL2.imp fun k hk _ => HB1.out.new k (Nat.le_trans HB1.out.size hk)⟩
    have HB3 : Hid (Sb S b p c ws x w w3 { M with wh := (exprF ws (takeP s)).1 } (exprF ws (takeP s)).2) := by
      rw [← hw3]
      exact B2.cells (N := { M with wh := (exprF ws (takeP s)).1 }) hr2 15 (arrX Q).toList (R2 := { R2 with wh := Q }) (setAll_wh R2 Q) { hx2 with wh := hQ }
    have H2 : Hid (w2.heap[x]? = some (.cells (stA R2) 62 (0, 0)) ∧ (arrX Q).size = 10 ∧ (arrX Q).all (·.oneCell') = true) := ⟨hr2, rfl, by simp [arrX, Value.oneCell']⟩
    have eQ : rowX Q = .agg (arrX Q) := rfl
    rw [eQ]
    obtain ⟨A, hA⟩ : ∃ A, arrX Q = A := ⟨_, rfl⟩
    rw [hA] at hw3 H2 ⊢
    clear k1 hL2 hP2 hO2 B2 hr2 hx2 HB1 hQ eQ hA
    go_wp2_with (first | (refine wpList_ten rfl (.tmp 10) (.tmp 8) rfl rfl rfl rfl H2.out.1 (by show 15 + 10 ≤ 31; decide) H2.out.2.1 H2.out.2.2 ?_; rw [hw3]) | fail)
    go_end0
    exact ⟨rfl, HB3.out, gX⟩
  · rw [if_neg hy]
    have hf : isP (wAt ws s.at') 2 [87, 72, 69, 82, 69] = false := by simpa using hy
    have HB0 : Hid (Sb S b p c ws x w w M s) := H
    have hbx := H.bx
    clear H
    go_enter Tryz.func124, Tryz.ntmps124
    have k0 := tookKey_no HB0.out.ps hz [87, 72, 69, 82, 69] hf
    go_wp2_with fail
    refine k0.mono ?_
    rintro q w1 ⟨rfl, hP1, hO1⟩
    have HB1 : Hid (Sb S b p c ws x w w1 M s) := HB0.out.calls hO1 hP1
    clear k0 hP1 hO1 HB0
    go_wp2
    go_end0
    exact ⟨rfl, HB1.out, g⟩
def creF (ws : List Wd) (M : Sm) (s : PS) : Sm × PS :=
  if isP (wAt ws s.at') 2 [84, 65, 66, 76, 69] then ({ M with k := 1, t := nameS ws (takeP s) }, nameP ws (takeP s))
  else if isP (wAt ws s.at') 2 [73, 78, 68, 69, 88] then ({ M with k := 2, t := nameS ws (mustQ ws (takeP s) 2 [79, 78]), f := (brkF ws (nameP ws (mustQ ws (takeP s) 2 [79, 78]))).1 }, (brkF ws (nameP ws (mustQ ws (takeP s) 2 [79, 78]))).2)
  else (M, failP ws s 120)
set_option maxRecDepth 100000 in
set_option maxHeartbeats 8000000 in
theorem creation_any {S : Nat → Prop} {b : Nat} {p : Option Addr} {c : Nat} {ws : List Wd} {x : Nat} {w : World} {M : Sm} {s : PS} (H : Sb S b p c ws x w w M s) (hz : Wz ws) (_hl : Wl ws) (g : Gd ws s) :
    Calls Tryz.prog 81 #[.pointer (some ⟨b, 0, none⟩), .pointer (some ⟨x, 0, none⟩)] w (Gst S b p c ws x w (creF ws M s)) := by
  have hlt := H.ps.lt
  unfold creF
  by_cases hy : isP (wAt ws s.at') 2 [84, 65, 66, 76, 69] = true
  · rw [if_pos hy]
    have g1 := g.take hz hlt hy (by decide)
    have l1 : (takeP s).at' < ws.length := hz.next hlt (by rw [isP_kind hy]; decide)
    have g2 := g1.name hz l1
    have HB0 : Hid (Sb S b p c ws x w w M s) := H
    have hbx := H.bx
    clear H
    go_enter Tryz.func81, Tryz.ntmps81
    have k0 := tookKey_yes HB0.out.ps hz [84, 65, 66, 76, 69] hy
    go_wp2_with fail
    refine k0.mono ?_
    rintro q w1 ⟨rfl, hP1, hO1⟩
    have HB1 : Hid (Sb S b p c ws x w w1 M (takeP s)) := HB0.out.calls hO1 hP1
    clear k0 hP1 hO1 HB0
    obtain ⟨R1, hr1, hx1⟩ := HB1.out.row
    have x1 : w1.cell? ⟨x, 0, none⟩ = some (.int .i64 R1.k) := cell_of_row w1 x 0 _ _ _ hr1
    have f1 := frozen_of_row w1 x 0 _ _ hr1
    obtain ⟨w2, hw2⟩ : ∃ wq, w1.setCell ⟨x, 0, none⟩ (.int .i64 1) = wq := ⟨_, rfl⟩
    have HB2 : Hid (Sb S b p c ws x w w2 { M with k := 1 } (takeP s)) := by
      rw [← hw2]
      exact HB1.out.cell (N := { M with k := 1 }) hr1 0 (.int .i64 1) (R2 := { R1 with k := 1 }) rfl { hx1 with k := rfl }
    clear hr1 hx1 HB1
    have k2 := pname_any HB2.out.ps hz
    go_wp2_with fail
    refine k2.mono ?_
    rintro q w3 ⟨rfl, hP3, hO3⟩
    have HB3 : Hid (Sb S b p c ws x w w3 { M with k := 1 } (nameP ws (takeP s))) := HB2.out.calls hO3 hP3
    clear k2 hP3 hO3 HB2
    clear hw2 x1 f1
    obtain ⟨R3, hr3, hx3⟩ := HB3.out.row
    have x3 : w3.cell? ⟨x, 1, none⟩ = some (.string R3.t) := cell_of_row w3 x 1 _ _ _ hr3
    have f3 := frozen_of_row w3 x 1 _ _ hr3
    obtain ⟨w4, hw4⟩ : ∃ wq, w3.setCell ⟨x, 1, none⟩ (.string (nameS ws (takeP s))) = wq := ⟨_, rfl⟩
    have HB4 : Hid (Sb S b p c ws x w w4 { { M with k := 1 } with t := (nameS ws (takeP s)) } (nameP ws (takeP s))) := by
      rw [← hw4]
      exact HB3.out.cell (N := { { M with k := 1 } with t := (nameS ws (takeP s)) }) hr3 1 (.string (nameS ws (takeP s))) (R2 := { R3 with t := (nameS ws (takeP s)) }) rfl { hx3 with t := rfl }
    clear hr3 hx3 HB3
    go_wp2
    go_end0
    exact ⟨rfl, HB4.out, g2⟩
  · rw [if_neg hy]
    have hyf : isP (wAt ws s.at') 2 [84, 65, 66, 76, 69] = false := by simpa using hy
    by_cases hi : isP (wAt ws s.at') 2 [73, 78, 68, 69, 88] = true
    · rw [if_pos hi]
      have g1 := g.take hz hlt hi (by decide)
      have l1 : (takeP s).at' < ws.length := hz.next hlt (by rw [isP_kind hi]; decide)
      have g2 := g1.must hz l1 (k := 2) (by decide) [79, 78]
      have l2 := ((Pk.refl l1).must hz (k := 2) (by decide) [79, 78]).lt
      have g3 := g2.name hz l2
      have l3 := ((Pk.refl l2).name hz).lt
      have g4 := g3.pk (brk_pk hz l3)
      have HB0 : Hid (Sb S b p c ws x w w M s) := H
      have hbx := H.bx
      clear H
      go_enter Tryz.func81, Tryz.ntmps81
      have k0 := tookKey_no HB0.out.ps hz [84, 65, 66, 76, 69] hyf
      go_wp2_with fail
      refine k0.mono ?_
      rintro q w1 ⟨rfl, hP1, hO1⟩
      have HB1 : Hid (Sb S b p c ws x w w1 M s) := HB0.out.calls hO1 hP1
      clear k0 hP1 hO1 HB0
      have k1 := tookKey_yes HB1.out.ps hz [73, 78, 68, 69, 88] hi
      go_wp2_with fail
      refine k1.mono ?_
      rintro q w2 ⟨rfl, hP2, hO2⟩
      have HB2 : Hid (Sb S b p c ws x w w2 M (takeP s)) := HB1.out.calls hO2 hP2
      clear k1 hP2 hO2 HB1
      obtain ⟨R2, hr2, hx2⟩ := HB2.out.row
      have x2 : w2.cell? ⟨x, 0, none⟩ = some (.int .i64 R2.k) := cell_of_row w2 x 0 _ _ _ hr2
      have f2 := frozen_of_row w2 x 0 _ _ hr2
      obtain ⟨w3, hw3⟩ : ∃ wq, w2.setCell ⟨x, 0, none⟩ (.int .i64 2) = wq := ⟨_, rfl⟩
      have HB3 : Hid (Sb S b p c ws x w w3 { M with k := 2 } (takeP s)) := by
        rw [← hw3]
        exact HB2.out.cell (N := { M with k := 2 }) hr2 0 (.int .i64 2) (R2 := { R2 with k := 2 }) rfl { hx2 with k := rfl }
      clear hr2 hx2 HB2
      have k3 := pkey_q HB3.out.ps hz [79, 78]
      go_wp2_with fail
      refine k3.mono ?_
      rintro q w4 ⟨rfl, hP4, hO4⟩
      have HB4 : Hid (Sb S b p c ws x w w4 { M with k := 2 } (mustQ ws (takeP s) 2 [79, 78])) := HB3.out.calls hO4 hP4
      clear k3 hP4 hO4 HB3
      clear hw3 x2 f2
      have k4 := pname_any HB4.out.ps hz
      go_wp2_with fail
      refine k4.mono ?_
      rintro q w5 ⟨rfl, hP5, hO5⟩
      have HB5 : Hid (Sb S b p c ws x w w5 { M with k := 2 } (nameP ws (mustQ ws (takeP s) 2 [79, 78]))) := HB4.out.calls hO5 hP5
      clear k4 hP5 hO5 HB4
      obtain ⟨R5, hr5, hx5⟩ := HB5.out.row
      have x5 : w5.cell? ⟨x, 1, none⟩ = some (.string R5.t) := cell_of_row w5 x 1 _ _ _ hr5
      have f5 := frozen_of_row w5 x 1 _ _ hr5
      obtain ⟨w6, hw6⟩ : ∃ wq, w5.setCell ⟨x, 1, none⟩ (.string (nameS ws (mustQ ws (takeP s) 2 [79, 78]))) = wq := ⟨_, rfl⟩
      have HB6 : Hid (Sb S b p c ws x w w6 { { M with k := 2 } with t := (nameS ws (mustQ ws (takeP s) 2 [79, 78])) } (nameP ws (mustQ ws (takeP s) 2 [79, 78]))) := by
        rw [← hw6]
        exact HB5.out.cell (N := { { M with k := 2 } with t := (nameS ws (mustQ ws (takeP s) 2 [79, 78])) }) hr5 1 (.string (nameS ws (mustQ ws (takeP s) 2 [79, 78]))) (R2 := { R5 with t := (nameS ws (mustQ ws (takeP s) 2 [79, 78])) }) rfl { hx5 with t := rfl }
      clear hr5 hx5 HB5
      have k6 := bracketed_any HB6.out.ps hz
      go_wp2_with fail
      refine k6.mono ?_
      rintro q w7 ⟨rfl, hP7, hO7⟩
      have HB7 : Hid (Sb S b p c ws x w w7 { { M with k := 2 } with t := (nameS ws (mustQ ws (takeP s) 2 [79, 78])) } (brkF ws (nameP ws (mustQ ws (takeP s) 2 [79, 78]))).2) := HB6.out.calls hO7 hP7
      clear k6 hP7 hO7 HB6
      clear hw6 x5 f5
      obtain ⟨R7, hr7, hx7⟩ := HB7.out.row
      have x7 : w7.cell? ⟨x, 2, none⟩ = some (.string R7.f) := cell_of_row w7 x 2 _ _ _ hr7
      have f7 := frozen_of_row w7 x 2 _ _ hr7
      obtain ⟨w8, hw8⟩ : ∃ wq, w7.setCell ⟨x, 2, none⟩ (.string (brkF ws (nameP ws (mustQ ws (takeP s) 2 [79, 78]))).1) = wq := ⟨_, rfl⟩
      have HB8 : Hid (Sb S b p c ws x w w8 { { { M with k := 2 } with t := (nameS ws (mustQ ws (takeP s) 2 [79, 78])) } with f := (brkF ws (nameP ws (mustQ ws (takeP s) 2 [79, 78]))).1 } (brkF ws (nameP ws (mustQ ws (takeP s) 2 [79, 78]))).2) := by
        rw [← hw8]
        exact HB7.out.cell (N := { { { M with k := 2 } with t := (nameS ws (mustQ ws (takeP s) 2 [79, 78])) } with f := (brkF ws (nameP ws (mustQ ws (takeP s) 2 [79, 78]))).1 }) hr7 2 (.string (brkF ws (nameP ws (mustQ ws (takeP s) 2 [79, 78]))).1) (R2 := { R7 with f := (brkF ws (nameP ws (mustQ ws (takeP s) 2 [79, 78]))).1 }) rfl { hx7 with f := rfl }
      clear hr7 hx7 HB7
      go_wp2
      go_end0
      exact ⟨rfl, HB8.out, g4⟩
    · rw [if_neg hi]
      have hif : isP (wAt ws s.at') 2 [73, 78, 68, 69, 88] = false := by simpa using hi
      have HB0 : Hid (Sb S b p c ws x w w M s) := H
      have hbx := H.bx
      clear H
      go_enter Tryz.func81, Tryz.ntmps81
      have k0 := tookKey_no HB0.out.ps hz [84, 65, 66, 76, 69] hyf
      go_wp2_with fail
      refine k0.mono ?_
      rintro q w1 ⟨rfl, hP1, hO1⟩
      have HB1 : Hid (Sb S b p c ws x w w1 M s) := HB0.out.calls hO1 hP1
      clear k0 hP1 hO1 HB0
      have k1 := tookKey_no HB1.out.ps hz [73, 78, 68, 69, 88] hif
      go_wp2_with fail
      refine k1.mono ?_
      rintro q w2 ⟨rfl, hP2, hO2⟩
      have HB2 : Hid (Sb S b p c ws x w w2 M s) := HB1.out.calls hO2 hP2
      clear k1 hP2 hO2 HB1
      have k2 := fail_any HB2.out.ps 120
      go_wp2_with fail
      refine k2.mono ?_
      rintro q w3 ⟨rfl, hP3, hO3⟩
      have HB3 : Hid (Sb S b p c ws x w w3 M (failP ws s 120)) := HB2.out.calls hO3 hP3
      clear k2 hP3 hO3 HB2
      go_wp2
      go_end0
      exact ⟨rfl, HB3.out, (g.fail hlt 120)⟩


def insF (ws : List Wd) (M : Sm) (s : PS) : Sm × PS :=
  ({ M with k := 3, t := nameS ws (mustQ ws s 2 [73, 78, 84, 79]), v := (exprF ws (mustQ ws (nameP ws (mustQ ws s 2 [73, 78, 84, 79])) 2 [86, 65, 76, 85, 69])).1 }, (exprF ws (mustQ ws (nameP ws (mustQ ws s 2 [73, 78, 84, 79])) 2 [86, 65, 76, 85, 69])).2)
set_option maxRecDepth 100000 in
set_option maxHeartbeats 8000000 in
theorem insertion_any {S : Nat → Prop} {b : Nat} {p : Option Addr} {c : Nat} {ws : List Wd} {x : Nat} {w : World} {M : Sm} {s : PS} (H : Sb S b p c ws x w w M s) (hz : Wz ws) (hl : Wl ws) (g : Gd ws s) :
    Calls Tryz.prog 82 #[.pointer (some ⟨b, 0, none⟩), .pointer (some ⟨x, 0, none⟩)] w (Gst S b p c ws x w (insF ws M s)) := by
  have hlt := H.ps.lt
  unfold insF
  have g1 := g.must hz hlt (k := 2) (by decide) [73, 78, 84, 79]
  have l1 := ((Pk.refl hlt).must hz (k := 2) (by decide) [73, 78, 84, 79]).lt
  have g2 := g1.name hz l1
  have l2 := ((Pk.refl l1).name hz).lt
  have g3 := g2.must hz l2 (k := 2) (by decide) [86, 65, 76, 85, 69]
  have l3 := ((Pk.refl l2).must hz (k := 2) (by decide) [86, 65, 76, 85, 69]).lt
  have g4 := g3.expr hz l3
  have HB0 : Hid (Sb S b p c ws x w w M s) := H
  have hbx := H.bx
  clear H
  go_enter Tryz.func82, Tryz.ntmps82
  obtain ⟨R0, hr0, hx0⟩ := HB0.out.row
  have x0 : w.cell? ⟨x, 0, none⟩ = some (.int .i64 R0.k) := cell_of_row w x 0 _ _ _ hr0
  have f0 := frozen_of_row w x 0 _ _ hr0
  obtain ⟨w1, hw1⟩ : ∃ wq, w.setCell ⟨x, 0, none⟩ (.int .i64 3) = wq := ⟨_, rfl⟩
  have HB1 : Hid (Sb S b p c ws x w w1 { M with k := 3 } s) := by
    rw [← hw1]
    exact HB0.out.cell (N := { M with k := 3 }) hr0 0 (.int .i64 3) (R2 := { R0 with k := 3 }) rfl { hx0 with k := rfl }
  clear hr0 hx0 HB0
  have k1 := pkey_q HB1.out.ps hz [73, 78, 84, 79]
  go_wp2_with fail
  refine k1.mono ?_
  rintro q w2 ⟨rfl, hP2, hO2⟩
  have HB2 : Hid (Sb S b p c ws x w w2 { M with k := 3 } (mustQ ws s 2 [73, 78, 84, 79])) := HB1.out.calls hO2 hP2
  clear k1 hP2 hO2 HB1
  clear hw1 x0 f0
  have k2 := pname_any HB2.out.ps hz
  go_wp2_with fail
  refine k2.mono ?_
  rintro q w3 ⟨rfl, hP3, hO3⟩
  have HB3 : Hid (Sb S b p c ws x w w3 { M with k := 3 } (nameP ws (mustQ ws s 2 [73, 78, 84, 79]))) := HB2.out.calls hO3 hP3
  clear k2 hP3 hO3 HB2
  obtain ⟨R3, hr3, hx3⟩ := HB3.out.row
  have x3 : w3.cell? ⟨x, 1, none⟩ = some (.string R3.t) := cell_of_row w3 x 1 _ _ _ hr3
  have f3 := frozen_of_row w3 x 1 _ _ hr3
  obtain ⟨w4, hw4⟩ : ∃ wq, w3.setCell ⟨x, 1, none⟩ (.string (nameS ws (mustQ ws s 2 [73, 78, 84, 79]))) = wq := ⟨_, rfl⟩
  have HB4 : Hid (Sb S b p c ws x w w4 { { M with k := 3 } with t := (nameS ws (mustQ ws s 2 [73, 78, 84, 79])) } (nameP ws (mustQ ws s 2 [73, 78, 84, 79]))) := by
    rw [← hw4]
    exact HB3.out.cell (N := { { M with k := 3 } with t := (nameS ws (mustQ ws s 2 [73, 78, 84, 79])) }) hr3 1 (.string (nameS ws (mustQ ws s 2 [73, 78, 84, 79]))) (R2 := { R3 with t := (nameS ws (mustQ ws s 2 [73, 78, 84, 79])) }) rfl { hx3 with t := rfl }
  clear hr3 hx3 HB3
  have k4 := pkey_q HB4.out.ps hz [86, 65, 76, 85, 69]
  go_wp2_with fail
  refine k4.mono ?_
  rintro q w5 ⟨rfl, hP5, hO5⟩
  have HB5 : Hid (Sb S b p c ws x w w5 { { M with k := 3 } with t := (nameS ws (mustQ ws s 2 [73, 78, 84, 79])) } (mustQ ws (nameP ws (mustQ ws s 2 [73, 78, 84, 79])) 2 [86, 65, 76, 85, 69])) := HB4.out.calls hO5 hP5
  clear k4 hP5 hO5 HB4
  clear hw4 x3 f3
  have k5 := expr_any HB5.out.ps hz hl g3
  go_wp2_with fail
  refine k5.mono ?_
  rintro q w6 ⟨d6, v6, rfl, hL6, hP6, hO6⟩
  have B6 := HB5.out.calls hO6 hP6
  obtain ⟨R6, hr6, hx6⟩ := B6.row
  obtain ⟨Q, rfl⟩ := hL6.row
  obtain ⟨w7, hw7⟩ : ∃ wq, w6.setCells x 3 (arrX Q).toList = wq := ⟨_, rfl⟩
  have hQ : ∃ d, LiesE w6 S d (exprF ws (mustQ ws (nameP ws (mustQ ws s 2 [73, 78, 84, 79])) 2 [86, 65, 76, 85, 69])).1 (rowX Q) := ⟨d6, hL6.imp fun k hk _ => HB5.out.new k (Nat.le_trans HB5.out.size hk)⟩
  have HB7 : Hid (Sb S b p c ws x w w7 { { { M with k := 3 } with t := (nameS ws (mustQ ws s 2 [73, 78, 84, 79])) } with v := (exprF ws (mustQ ws (nameP ws (mustQ ws s 2 [73, 78, 84, 79])) 2 [86, 65, 76, 85, 69])).1 } (exprF ws (mustQ ws (nameP ws (mustQ ws s 2 [73, 78, 84, 79])) 2 [86, 65, 76, 85, 69])).2) := by
    rw [← hw7]
    exact B6.cells (N := { { { M with k := 3 } with t := (nameS ws (mustQ ws s 2 [73, 78, 84, 79])) } with v := (exprF ws (mustQ ws (nameP ws (mustQ ws s 2 [73, 78, 84, 79])) 2 [86, 65, 76, 85, 69])).1 }) hr6 3 (arrX Q).toList (R2 := { R6 with v := Q }) (setAll_v R6 Q) { hx6 with v := hQ }
  have H6 : Hid (w6.heap[x]? = some (.cells (stA R6) 62 (0, 0)) ∧ (arrX Q).size = 10 ∧ (arrX Q).all (·.oneCell') = true) := ⟨hr6, rfl, by simp [arrX, Value.oneCell']⟩
  have eQ : rowX Q = .agg (arrX Q) := rfl
  rw [eQ]
  obtain ⟨A, hA⟩ : ∃ A, arrX Q = A := ⟨_, rfl⟩
  rw [hA] at hw7 H6 ⊢
  clear k5 hL6 hP6 hO6 B6 hr6 hx6 HB5 hQ eQ hA
  go_wp2_with (first | (refine wpList_ten rfl (.tmp 20) (.tmp 18) rfl rfl rfl rfl H6.out.1 (by show 3 + 10 ≤ 31; decide) H6.out.2.1 H6.out.2.2 ?_; rw [hw7]) | fail)
  go_end0
  exact ⟨rfl, HB7.out, g4⟩
def delF (ws : List Wd) (M : Sm) (s : PS) : Sm × PS := whrF ws { M with k := 5, t := nameS ws (mustQ ws s 2 [70, 82, 79, 77]) } (nameP ws (mustQ ws s 2 [70, 82, 79, 77]))
set_option maxRecDepth 100000 in
set_option maxHeartbeats 8000000 in
theorem deletion_any {S : Nat → Prop} {b : Nat} {p : Option Addr} {c : Nat} {ws : List Wd} {x : Nat} {w : World} {M : Sm} {s : PS} (H : Sb S b p c ws x w w M s) (hz : Wz ws) (hl : Wl ws) (g : Gd ws s) :
    Calls Tryz.prog 84 #[.pointer (some ⟨b, 0, none⟩), .pointer (some ⟨x, 0, none⟩)] w (Gst S b p c ws x w (delF ws M s)) := by
  have hlt := H.ps.lt
  unfold delF
  have g1 := g.must hz hlt (k := 2) (by decide) [70, 82, 79, 77]
  have l1 := ((Pk.refl hlt).must hz (k := 2) (by decide) [70, 82, 79, 77]).lt
  have g2 := g1.name hz l1
  have HB0 : Hid (Sb S b p c ws x w w M s) := H
  have hbx := H.bx
  clear H
  go_enter Tryz.func84, Tryz.ntmps84
  obtain ⟨R0, hr0, hx0⟩ := HB0.out.row
  have x0 : w.cell? ⟨x, 0, none⟩ = some (.int .i64 R0.k) := cell_of_row w x 0 _ _ _ hr0
  have f0 := frozen_of_row w x 0 _ _ hr0
  obtain ⟨w1, hw1⟩ : ∃ wq, w.setCell ⟨x, 0, none⟩ (.int .i64 5) = wq := ⟨_, rfl⟩
  have HB1 : Hid (Sb S b p c ws x w w1 { M with k := 5 } s) := by
    rw [← hw1]
    exact HB0.out.cell (N := { M with k := 5 }) hr0 0 (.int .i64 5) (R2 := { R0 with k := 5 }) rfl { hx0 with k := rfl }
  clear hr0 hx0 HB0
  have k1 := pkey_q HB1.out.ps hz [70, 82, 79, 77]
  go_wp2_with fail
  refine k1.mono ?_
  rintro q w2 ⟨rfl, hP2, hO2⟩
  have HB2 : Hid (Sb S b p c ws x w w2 { M with k := 5 } (mustQ ws s 2 [70, 82, 79, 77])) := HB1.out.calls hO2 hP2
  clear k1 hP2 hO2 HB1
  clear hw1 x0 f0
  have k2 := pname_any HB2.out.ps hz
  go_wp2_with fail
  refine k2.mono ?_
  rintro q w3 ⟨rfl, hP3, hO3⟩
  have HB3 : Hid (Sb S b p c ws x w w3 { M with k := 5 } (nameP ws (mustQ ws s 2 [70, 82, 79, 77]))) := HB2.out.calls hO3 hP3
  clear k2 hP3 hO3 HB2
  obtain ⟨R3, hr3, hx3⟩ := HB3.out.row
  have x3 : w3.cell? ⟨x, 1, none⟩ = some (.string R3.t) := cell_of_row w3 x 1 _ _ _ hr3
  have f3 := frozen_of_row w3 x 1 _ _ hr3
  obtain ⟨w4, hw4⟩ : ∃ wq, w3.setCell ⟨x, 1, none⟩ (.string (nameS ws (mustQ ws s 2 [70, 82, 79, 77]))) = wq := ⟨_, rfl⟩
  have HB4 : Hid (Sb S b p c ws x w w4 { { M with k := 5 } with t := (nameS ws (mustQ ws s 2 [70, 82, 79, 77])) } (nameP ws (mustQ ws s 2 [70, 82, 79, 77]))) := by
    rw [← hw4]
    exact HB3.out.cell (N := { { M with k := 5 } with t := (nameS ws (mustQ ws s 2 [70, 82, 79, 77])) }) hr3 1 (.string (nameS ws (mustQ ws s 2 [70, 82, 79, 77]))) (R2 := { R3 with t := (nameS ws (mustQ ws s 2 [70, 82, 79, 77])) }) rfl { hx3 with t := rfl }
  clear hr3 hx3 HB3
  have k4 := where_any HB4.out.self hz hl g2
  go_wp2_with fail
  refine k4.mono ?_
  rintro q w5 ⟨rfl, hB5, hG5⟩
  have HB5 : Hid (Sb S b p c ws x w w5 (whrF ws { M with k := 5, t := nameS ws (mustQ ws s 2 [70, 82, 79, 77]) } (nameP ws (mustQ ws s 2 [70, 82, 79, 77]))).1 (whrF ws { M with k := 5, t := nameS ws (mustQ ws s 2 [70, 82, 79, 77]) } (nameP ws (mustQ ws s 2 [70, 82, 79, 77]))).2) := HB4.out.trans hB5
  clear k4 hB5 HB4
  clear hw4 x3 f3
  go_wp2
  go_end0
  exact ⟨rfl, HB5.out, hG5⟩
def srcF (ws : List Wd) (M : Sm) (s : PS) : Sm × PS :=
  if isP (wAt ws s.at') 2 [72, 73, 83, 84, 79, 82, 89] then ({ M with hi := true, t := (brkF ws (takeP s)).1 }, (brkF ws (takeP s)).2) else ({ M with t := nameS ws s }, nameP ws s)
set_option maxRecDepth 100000 in
set_option maxHeartbeats 8000000 in
theorem source_any {S : Nat → Prop} {b : Nat} {p : Option Addr} {c : Nat} {ws : List Wd} {x : Nat} {w : World} {M : Sm} {s : PS} (H : Sb S b p c ws x w w M s) (hz : Wz ws) (_hl : Wl ws) (g : Gd ws s) :
    Calls Tryz.prog 126 #[.pointer (some ⟨b, 0, none⟩), .pointer (some ⟨x, 0, none⟩)] w (Gst S b p c ws x w (srcF ws M s)) := by
  have hlt := H.ps.lt
  unfold srcF
  by_cases hy : isP (wAt ws s.at') 2 [72, 73, 83, 84, 79, 82, 89] = true
  · rw [if_pos hy]
    have g1 := g.take hz hlt hy (by decide)
    have l1 : (takeP s).at' < ws.length := hz.next hlt (by rw [isP_kind hy]; decide)
    have g2 := g1.pk (brk_pk hz l1)
    have HB0 : Hid (Sb S b p c ws x w w M s) := H
    have hbx := H.bx
    clear H
    go_enter Tryz.func126, Tryz.ntmps126
    have k0 := tookKey_yes HB0.out.ps hz [72, 73, 83, 84, 79, 82, 89] hy
    go_wp2_with fail
    refine k0.mono ?_
    rintro q w1 ⟨rfl, hP1, hO1⟩
    have HB1 : Hid (Sb S b p c ws x w w1 M (takeP s)) := HB0.out.calls hO1 hP1
    clear k0 hP1 hO1 HB0
    obtain ⟨R1, hr1, hx1⟩ := HB1.out.row
    have x1 : w1.cell? ⟨x, 27, none⟩ = some (.bool R1.hi) := cell_of_row w1 x 27 _ _ _ hr1
    have f1 := frozen_of_row w1 x 27 _ _ hr1
    obtain ⟨w2, hw2⟩ : ∃ wq, w1.setCell ⟨x, 27, none⟩ (.bool true) = wq := ⟨_, rfl⟩
    have HB2 : Hid (Sb S b p c ws x w w2 { M with hi := true } (takeP s)) := by
      rw [← hw2]
      exact HB1.out.cell (N := { M with hi := true }) hr1 27 (.bool true) (R2 := { R1 with hi := true }) rfl { hx1 with hi := rfl }
    clear hr1 hx1 HB1
    have k2 := bracketed_any HB2.out.ps hz
    go_wp2_with fail
    refine k2.mono ?_
    rintro q w3 ⟨rfl, hP3, hO3⟩
    have HB3 : Hid (Sb S b p c ws x w w3 { M with hi := true } (brkF ws (takeP s)).2) := HB2.out.calls hO3 hP3
    clear k2 hP3 hO3 HB2
    clear hw2 x1 f1
    obtain ⟨R3, hr3, hx3⟩ := HB3.out.row
    have x3 : w3.cell? ⟨x, 1, none⟩ = some (.string R3.t) := cell_of_row w3 x 1 _ _ _ hr3
    have f3 := frozen_of_row w3 x 1 _ _ hr3
    obtain ⟨w4, hw4⟩ : ∃ wq, w3.setCell ⟨x, 1, none⟩ (.string (brkF ws (takeP s)).1) = wq := ⟨_, rfl⟩
    have HB4 : Hid (Sb S b p c ws x w w4 { { M with hi := true } with t := (brkF ws (takeP s)).1 } (brkF ws (takeP s)).2) := by
      rw [← hw4]
      exact HB3.out.cell (N := { { M with hi := true } with t := (brkF ws (takeP s)).1 }) hr3 1 (.string (brkF ws (takeP s)).1) (R2 := { R3 with t := (brkF ws (takeP s)).1 }) rfl { hx3 with t := rfl }
    clear hr3 hx3 HB3
    go_wp2
    go_end0
    exact ⟨rfl, HB4.out, g2⟩
  · rw [if_neg hy]
    have hyf : isP (wAt ws s.at') 2 [72, 73, 83, 84, 79, 82, 89] = false := by simpa using hy
    have HB0 : Hid (Sb S b p c ws x w w M s) := H
    have hbx := H.bx
    clear H
    go_enter Tryz.func126, Tryz.ntmps126
    have k0 := tookKey_no HB0.out.ps hz [72, 73, 83, 84, 79, 82, 89] hyf
    go_wp2_with fail
    refine k0.mono ?_
    rintro q w1 ⟨rfl, hP1, hO1⟩
    have HB1 : Hid (Sb S b p c ws x w w1 M s) := HB0.out.calls hO1 hP1
    clear k0 hP1 hO1 HB0
    have k1 := pname_any HB1.out.ps hz
    go_wp2_with fail
    refine k1.mono ?_
    rintro q w2 ⟨rfl, hP2, hO2⟩
    have HB2 : Hid (Sb S b p c ws x w w2 M (nameP ws s)) := HB1.out.calls hO2 hP2
    clear k1 hP2 hO2 HB1
    obtain ⟨R2, hr2, hx2⟩ := HB2.out.row
    have x2 : w2.cell? ⟨x, 1, none⟩ = some (.string R2.t) := cell_of_row w2 x 1 _ _ _ hr2
    have f2 := frozen_of_row w2 x 1 _ _ hr2
    obtain ⟨w3, hw3⟩ : ∃ wq, w2.setCell ⟨x, 1, none⟩ (.string (nameS ws s)) = wq := ⟨_, rfl⟩
    have HB3 : Hid (Sb S b p c ws x w w3 { M with t := (nameS ws s) } (nameP ws s)) := by
      rw [← hw3]
      exact HB2.out.cell (N := { M with t := (nameS ws s) }) hr2 1 (.string (nameS ws s)) (R2 := { R2 with t := (nameS ws s) }) rfl { hx2 with t := rfl }
    clear hr2 hx2 HB2
    go_wp2
    go_end0
    exact ⟨rfl, HB3.out, (g.name hz hlt)⟩

def ordF (ws : List Wd) (M : Sm) (s : PS) : Sm × PS :=
  if isP (wAt ws s.at') 2 [79, 82, 68, 69, 82] then
    ({ M with od := (pathF ws (mustQ ws (takeP s) 2 [66, 89])).1, de := isP (wAt ws (pathF ws (mustQ ws (takeP s) 2 [66, 89])).2.at') 2 [68, 69, 83, 67] }, if isP (wAt ws (pathF ws (mustQ ws (takeP s) 2 [66, 89])).2.at') 2 [68, 69, 83, 67] then takeP (pathF ws (mustQ ws (takeP s) 2 [66, 89])).2 else (pathF ws (mustQ ws (takeP s) 2 [66, 89])).2)
  else (M, s)
theorem path_pk {ws : List Wd} (hz : Wz ws) {s : PS} (h : s.at' < ws.length) : Pk 0 0 ws s (pathF ws s).2 := Pk.path hz ws.length [nameS ws s] (nameP ws s) ((Pk.refl h).name hz)
set_option maxRecDepth 100000 in
set_option maxHeartbeats 8000000 in
theorem order_any {S : Nat → Prop} {b : Nat} {p : Option Addr} {c : Nat} {ws : List Wd} {x : Nat} {w : World} {M : Sm} {s : PS} (H : Sb S b p c ws x w w M s) (hz : Wz ws) (hl : Wl ws) (g : Gd ws s) :
    Calls Tryz.prog 127 #[.pointer (some ⟨b, 0, none⟩), .pointer (some ⟨x, 0, none⟩)] w (Gst S b p c ws x w (ordF ws M s)) := by
  have hlt := H.ps.lt
  unfold ordF
  by_cases hy : isP (wAt ws s.at') 2 [79, 82, 68, 69, 82] = true
  · rw [if_pos hy]
    have g1 := g.take hz hlt hy (by decide)
    have l1 : (takeP s).at' < ws.length := hz.next hlt (by rw [isP_kind hy]; decide)
    have g2 := g1.must hz l1 (k := 2) (by decide) [66, 89]
    have l2 := ((Pk.refl l1).must hz (k := 2) (by decide) [66, 89]).lt
    have g3 := g2.pk (path_pk hz l2)
    have l3 := (path_pk hz l2).lt
    by_cases hi : isP (wAt ws (pathF ws (mustQ ws (takeP s) 2 [66, 89])).2.at') 2 [68, 69, 83, 67] = true
    · rw [if_pos hi, hi]
      have HB0 : Hid (Sb S b p c ws x w w M s) := H
      have hbx := H.bx
      clear H
      go_enter Tryz.func127, Tryz.ntmps127
      have k0 := tookKey_yes HB0.out.ps hz [79, 82, 68, 69, 82] hy
      go_wp2_with fail
      refine k0.mono ?_
      rintro q w1 ⟨rfl, hP1, hO1⟩
      have HB1 : Hid (Sb S b p c ws x w w1 M (takeP s)) := HB0.out.calls hO1 hP1
      clear k0 hP1 hO1 HB0
      have k1 := pkey_q HB1.out.ps hz [66, 89]
      go_wp2_with fail
      refine k1.mono ?_
      rintro q w2 ⟨rfl, hP2, hO2⟩
      have HB2 : Hid (Sb S b p c ws x w w2 M (mustQ ws (takeP s) 2 [66, 89])) := HB1.out.calls hO2 hP2
      clear k1 hP2 hO2 HB1
      have k2 := path_any HB2.out.ps hz hl
      go_wp2_with fail
      refine k2.mono ?_
      rintro q w3 ⟨rfl, hP3, hO3⟩
      have HB3 : Hid (Sb S b p c ws x w w3 M (pathF ws (mustQ ws (takeP s) 2 [66, 89])).2) := HB2.out.calls hO3 hP3
      clear k2 hP3 hO3 HB2
      obtain ⟨R3, hr3, hx3⟩ := HB3.out.row
      have x3 : w3.cell? ⟨x, 28, none⟩ = some (.string R3.od) := cell_of_row w3 x 28 _ _ _ hr3
      have f3 := frozen_of_row w3 x 28 _ _ hr3
      obtain ⟨w4, hw4⟩ : ∃ wq, w3.setCell ⟨x, 28, none⟩ (.string (pathF ws (mustQ ws (takeP s) 2 [66, 89])).1) = wq := ⟨_, rfl⟩
      have HB4 : Hid (Sb S b p c ws x w w4 { M with od := (pathF ws (mustQ ws (takeP s) 2 [66, 89])).1 } (pathF ws (mustQ ws (takeP s) 2 [66, 89])).2) := by
        rw [← hw4]
        exact HB3.out.cell (N := { M with od := (pathF ws (mustQ ws (takeP s) 2 [66, 89])).1 }) hr3 28 (.string (pathF ws (mustQ ws (takeP s) 2 [66, 89])).1) (R2 := { R3 with od := (pathF ws (mustQ ws (takeP s) 2 [66, 89])).1 }) rfl { hx3 with od := rfl }
      clear hr3 hx3 HB3
      have k4 := tookKey_yes HB4.out.ps hz [68, 69, 83, 67] hi
      go_wp2_with fail
      refine k4.mono ?_
      rintro q w5 ⟨rfl, hP5, hO5⟩
      have HB5 : Hid (Sb S b p c ws x w w5 { M with od := (pathF ws (mustQ ws (takeP s) 2 [66, 89])).1 } (takeP (pathF ws (mustQ ws (takeP s) 2 [66, 89])).2)) := HB4.out.calls hO5 hP5
      clear k4 hP5 hO5 HB4
      clear hw4 x3 f3
      obtain ⟨R5, hr5, hx5⟩ := HB5.out.row
      have x5 : w5.cell? ⟨x, 29, none⟩ = some (.bool R5.de) := cell_of_row w5 x 29 _ _ _ hr5
      have f5 := frozen_of_row w5 x 29 _ _ hr5
      obtain ⟨w6, hw6⟩ : ∃ wq, w5.setCell ⟨x, 29, none⟩ (.bool true) = wq := ⟨_, rfl⟩
      have HB6 : Hid (Sb S b p c ws x w w6 { { M with od := (pathF ws (mustQ ws (takeP s) 2 [66, 89])).1 } with de := true } (takeP (pathF ws (mustQ ws (takeP s) 2 [66, 89])).2)) := by
        rw [← hw6]
        exact HB5.out.cell (N := { { M with od := (pathF ws (mustQ ws (takeP s) 2 [66, 89])).1 } with de := true }) hr5 29 (.bool true) (R2 := { R5 with de := true }) rfl { hx5 with de := rfl }
      clear hr5 hx5 HB5
      go_wp2
      go_end0
      exact ⟨rfl, HB6.out, (g3.take hz l3 hi (by decide))⟩
    · have hif : isP (wAt ws (pathF ws (mustQ ws (takeP s) 2 [66, 89])).2.at') 2 [68, 69, 83, 67] = false := by simpa using hi
      rw [if_neg hi, hif]
      have HB0 : Hid (Sb S b p c ws x w w M s) := H
      have hbx := H.bx
      clear H
      go_enter Tryz.func127, Tryz.ntmps127
      have k0 := tookKey_yes HB0.out.ps hz [79, 82, 68, 69, 82] hy
      go_wp2_with fail
      refine k0.mono ?_
      rintro q w1 ⟨rfl, hP1, hO1⟩
      have HB1 : Hid (Sb S b p c ws x w w1 M (takeP s)) := HB0.out.calls hO1 hP1
      clear k0 hP1 hO1 HB0
      have k1 := pkey_q HB1.out.ps hz [66, 89]
      go_wp2_with fail
      refine k1.mono ?_
      rintro q w2 ⟨rfl, hP2, hO2⟩
      have HB2 : Hid (Sb S b p c ws x w w2 M (mustQ ws (takeP s) 2 [66, 89])) := HB1.out.calls hO2 hP2
      clear k1 hP2 hO2 HB1
      have k2 := path_any HB2.out.ps hz hl
      go_wp2_with fail
      refine k2.mono ?_
      rintro q w3 ⟨rfl, hP3, hO3⟩
      have HB3 : Hid (Sb S b p c ws x w w3 M (pathF ws (mustQ ws (takeP s) 2 [66, 89])).2) := HB2.out.calls hO3 hP3
      clear k2 hP3 hO3 HB2
      obtain ⟨R3, hr3, hx3⟩ := HB3.out.row
      have x3 : w3.cell? ⟨x, 28, none⟩ = some (.string R3.od) := cell_of_row w3 x 28 _ _ _ hr3
      have f3 := frozen_of_row w3 x 28 _ _ hr3
      obtain ⟨w4, hw4⟩ : ∃ wq, w3.setCell ⟨x, 28, none⟩ (.string (pathF ws (mustQ ws (takeP s) 2 [66, 89])).1) = wq := ⟨_, rfl⟩
      have HB4 : Hid (Sb S b p c ws x w w4 { M with od := (pathF ws (mustQ ws (takeP s) 2 [66, 89])).1 } (pathF ws (mustQ ws (takeP s) 2 [66, 89])).2) := by
        rw [← hw4]
        exact HB3.out.cell (N := { M with od := (pathF ws (mustQ ws (takeP s) 2 [66, 89])).1 }) hr3 28 (.string (pathF ws (mustQ ws (takeP s) 2 [66, 89])).1) (R2 := { R3 with od := (pathF ws (mustQ ws (takeP s) 2 [66, 89])).1 }) rfl { hx3 with od := rfl }
      clear hr3 hx3 HB3
      have k4 := tookKey_no HB4.out.ps hz [68, 69, 83, 67] hif
      go_wp2_with fail
      refine k4.mono ?_
      rintro q w5 ⟨rfl, hP5, hO5⟩
      have HB5 : Hid (Sb S b p c ws x w w5 { M with od := (pathF ws (mustQ ws (takeP s) 2 [66, 89])).1 } (pathF ws (mustQ ws (takeP s) 2 [66, 89])).2) := HB4.out.calls hO5 hP5
      clear k4 hP5 hO5 HB4
      clear hw4 x3 f3
      obtain ⟨R5, hr5, hx5⟩ := HB5.out.row
      have x5 : w5.cell? ⟨x, 29, none⟩ = some (.bool R5.de) := cell_of_row w5 x 29 _ _ _ hr5
      have f5 := frozen_of_row w5 x 29 _ _ hr5
      obtain ⟨w6, hw6⟩ : ∃ wq, w5.setCell ⟨x, 29, none⟩ (.bool false) = wq := ⟨_, rfl⟩
      have HB6 : Hid (Sb S b p c ws x w w6 { { M with od := (pathF ws (mustQ ws (takeP s) 2 [66, 89])).1 } with de := false } (pathF ws (mustQ ws (takeP s) 2 [66, 89])).2) := by
        rw [← hw6]
        exact HB5.out.cell (N := { { M with od := (pathF ws (mustQ ws (takeP s) 2 [66, 89])).1 } with de := false }) hr5 29 (.bool false) (R2 := { R5 with de := false }) rfl { hx5 with de := rfl }
      clear hr5 hx5 HB5
      go_wp2
      go_end0
      exact ⟨rfl, HB6.out, g3⟩
  · rw [if_neg hy]
    have hyf : isP (wAt ws s.at') 2 [79, 82, 68, 69, 82] = false := by simpa using hy
    have HB0 : Hid (Sb S b p c ws x w w M s) := H
    have hbx := H.bx
    clear H
    go_enter Tryz.func127, Tryz.ntmps127
    have k0 := tookKey_no HB0.out.ps hz [79, 82, 68, 69, 82] hyf
    go_wp2_with fail
    refine k0.mono ?_
    rintro q w1 ⟨rfl, hP1, hO1⟩
    have HB1 : Hid (Sb S b p c ws x w w1 M s) := HB0.out.calls hO1 hP1
    clear k0 hP1 hO1 HB0
    go_wp2
    go_end0
    exact ⟨rfl, HB1.out, g⟩

end Go.Proofs.YtfemippjaokcmaaGreatDoor
