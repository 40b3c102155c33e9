/- The span of a value's keys (keys.Equal), and what is in it. What AND joins in an expression, behind others (plan.joined): parts of an expression in a list of one's own. Small helpers: what an expression and its kids are in memory. The span of a sign and a value (plan.Span), what the value's key is being known. plan.joined: any expression. plan.joined: an expression whose two sides AND joins; any expression. -/
import Derived.Test.YtfemippjaokcmaaGreatDoorXax
import Derived.Test.YtfemippjaokcmaaGreatDoorXap
namespace Go.Proofs.YtfemippjaokcmaaGreatDoor.V
open Go.RowKit

end Go.Proofs.YtfemippjaokcmaaGreatDoor.V
namespace Go.Proofs.YtfemippjaokcmaaGreatDoor
open Go.RowKit Go.Shelf
attribute [local go_sem] Oper.semAt_some fw0 fw1 fw2
def partsE : Nat → Et → List Et
  | 0, _ => []
  | d + 1, t => if (t []).k = 0 then [] else if (t []).k = 6 ∧ (t []).s.data.toList = [65, 78, 68] ∧ (t []).n = 2 then partsE d (t.sub 0) ++ partsE d (t.sub 1) else [t]
/- A list of one's own beside memory that stays: its elements lie in blocks below a number. -/
structure Ow {α : Type} (E : World → (Nat → Prop) → α → List Value → Prop) (T z base : Nat) (W : World) (v : Value) (l : List α) : Prop where
  own : ∃ L, W.ownsRow base T z v l.length L ∧ Els E W (fun k => k < base) l L
/- What a call that adds to such a list may change: the list's own block, and nothing else. -/
structure Upd (u u' : Value) (W W' : World) : Prop where
  os : W'.os = W.os
  tape : W'.tape = W.tape
  output : W'.output = W.output
  size : W.heap.size ≤ W'.heap.size
  block : ∀ k, k < W.heap.size → u.ownBlock ≠ some k → W'.heap[k]? = W.heap[k]?
  own : ∀ k, u'.ownBlock = some k → u.ownBlock = some k ∨ W.heap.size ≤ k
theorem Upd.refl (u : Value) (W : World) : Upd u u W W := ⟨rfl, rfl, rfl, Nat.le_refl _, fun _ _ _ => rfl, fun _ h => .inl h⟩
theorem Upd.trans {u u1 u2 : Value} {a b c : World} (h : Upd u u1 a b) (k : Upd u1 u2 b c) : Upd u u2 a c := by
  refine ⟨k.os.trans h.os, k.tape.trans h.tape, k.output.trans h.output, Nat.le_trans h.size k.size, fun j hj hu => ?_, fun j hj => ?_⟩
  · refine (k.block j (Nat.lt_of_lt_of_le hj h.size) (fun e => ?_)).trans (h.block j hj hu)
    rcases h.own j e with h1 | h1
    · exact hu h1
    · omega
  · rcases k.own j hj with h1 | h1
    · exact h.own j h1
    · exact .inr (Nat.le_trans h.size h1)
theorem Upd.below {u u' : Value} {a b : World} (h : Upd u u' a b) {base : Nat} (hb : base ≤ a.heap.size) (hu : ∀ k, u.ownBlock = some k → base ≤ k) : Below base a b :=
  ⟨h.os, h.tape, h.output, h.size, fun k hk => h.block k (Nat.lt_of_lt_of_le hk hb) (fun e => by have := hu k e; omega)⟩
theorem Upd.after {u u' : Value} {w a b : World} (hb : Below w.heap.size w a) (h : Upd u u' a b) (_hu : ∀ k, u.ownBlock = some k → k < w.heap.size) : Upd u u' w b := by
  refine ⟨h.os.trans hb.os, h.tape.trans hb.tape, h.output.trans hb.output, Nat.le_trans hb.size h.size, fun k hk he => (h.block k (Nat.lt_of_lt_of_le hk hb.size) he).trans (hb.block k hk), fun k hk => ?_⟩
  rcases h.own k hk with h1 | h1
  · exact .inl h1
  · exact .inr (Nat.le_trans hb.size h1)
theorem Ow.later {α : Type} {E : World → (Nat → Prop) → α → List Value → Prop} {T z base : Nat} (hE : Elem E z) {W W' : World} {v : Value} {l : List α} (h : Ow E T z base W v l) (hb : Below W.heap.size W W') (_hB : base ≤ W.heap.size) : Ow E T z base W' v l := by
  obtain ⟨L, h1, h2⟩ := h.own
  refine ⟨L, ⟨h1.1, ?_⟩, h2.since hE ⟨hb.size, fun k _ hl => hb.block k hl⟩⟩
  rcases h1.2 with hn | ⟨g, cap, cur, hv, hg, hr, rest⟩
  · exact .inl hn
  · exact .inr ⟨g, cap, cur, hv, hg, (hb.block g (lt_of_row hr)).trans hr, rest⟩
theorem Ow.start {α : Type} (E : World → (Nat → Prop) → α → List Value → Prop) (T z base : Nat) (W : World) : Ow E T z base W (.slice none 0 0) ([] : List α) := ⟨[], World.ownsRow_nil _ _ _ _, rfl⟩
/- One more behind the others. -/
theorem Ow.more {α : Type} {E : World → (Nat → Prop) → α → List Value → Prop} {T z base : Nat} (hE : Elem E z) {W W2 W3 : World} {v v' : Value} {l : List α} {L : List Value} (hown : W.ownsRow base T z v l.length L) (h2 : Els E W (fun k => k < base) l L) {x : α} {d : List Value} (hx : E W (fun k => k < base) x d) (hb : Below W.heap.size W W2) (_hB : base ≤ W.heap.size)
    (ho : W3.ownsRow base T z v' (l.length + 1) (L ++ d)) (hg : W2.grownBy W3 v.ownBlock) : Ow E T z base W3 v' (l ++ [x]) := by
  have hu := fun k hk => (hown.lt k hk).1
  refine ⟨L ++ d, by rw [show (l ++ [x]).length = l.length + 1 by simp]; exact ho, ?_⟩
  refine (Els.app hx h2).since hE ⟨Nat.le_trans hb.size hg.size, fun k hk hl => ?_⟩
  refine (hg.block k (Nat.lt_of_lt_of_le hl hb.size) (fun e => ?_)).trans (hb.block k hl)
  have hk' : k < base := hk
  have := hu k e.symm
  omega
theorem Upd.grown {v v' : Value} {W W2 W3 : World} (hb : Below W.heap.size W W2) (hg : W2.grownBy W3 v.ownBlock) (ha : v'.ownBlock = v.ownBlock ∨ v'.ownBlock = some W2.heap.size) : Upd v v' W W3 := by
  refine ⟨hg.os.trans hb.os, hg.tape.trans hb.tape, hg.output.trans hb.output, Nat.le_trans hb.size hg.size, fun k hk he => (hg.block k (Nat.lt_of_lt_of_le hk hb.size) (fun e => he e.symm)).trans (hb.block k hk), fun k hk => ?_⟩
  rcases ha with ha | ha
  · exact .inl (ha ▸ hk)
  · rw [ha] at hk
    injection hk with hk
    exact .inr (by have := hb.size; omega)
end Go.Proofs.YtfemippjaokcmaaGreatDoor
namespace Go.Proofs.YtfemippjaokcmaaGreatDoor
open Go.RowKit Go.Shelf
theorem mkHid {p : Prop} (h : p) : Hid p := h
theorem alloc1 {w u : World} {a : Obj} (h : w.alloc a = u) : u.heap[w.heap.size]? = some a ∧ Below w.heap.size w u := by
  rw [← h]
  exact ⟨heap_alloc_new _ _, (Below.refl _ w).alloc (Nat.le_refl _) _⟩
theorem alloc2 {w u : World} {a b : Obj} (h : (w.alloc a).alloc b = u) : u.heap[w.heap.size]? = some a ∧ u.heap[w.heap.size + 1]? = some b ∧ Below w.heap.size w u := by
  obtain ⟨h1, b1⟩ := alloc1 (rfl : w.alloc a = w.alloc a)
  obtain ⟨h2, b2⟩ := alloc1 h
  have e : (w.alloc a).heap.size = w.heap.size + 1 := by simp
  rw [e] at h2
  exact ⟨(b2.block _ (by omega)).trans h1, h2, b1.trans (b2.mono (by omega))⟩
theorem alloc3 {w u : World} {a b c : Obj} (h : ((w.alloc a).alloc b).alloc c = u) : u.heap[w.heap.size]? = some a ∧ u.heap[w.heap.size + 1]? = some b ∧ u.heap[w.heap.size + 1 + 1]? = some c ∧ Below w.heap.size w u := by
  obtain ⟨h1, h2, b1⟩ := alloc2 (rfl : (w.alloc a).alloc b = (w.alloc a).alloc b)
  obtain ⟨h3, b2⟩ := alloc1 h
  have e : ((w.alloc a).alloc b).heap.size = w.heap.size + 1 + 1 := by simp
  rw [e] at h3
  exact ⟨(b2.block _ (by omega)).trans h1, (b2.block _ (by omega)).trans h2, h3, b1.trans (b2.mono (by omega))⟩
theorem Below.row {w w' : World} {k : Nat} {o : Obj} (hb : Below w.heap.size w w') (h : w.heap[k]? = some o) : w'.heap[k]? = some o := (hb.block k (lt_of_row h)).trans h
def At10 (w : World) (g o : Nat) (R : XR) : Prop := ∀ j, j < 10 → w.cell? ⟨g, o + j, none⟩ = (arrX R)[j]?
theorem LiesE.tops {w : World} {S : Nat → Prop} {d : Nat} {t : Et} {R : XR} (h : LiesE w S d t (rowX R)) : R.k = ((t []).k : Int) ∧ R.s = (t []).s ∧ R.vk = ((t []).vk : Int) ∧ R.vb = (t []).vb ∧ R.vn = (t []).vn ∧ R.vs = (t []).vs ∧ R.n = (t []).n := by
  obtain ⟨kp, kc, np, nc, e⟩ := h.form
  unfold rowX enV at e
  injection e with e
  have e' := congrArg Array.toList e
  simp only [List.cons.injEq, Value.int.injEq, Value.string.injEq, Value.slice.injEq, Value.bool.injEq] at e'
  obtain ⟨h1, h2, h3, h4, h5, h6, h7, h8, h9, h10⟩ := e'
  exact ⟨h1.2, h2, h3.2, h4, h5.2, h6, h9.2.1⟩
theorem at10_of {w : World} {g o : Nat} {K : Nat → Value} {R : XR} (e : row10 K = rowX R) (h : ∀ j, j < 10 → w.cell? ⟨g, o + j, none⟩ = some (K j)) : At10 w g o R := by
  intro j hj
  rw [h j hj]
  unfold row10 rowX at e
  injection e with e
  have e' := congrArg Array.toList e
  simp only [List.cons.injEq] at e'
  obtain ⟨h0, h1, h2, h3, h4, h5, h6, h7, h8, h9, -⟩ := e'
  obtain rfl | rfl | rfl | rfl | rfl | rfl | rfl | rfl | rfl | rfl : j = 0 ∨ j = 1 ∨ j = 2 ∨ j = 3 ∨ j = 4 ∨ j = 5 ∨ j = 6 ∨ j = 7 ∨ j = 8 ∨ j = 9 := by omega
  · rw [h0]; rfl
  · rw [h1]; rfl
  · rw [h2]; rfl
  · rw [h3]; rfl
  · rw [h4]; rfl
  · rw [h5]; rfl
  · rw [h6]; rfl
  · rw [h7]; rfl
  · rw [h8]; rfl
  · rw [h9]; rfl
theorem LiesE.pair {w : World} {S : Nat → Prop} {d : Nat} {t : Et} {R : XR} (h : LiesE w S d t (rowX R)) (hn : (t []).n = 2) :
    ∃ g o R0 R1 d', R.kp = some ⟨g, o, none⟩ ∧ g < w.heap.size ∧ (2 ≤ R.kc ∧ R.kc ≤ maxLen) ∧ At10 w g o R0 ∧ At10 w g (o + 10) R1 ∧ LiesE w S d' (t.sub 0) (rowX R0) ∧ LiesE w S d' (t.sub 1) (rowX R1) := by
  cases d with
  | zero => exact h.elim
  | succ d =>
    obtain ⟨kp, kc, np, nc, K, e, -, hK, hk⟩ := h
    unfold rowX enV at e
    injection e with e
    have e' := congrArg Array.toList e
    simp only [List.cons.injEq, Value.int.injEq, Value.string.injEq, Value.slice.injEq] at e'
    obtain ⟨h1, h2, h3, h4, h5, h6, h7, h8, h9, h10⟩ := e'
    obtain ⟨g, o, hp, -, hg, hc⟩ := hK.lies (by omega)
    have hcap := hK.cap
    have k0 := hk 0 (by omega)
    have k1 := hk 1 (by omega)
    obtain ⟨R0, e0⟩ := k0.row
    obtain ⟨R1, e1⟩ := k1.row
    rw [e0] at k0
    rw [e1] at k1
    refine ⟨g, o, R0, R1, d, by rw [h9.1, hp], hg, by rw [h9.2.2]; omega, ?_, ?_, k0, k1⟩
    · exact at10_of e0 (fun j hj => by have := hc 0 (by omega) j hj; simpa using this)
    · exact at10_of e1 (fun j hj => by have := hc 1 (by omega) j hj; simpa using this)
theorem At10.later {w w' : World} {g o : Nat} {R : XR} (h : At10 w g o R) (hg : g < w.heap.size) (hb : Below w.heap.size w w') : At10 w' g o R := fun j hj => (hb.cell (p := ⟨g, o + j, none⟩) hg).trans (h j hj)
end Go.Proofs.YtfemippjaokcmaaGreatDoor
namespace Go.Proofs.YtfemippjaokcmaaGreatDoor
open Go.RowKit Go.Shelf
attribute [local go_sem] Oper.semAt_some fw0 fw1 fw2
set_option maxRecDepth 100000 in
set_option maxHeartbeats 4000000 in
theorem equal_of {k : Int} {b : Bool} {n : Int} {s : ByteArray} {pa : Option Addr} {m pc : Nat} {na : Option Addr} {q nc : Nat} {w : World} {K : ByteArray} (hsz : K.size ≤ maxLen)
    (hof : ∀ W, Below w.heap.size w W → Calls Tryz.prog 46 #[.agg #[.int .i64 k, .bool b, .int .i64 n, .string s, .slice pa m pc, .slice na q nc]] W fun e w' => e = .returned (.string K) ∧ Below W.heap.size W w') :
    Calls Tryz.prog 45 #[.agg #[.int .i64 k, .bool b, .int .i64 n, .string s, .slice pa m pc, .slice na q nc]] w fun e w' => e = .returned (.agg #[.string K, .string (V.nextB K)]) ∧ Below w.heap.size w w' := by
  have hnx := fun W => V.next_any K hsz W
  obtain ⟨N, hN⟩ : ∃ N, V.nextB K = N := ⟨_, rfl⟩
  rw [hN] at hnx ⊢
  clear hN
  obtain ⟨w2, hw2⟩ : ∃ u, (w.alloc (.cells #[.int .i64 k, .bool b, .int .i64 n, .string s, .slice pa m pc, .slice na q nc] 25)).alloc (.cells #[.string ⟨#[]⟩, .string ⟨#[]⟩] 33) = u := ⟨_, rfl⟩
  obtain ⟨r0, r1, bw⟩ := alloc2 hw2
  have HW := mkHid hw2
  have hof2 := hof w2 bw
  have cx0 := cell_of_row w2 _ 0 _ _ _ r0
  have cx1 := cell_of_row w2 _ 1 _ _ _ r0
  have cx2 := cell_of_row w2 _ 2 _ _ _ r0
  have cx3 := cell_of_row w2 _ 3 _ _ _ r0
  have cx4 := cell_of_row w2 _ 4 _ _ _ r0
  have cx5 := cell_of_row w2 _ 5 _ _ _ r0
  have HB : Hid (Below w.heap.size w w2 ∧ w2.heap[w.heap.size + 1]? = some (.cells #[.string ⟨#[]⟩, .string ⟨#[]⟩] 33 (0, 0))) := ⟨bw, r1⟩
  clear hw2 r0 r1 bw hof hsz
  go_enter Tryz.func45, Tryz.ntmps45
  go_wp2_with (first | rw [HW.out] | fail)
  refine hof2.mono ?_
  rintro e w3 ⟨rfl, hb3⟩
  have H3 : Hid (Below w2.heap.size w2 w3) := hb3
  clear hb3 hof2
  go_wp2_with fail
  refine (hnx _).mono ?_
  rintro e w4 ⟨rfl, hb4⟩
  have hr4 := Below.row hb4 (Below.row H3.out HB.out.2)
  have hbw : Below w.heap.size w w4 := (HB.out.1.trans (H3.out.mono HB.out.1.size)).trans (hb4.mono (Nat.le_trans HB.out.1.size H3.out.size))
  have c0 := cell_of_row w4 _ 0 _ _ _ hr4
  have c1 := cell_of_row w4 _ 1 _ _ _ hr4
  have f0 := frozen_of_row w4 _ 0 _ _ hr4
  have f1 := frozen_of_row w4 _ 1 _ _ hr4
  clear hb4 hnx
  go_wp2
  have hrow3 : ((w4.setCell ⟨w.heap.size + 1, 0, none⟩ (.string K)).setCell ⟨w.heap.size + 1, 1, none⟩ (.string N)).heap[w.heap.size + 1]? = some (.cells #[.string K, .string N] 33 (0, 0)) := row_setCell (k := 1) (row_setCell (k := 0) hr4 (.string K)) (.string N)
  have hbf : Below w.heap.size w ((w4.setCell ⟨w.heap.size + 1, 0, none⟩ (.string K)).setCell ⟨w.heap.size + 1, 1, none⟩ (.string N)) := (hbw.setCell (p := ⟨w.heap.size + 1, 0, none⟩) (by show w.heap.size ≤ w.heap.size + 1; omega) _).setCell (p := ⟨w.heap.size + 1, 1, none⟩) (by show w.heap.size ≤ w.heap.size + 1; omega) _
  obtain ⟨wf, hwf⟩ : ∃ wf, ((w4.setCell ⟨w.heap.size + 1, 0, none⟩ (.string K)).setCell ⟨w.heap.size + 1, 1, none⟩ (.string N)) = wf := ⟨_, rfl⟩
  rw [hwf] at hrow3 hbf ⊢
  clear hwf
  have o0 := cell_of_row wf _ 0 _ _ _ hrow3
  have o1 := cell_of_row wf _ 1 _ _ _ hrow3
  exact bodyPost_ret (v := .agg #[.string K, .string N]) (by simp [results, Tryz.results45, go_sem, o0, o1]) rfl ⟨rfl, hbf⟩
/- What a sign and a value's key say: from where on, up to where; whether the sign says it. -/
def spanF (sg : List UInt8) (K : ByteArray) : ByteArray × ByteArray × Bool :=
  if sg = [61] then (K, V.nextB K, true) else if sg = [60] then (⟨#[]⟩, K, true) else if sg = [60, 61] then (⟨#[]⟩, V.nextB K, true) else if sg = [62] then (V.nextB K, ⟨#[]⟩, true) else if sg = [62, 61] then (K, ⟨#[]⟩, true) else (⟨#[]⟩, ⟨#[]⟩, false)
theorem info33 : (Tryz.prog.info? 33).map (·.size) = some 2 := by kernel_rfl
set_option maxRecDepth 100000 in
set_option maxHeartbeats 4000000 in
theorem span_eq {k : Int} {b : Bool} {n : Int} {s : ByteArray} {pa : Option Addr} {m pc : Nat} {na : Option Addr} {q nc : Nat} {w : World} {K : ByteArray} (hsz : K.size ≤ maxLen)
    (hof : ∀ W, Below w.heap.size w W → Calls Tryz.prog 46 #[.agg #[.int .i64 k, .bool b, .int .i64 n, .string s, .slice pa m pc, .slice na q nc]] W fun e w' => e = .returned (.string K) ∧ Below W.heap.size W w') :
    Calls Tryz.prog 20 #[.string ⟨#[61]⟩, .agg #[.int .i64 k, .bool b, .int .i64 n, .string s, .slice pa m pc, .slice na q nc]] w fun e w' => e = .returned (.tuple #[.agg #[.string K, .string (V.nextB K)], .bool true]) ∧ Below w.heap.size w w' := by
  have heq := fun (W : World) (hb : Below w.heap.size w W) => equal_of (w := W) hsz (fun W2 hb2 => hof W2 (hb.trans (hb2.mono hb.size)))
  obtain ⟨N, hN⟩ : ∃ N, V.nextB K = N := ⟨_, rfl⟩
  rw [hN] at heq ⊢
  clear hN
  obtain ⟨w2, hw2⟩ : ∃ u, (w.alloc (.cells #[.int .i64 k, .bool b, .int .i64 n, .string s, .slice pa m pc, .slice na q nc] 25)).alloc (.cells #[.string ⟨#[]⟩, .string ⟨#[]⟩] 33) = u := ⟨_, rfl⟩
  obtain ⟨r0, r1, bw⟩ := alloc2 hw2
  have HW := mkHid hw2
  have hof2 := heq w2 bw
  have cx0 := cell_of_row w2 _ 0 _ _ _ r0
  have cx1 := cell_of_row w2 _ 1 _ _ _ r0
  have cx2 := cell_of_row w2 _ 2 _ _ _ r0
  have cx3 := cell_of_row w2 _ 3 _ _ _ r0
  have cx4 := cell_of_row w2 _ 4 _ _ _ r0
  have cx5 := cell_of_row w2 _ 5 _ _ _ r0
  have HB : Hid (Below w.heap.size w w2 ∧ w2.heap[w.heap.size + 1]? = some (.cells #[.string ⟨#[]⟩, .string ⟨#[]⟩] 33 (0, 0))) := ⟨bw, r1⟩
  clear hw2 r0 r1 bw hof hsz heq
  go_enter Tryz.func20, Tryz.ntmps20
  go_wp2_with (first | rw [HW.out] | fail)
  refine hof2.mono ?_
  rintro e w3 ⟨rfl, hb3⟩
  have hr4 := Below.row hb3 HB.out.2
  have hbw : Below w.heap.size w w3 := HB.out.1.trans (hb3.mono HB.out.1.size)
  clear hb3 hof2
  have c0 := cell_of_row w3 _ 0 _ _ _ hr4
  have c1 := cell_of_row w3 _ 1 _ _ _ hr4
  have f0 := frozen_of_row w3 _ 0 _ _ hr4
  have f1 := frozen_of_row w3 _ 1 _ _ hr4
  go_wp2
  have hrow3 : ((w3.setCell ⟨w.heap.size + 1, 0, none⟩ (.string K)).setCell ⟨w.heap.size + 1, 1, none⟩ (.string N)).heap[w.heap.size + 1]? = some (.cells #[.string K, .string N] 33 (0, 0)) := row_setCell (k := 1) (row_setCell (k := 0) hr4 (.string K)) (.string N)
  have hbf : Below w.heap.size w ((w3.setCell ⟨w.heap.size + 1, 0, none⟩ (.string K)).setCell ⟨w.heap.size + 1, 1, none⟩ (.string N)) := (hbw.setCell (p := ⟨w.heap.size + 1, 0, none⟩) (by show w.heap.size ≤ w.heap.size + 1; omega) _).setCell (p := ⟨w.heap.size + 1, 1, none⟩) (by show w.heap.size ≤ w.heap.size + 1; omega) _
  exact bodyPost_ret (results_row_tmp Tryz.results20 _ _ (w.heap.size + 1) 33 _ (0, 0) _ rfl hrow3 Tryz.underlying33 rfl info33) rfl ⟨rfl, hbf⟩
set_option maxRecDepth 100000 in
set_option maxHeartbeats 4000000 in
theorem span_lt {k : Int} {b : Bool} {n : Int} {s : ByteArray} {pa : Option Addr} {m pc : Nat} {na : Option Addr} {q nc : Nat} {w : World} {K : ByteArray} (hsz : K.size ≤ maxLen)
    (hof : ∀ W, Below w.heap.size w W → Calls Tryz.prog 46 #[.agg #[.int .i64 k, .bool b, .int .i64 n, .string s, .slice pa m pc, .slice na q nc]] W fun e w' => e = .returned (.string K) ∧ Below W.heap.size W w') :
    Calls Tryz.prog 20 #[.string ⟨#[60]⟩, .agg #[.int .i64 k, .bool b, .int .i64 n, .string s, .slice pa m pc, .slice na q nc]] w fun e w' => e = .returned (.tuple #[.agg #[.string ⟨#[]⟩, .string K], .bool true]) ∧ Below w.heap.size w w' := by
  have hnx := fun W => V.next_any K hsz W
  obtain ⟨N, hN⟩ : ∃ N, V.nextB K = N := ⟨_, rfl⟩
  rw [hN] at hnx
  clear hN
  obtain ⟨w2, hw2⟩ : ∃ u, (w.alloc (.cells #[.int .i64 k, .bool b, .int .i64 n, .string s, .slice pa m pc, .slice na q nc] 25)).alloc (.cells #[.string ⟨#[]⟩, .string ⟨#[]⟩] 33) = u := ⟨_, rfl⟩
  obtain ⟨r0, r1, bw⟩ := alloc2 hw2
  have HW := mkHid hw2
  have hof2 := hof w2 bw
  have cx0 := cell_of_row w2 _ 0 _ _ _ r0
  have cx1 := cell_of_row w2 _ 1 _ _ _ r0
  have cx2 := cell_of_row w2 _ 2 _ _ _ r0
  have cx3 := cell_of_row w2 _ 3 _ _ _ r0
  have cx4 := cell_of_row w2 _ 4 _ _ _ r0
  have cx5 := cell_of_row w2 _ 5 _ _ _ r0
  have HB : Hid (Below w.heap.size w w2 ∧ w2.heap[w.heap.size + 1]? = some (.cells #[.string ⟨#[]⟩, .string ⟨#[]⟩] 33 (0, 0))) := ⟨bw, r1⟩
  clear hw2 r0 r1 bw hof hsz
  go_enter Tryz.func20, Tryz.ntmps20
  go_wp2_with (first | rw [HW.out] | fail)
  refine hof2.mono ?_
  rintro e w3 ⟨rfl, hb3⟩
  have hr4 := Below.row hb3 HB.out.2
  have hbw : Below w.heap.size w w3 := HB.out.1.trans (hb3.mono HB.out.1.size)
  clear hb3 hof2 hnx
  have c0 := cell_of_row w3 _ 0 _ _ _ hr4
  have c1 := cell_of_row w3 _ 1 _ _ _ hr4
  have f0 := frozen_of_row w3 _ 0 _ _ hr4
  have f1 := frozen_of_row w3 _ 1 _ _ hr4
  go_wp2
  have hrow3 : ((w3.setCell ⟨w.heap.size + 1, 0, none⟩ (.string ⟨#[]⟩)).setCell ⟨w.heap.size + 1, 1, none⟩ (.string K)).heap[w.heap.size + 1]? = some (.cells #[.string ⟨#[]⟩, .string K] 33 (0, 0)) := row_setCell (k := 1) (row_setCell (k := 0) hr4 (.string ⟨#[]⟩)) (.string K)
  have hbf : Below w.heap.size w ((w3.setCell ⟨w.heap.size + 1, 0, none⟩ (.string ⟨#[]⟩)).setCell ⟨w.heap.size + 1, 1, none⟩ (.string K)) := (hbw.setCell (p := ⟨w.heap.size + 1, 0, none⟩) (by show w.heap.size ≤ w.heap.size + 1; omega) _).setCell (p := ⟨w.heap.size + 1, 1, none⟩) (by show w.heap.size ≤ w.heap.size + 1; omega) _
  exact bodyPost_ret (results_row_tmp Tryz.results20 _ _ (w.heap.size + 1) 33 _ (0, 0) _ rfl hrow3 Tryz.underlying33 rfl info33) rfl ⟨rfl, hbf⟩
set_option maxRecDepth 100000 in
set_option maxHeartbeats 4000000 in
theorem span_le {k : Int} {b : Bool} {n : Int} {s : ByteArray} {pa : Option Addr} {m pc : Nat} {na : Option Addr} {q nc : Nat} {w : World} {K : ByteArray} (hsz : K.size ≤ maxLen)
    (hof : ∀ W, Below w.heap.size w W → Calls Tryz.prog 46 #[.agg #[.int .i64 k, .bool b, .int .i64 n, .string s, .slice pa m pc, .slice na q nc]] W fun e w' => e = .returned (.string K) ∧ Below W.heap.size W w') :
    Calls Tryz.prog 20 #[.string ⟨#[60, 61]⟩, .agg #[.int .i64 k, .bool b, .int .i64 n, .string s, .slice pa m pc, .slice na q nc]] w fun e w' => e = .returned (.tuple #[.agg #[.string ⟨#[]⟩, .string (V.nextB K)], .bool true]) ∧ Below w.heap.size w w' := by
  have hnx := fun W => V.next_any K hsz W
  obtain ⟨N, hN⟩ : ∃ N, V.nextB K = N := ⟨_, rfl⟩
  rw [hN] at hnx
  rw [hN]
  clear hN
  obtain ⟨w2, hw2⟩ : ∃ u, (w.alloc (.cells #[.int .i64 k, .bool b, .int .i64 n, .string s, .slice pa m pc, .slice na q nc] 25)).alloc (.cells #[.string ⟨#[]⟩, .string ⟨#[]⟩] 33) = u := ⟨_, rfl⟩
  obtain ⟨r0, r1, bw⟩ := alloc2 hw2
  have HW := mkHid hw2
  have hof2 := hof w2 bw
  have cx0 := cell_of_row w2 _ 0 _ _ _ r0
  have cx1 := cell_of_row w2 _ 1 _ _ _ r0
  have cx2 := cell_of_row w2 _ 2 _ _ _ r0
  have cx3 := cell_of_row w2 _ 3 _ _ _ r0
  have cx4 := cell_of_row w2 _ 4 _ _ _ r0
  have cx5 := cell_of_row w2 _ 5 _ _ _ r0
  have HB : Hid (Below w.heap.size w w2 ∧ w2.heap[w.heap.size + 1]? = some (.cells #[.string ⟨#[]⟩, .string ⟨#[]⟩] 33 (0, 0))) := ⟨bw, r1⟩
  clear hw2 r0 r1 bw hof hsz
  go_enter Tryz.func20, Tryz.ntmps20
  go_wp2_with (first | rw [HW.out] | fail)
  refine hof2.mono ?_
  rintro e w3 ⟨rfl, hb3⟩
  have H3 : Hid (Below w2.heap.size w2 w3) := hb3
  clear hb3 hof2
  go_wp2_with fail
  refine (hnx _).mono ?_
  rintro e w4 ⟨rfl, hb4⟩
  have hr4 := Below.row hb4 (Below.row H3.out HB.out.2)
  have hbw : Below w.heap.size w w4 := (HB.out.1.trans (H3.out.mono HB.out.1.size)).trans (hb4.mono (Nat.le_trans HB.out.1.size H3.out.size))
  clear hb4 hnx
  have c0 := cell_of_row w4 _ 0 _ _ _ hr4
  have c1 := cell_of_row w4 _ 1 _ _ _ hr4
  have f0 := frozen_of_row w4 _ 0 _ _ hr4
  have f1 := frozen_of_row w4 _ 1 _ _ hr4
  go_wp2
  have hrow3 : ((w4.setCell ⟨w.heap.size + 1, 0, none⟩ (.string ⟨#[]⟩)).setCell ⟨w.heap.size + 1, 1, none⟩ (.string N)).heap[w.heap.size + 1]? = some (.cells #[.string ⟨#[]⟩, .string N] 33 (0, 0)) := row_setCell (k := 1) (row_setCell (k := 0) hr4 (.string ⟨#[]⟩)) (.string N)
  have hbf : Below w.heap.size w ((w4.setCell ⟨w.heap.size + 1, 0, none⟩ (.string ⟨#[]⟩)).setCell ⟨w.heap.size + 1, 1, none⟩ (.string N)) := (hbw.setCell (p := ⟨w.heap.size + 1, 0, none⟩) (by show w.heap.size ≤ w.heap.size + 1; omega) _).setCell (p := ⟨w.heap.size + 1, 1, none⟩) (by show w.heap.size ≤ w.heap.size + 1; omega) _
  exact bodyPost_ret (results_row_tmp Tryz.results20 _ _ (w.heap.size + 1) 33 _ (0, 0) _ rfl hrow3 Tryz.underlying33 rfl info33) rfl ⟨rfl, hbf⟩
set_option maxRecDepth 100000 in
set_option maxHeartbeats 4000000 in
theorem span_gt {k : Int} {b : Bool} {n : Int} {s : ByteArray} {pa : Option Addr} {m pc : Nat} {na : Option Addr} {q nc : Nat} {w : World} {K : ByteArray} (hsz : K.size ≤ maxLen)
    (hof : ∀ W, Below w.heap.size w W → Calls Tryz.prog 46 #[.agg #[.int .i64 k, .bool b, .int .i64 n, .string s, .slice pa m pc, .slice na q nc]] W fun e w' => e = .returned (.string K) ∧ Below W.heap.size W w') :
    Calls Tryz.prog 20 #[.string ⟨#[62]⟩, .agg #[.int .i64 k, .bool b, .int .i64 n, .string s, .slice pa m pc, .slice na q nc]] w fun e w' => e = .returned (.tuple #[.agg #[.string (V.nextB K), .string ⟨#[]⟩], .bool true]) ∧ Below w.heap.size w w' := by
  have hnx := fun W => V.next_any K hsz W
  obtain ⟨N, hN⟩ : ∃ N, V.nextB K = N := ⟨_, rfl⟩
  rw [hN] at hnx
  rw [hN]
  clear hN
  obtain ⟨w2, hw2⟩ : ∃ u, (w.alloc (.cells #[.int .i64 k, .bool b, .int .i64 n, .string s, .slice pa m pc, .slice na q nc] 25)).alloc (.cells #[.string ⟨#[]⟩, .string ⟨#[]⟩] 33) = u := ⟨_, rfl⟩
  obtain ⟨r0, r1, bw⟩ := alloc2 hw2
  have HW := mkHid hw2
  have hof2 := hof w2 bw
  have cx0 := cell_of_row w2 _ 0 _ _ _ r0
  have cx1 := cell_of_row w2 _ 1 _ _ _ r0
  have cx2 := cell_of_row w2 _ 2 _ _ _ r0
  have cx3 := cell_of_row w2 _ 3 _ _ _ r0
  have cx4 := cell_of_row w2 _ 4 _ _ _ r0
  have cx5 := cell_of_row w2 _ 5 _ _ _ r0
  have HB : Hid (Below w.heap.size w w2 ∧ w2.heap[w.heap.size + 1]? = some (.cells #[.string ⟨#[]⟩, .string ⟨#[]⟩] 33 (0, 0))) := ⟨bw, r1⟩
  clear hw2 r0 r1 bw hof hsz
  go_enter Tryz.func20, Tryz.ntmps20
  go_wp2_with (first | rw [HW.out] | fail)
  refine hof2.mono ?_
  rintro e w3 ⟨rfl, hb3⟩
  have H3 : Hid (Below w2.heap.size w2 w3) := hb3
  clear hb3 hof2
  go_wp2_with fail
  refine (hnx _).mono ?_
  rintro e w4 ⟨rfl, hb4⟩
  have hr4 := Below.row hb4 (Below.row H3.out HB.out.2)
  have hbw : Below w.heap.size w w4 := (HB.out.1.trans (H3.out.mono HB.out.1.size)).trans (hb4.mono (Nat.le_trans HB.out.1.size H3.out.size))
  clear hb4 hnx
  have c0 := cell_of_row w4 _ 0 _ _ _ hr4
  have c1 := cell_of_row w4 _ 1 _ _ _ hr4
  have f0 := frozen_of_row w4 _ 0 _ _ hr4
  have f1 := frozen_of_row w4 _ 1 _ _ hr4
  go_wp2
  have hrow3 : ((w4.setCell ⟨w.heap.size + 1, 0, none⟩ (.string N)).setCell ⟨w.heap.size + 1, 1, none⟩ (.string ⟨#[]⟩)).heap[w.heap.size + 1]? = some (.cells #[.string N, .string ⟨#[]⟩] 33 (0, 0)) := row_setCell (k := 1) (row_setCell (k := 0) hr4 (.string N)) (.string ⟨#[]⟩)
  have hbf : Below w.heap.size w ((w4.setCell ⟨w.heap.size + 1, 0, none⟩ (.string N)).setCell ⟨w.heap.size + 1, 1, none⟩ (.string ⟨#[]⟩)) := (hbw.setCell (p := ⟨w.heap.size + 1, 0, none⟩) (by show w.heap.size ≤ w.heap.size + 1; omega) _).setCell (p := ⟨w.heap.size + 1, 1, none⟩) (by show w.heap.size ≤ w.heap.size + 1; omega) _
  exact bodyPost_ret (results_row_tmp Tryz.results20 _ _ (w.heap.size + 1) 33 _ (0, 0) _ rfl hrow3 Tryz.underlying33 rfl info33) rfl ⟨rfl, hbf⟩
set_option maxRecDepth 100000 in
set_option maxHeartbeats 4000000 in
theorem span_ge {k : Int} {b : Bool} {n : Int} {s : ByteArray} {pa : Option Addr} {m pc : Nat} {na : Option Addr} {q nc : Nat} {w : World} {K : ByteArray} (hsz : K.size ≤ maxLen)
    (hof : ∀ W, Below w.heap.size w W → Calls Tryz.prog 46 #[.agg #[.int .i64 k, .bool b, .int .i64 n, .string s, .slice pa m pc, .slice na q nc]] W fun e w' => e = .returned (.string K) ∧ Below W.heap.size W w') :
    Calls Tryz.prog 20 #[.string ⟨#[62, 61]⟩, .agg #[.int .i64 k, .bool b, .int .i64 n, .string s, .slice pa m pc, .slice na q nc]] w fun e w' => e = .returned (.tuple #[.agg #[.string K, .string ⟨#[]⟩], .bool true]) ∧ Below w.heap.size w w' := by
  have hnx := fun W => V.next_any K hsz W
  obtain ⟨N, hN⟩ : ∃ N, V.nextB K = N := ⟨_, rfl⟩
  rw [hN] at hnx
  clear hN
  obtain ⟨w2, hw2⟩ : ∃ u, (w.alloc (.cells #[.int .i64 k, .bool b, .int .i64 n, .string s, .slice pa m pc, .slice na q nc] 25)).alloc (.cells #[.string ⟨#[]⟩, .string ⟨#[]⟩] 33) = u := ⟨_, rfl⟩
  obtain ⟨r0, r1, bw⟩ := alloc2 hw2
  have HW := mkHid hw2
  have hof2 := hof w2 bw
  have cx0 := cell_of_row w2 _ 0 _ _ _ r0
  have cx1 := cell_of_row w2 _ 1 _ _ _ r0
  have cx2 := cell_of_row w2 _ 2 _ _ _ r0
  have cx3 := cell_of_row w2 _ 3 _ _ _ r0
  have cx4 := cell_of_row w2 _ 4 _ _ _ r0
  have cx5 := cell_of_row w2 _ 5 _ _ _ r0
  have HB : Hid (Below w.heap.size w w2 ∧ w2.heap[w.heap.size + 1]? = some (.cells #[.string ⟨#[]⟩, .string ⟨#[]⟩] 33 (0, 0))) := ⟨bw, r1⟩
  clear hw2 r0 r1 bw hof hsz
  go_enter Tryz.func20, Tryz.ntmps20
  go_wp2_with (first | rw [HW.out] | fail)
  refine hof2.mono ?_
  rintro e w3 ⟨rfl, hb3⟩
  have hr4 := Below.row hb3 HB.out.2
  have hbw : Below w.heap.size w w3 := HB.out.1.trans (hb3.mono HB.out.1.size)
  clear hb3 hof2 hnx
  have c0 := cell_of_row w3 _ 0 _ _ _ hr4
  have c1 := cell_of_row w3 _ 1 _ _ _ hr4
  have f0 := frozen_of_row w3 _ 0 _ _ hr4
  have f1 := frozen_of_row w3 _ 1 _ _ hr4
  go_wp2
  have hrow3 : ((w3.setCell ⟨w.heap.size + 1, 0, none⟩ (.string K)).setCell ⟨w.heap.size + 1, 1, none⟩ (.string ⟨#[]⟩)).heap[w.heap.size + 1]? = some (.cells #[.string K, .string ⟨#[]⟩] 33 (0, 0)) := row_setCell (k := 1) (row_setCell (k := 0) hr4 (.string K)) (.string ⟨#[]⟩)
  have hbf : Below w.heap.size w ((w3.setCell ⟨w.heap.size + 1, 0, none⟩ (.string K)).setCell ⟨w.heap.size + 1, 1, none⟩ (.string ⟨#[]⟩)) := (hbw.setCell (p := ⟨w.heap.size + 1, 0, none⟩) (by show w.heap.size ≤ w.heap.size + 1; omega) _).setCell (p := ⟨w.heap.size + 1, 1, none⟩) (by show w.heap.size ≤ w.heap.size + 1; omega) _
  exact bodyPost_ret (results_row_tmp Tryz.results20 _ _ (w.heap.size + 1) 33 _ (0, 0) _ rfl hrow3 Tryz.underlying33 rfl info33) rfl ⟨rfl, hbf⟩
set_option maxRecDepth 100000 in
set_option maxHeartbeats 4000000 in
theorem span_no (sg : ByteArray) (h1 : (sg.toList == [61]) = false) (h2 : (sg.toList == [60]) = false) (h3 : (sg.toList == [60, 61]) = false) (h4 : (sg.toList == [62]) = false) (h5 : (sg.toList == [62, 61]) = false) {k : Int} {b : Bool} {n : Int} {s : ByteArray} {pa : Option Addr} {m pc : Nat} {na : Option Addr} {q nc : Nat} {w : World} :
    Calls Tryz.prog 20 #[.string sg, .agg #[.int .i64 k, .bool b, .int .i64 n, .string s, .slice pa m pc, .slice na q nc]] w fun e w' => e = .returned (.tuple #[.agg #[.string ⟨#[]⟩, .string ⟨#[]⟩], .bool false]) ∧ Below w.heap.size w w' := by
  obtain ⟨w2, hw2⟩ : ∃ u, (w.alloc (.cells #[.int .i64 k, .bool b, .int .i64 n, .string s, .slice pa m pc, .slice na q nc] 25)).alloc (.cells #[.string ⟨#[]⟩, .string ⟨#[]⟩] 33) = u := ⟨_, rfl⟩
  obtain ⟨r0, r1, bw⟩ := alloc2 hw2
  have HW := mkHid hw2
  have HB : Hid (Below w.heap.size w w2 ∧ w2.heap[w.heap.size + 1]? = some (.cells #[.string ⟨#[]⟩, .string ⟨#[]⟩] 33 (0, 0))) := ⟨bw, r1⟩
  have c0 := cell_of_row w2 _ 0 _ _ _ r1
  have c1 := cell_of_row w2 _ 1 _ _ _ r1
  have f0 := frozen_of_row w2 _ 0 _ _ r1
  have f1 := frozen_of_row w2 _ 1 _ _ r1
  clear hw2 r0 r1 bw
  go_enter Tryz.func20, Tryz.ntmps20
  go_wp2_with (first | rw [HW.out] | fail)
  have hrow3 : ((w2.setCell ⟨w.heap.size + 1, 0, none⟩ (.string ⟨#[]⟩)).setCell ⟨w.heap.size + 1, 1, none⟩ (.string ⟨#[]⟩)).heap[w.heap.size + 1]? = some (.cells #[.string ⟨#[]⟩, .string ⟨#[]⟩] 33 (0, 0)) := row_setCell (k := 1) (row_setCell (k := 0) HB.out.2 (.string ⟨#[]⟩)) (.string ⟨#[]⟩)
  have hbf : Below w.heap.size w ((w2.setCell ⟨w.heap.size + 1, 0, none⟩ (.string ⟨#[]⟩)).setCell ⟨w.heap.size + 1, 1, none⟩ (.string ⟨#[]⟩)) := (HB.out.1.setCell (p := ⟨w.heap.size + 1, 0, none⟩) (by show w.heap.size ≤ w.heap.size + 1; omega) _).setCell (p := ⟨w.heap.size + 1, 1, none⟩) (by show w.heap.size ≤ w.heap.size + 1; omega) _
  exact bodyPost_ret (results_row_tmp Tryz.results20 _ _ (w.heap.size + 1) 33 _ (0, 0) _ rfl hrow3 Tryz.underlying33 rfl info33) rfl ⟨rfl, hbf⟩
theorem span_any (sg : ByteArray) {k : Int} {b : Bool} {n : Int} {s : ByteArray} {pa : Option Addr} {m pc : Nat} {na : Option Addr} {q nc : Nat} {w : World} {K : ByteArray} (hsz : K.size ≤ maxLen)
    (hof : ∀ W, Below w.heap.size w W → Calls Tryz.prog 46 #[.agg #[.int .i64 k, .bool b, .int .i64 n, .string s, .slice pa m pc, .slice na q nc]] W fun e w' => e = .returned (.string K) ∧ Below W.heap.size W w') :
    Calls Tryz.prog 20 #[.string sg, .agg #[.int .i64 k, .bool b, .int .i64 n, .string s, .slice pa m pc, .slice na q nc]] w fun e w' => e = .returned (.tuple #[.agg #[.string (spanF sg.data.toList K).1, .string (spanF sg.data.toList K).2.1], .bool (spanF sg.data.toList K).2.2]) ∧ Below w.heap.size w w' := by
  unfold spanF
  by_cases h1 : sg.data.toList = [61]
  · rw [if_pos h1, V.of_list h1]; exact span_eq hsz hof
  rw [if_neg h1]
  by_cases h2 : sg.data.toList = [60]
  · rw [if_pos h2, V.of_list h2]; exact span_lt hsz hof
  rw [if_neg h2]
  by_cases h3 : sg.data.toList = [60, 61]
  · rw [if_pos h3, V.of_list h3]; exact span_le hsz hof
  rw [if_neg h3]
  by_cases h4 : sg.data.toList = [62]
  · rw [if_pos h4, V.of_list h4]; exact span_gt hsz hof
  rw [if_neg h4]
  by_cases h5 : sg.data.toList = [62, 61]
  · rw [if_pos h5, V.of_list h5]; exact span_ge hsz hof
  rw [if_neg h5]
  exact span_no sg (by rw [Lib.toList_data]; simpa using h1) (by rw [Lib.toList_data]; simpa using h2) (by rw [Lib.toList_data]; simpa using h3) (by rw [Lib.toList_data]; simpa using h4) (by rw [Lib.toList_data]; simpa using h5)
end Go.Proofs.YtfemippjaokcmaaGreatDoor
namespace Go.Proofs.YtfemippjaokcmaaGreatDoor
open Go.RowKit Go.Shelf
attribute [local go_sem] Oper.semAt_some fw0 fw1 fw2
theorem LiesE.pairD {w : World} {S : Nat → Prop} {d : Nat} {t : Et} {R : XR} (h : LiesE w S (d + 1) t (rowX R)) (hn : (t []).n = 2) :
    ∃ g o R0 R1, R.kp = some ⟨g, o, none⟩ ∧ S g ∧ g < w.heap.size ∧ (2 ≤ R.kc ∧ R.kc ≤ maxLen) ∧ At10 w g o R0 ∧ At10 w g (o + 10) R1 ∧ LiesE w S d (t.sub 0) (rowX R0) ∧ LiesE w S d (t.sub 1) (rowX R1) := by
  obtain ⟨kp, kc, np, nc, K, e, -, hK, hk⟩ := h
  unfold rowX enV at e
  injection e with e
  have e' := congrArg Array.toList e
  simp only [List.cons.injEq, Value.int.injEq, Value.string.injEq, Value.slice.injEq] at e'
  obtain ⟨h1, h2, h3, h4, h5, h6, h7, h8, h9, h10⟩ := e'
  obtain ⟨g, o, hp, hSg, hg, hc⟩ := hK.lies (by omega)
  have hcap := hK.cap
  have k0 := hk 0 (by omega)
  have k1 := hk 1 (by omega)
  obtain ⟨R0, e0⟩ := k0.row
  obtain ⟨R1, e1⟩ := k1.row
  rw [e0] at k0
  rw [e1] at k1
  refine ⟨g, o, R0, R1, by rw [h9.1, hp], hSg, hg, by rw [h9.2.2]; omega, ?_, ?_, k0, k1⟩
  · exact at10_of e0 (fun j hj => by have := hc 0 (by omega) j hj; simpa using this)
  · exact at10_of e1 (fun j hj => by have := hc 1 (by omega) j hj; simpa using this)
def GivesJ (base : Nat) (W : World) (u : Value) (m : List Et) (e : Ending) (W' : World) : Prop := ∃ u', e = .returned u' ∧ Ow EExp 28 10 base W' u' m ∧ Upd u u' W W' ∧ W.heap.size < W'.heap.size
def JndC (d : Nat) : Prop := ∀ (t : Et) (R : XR) (base : Nat) (W : World) (u : Value) (l : List Et), LiesE W (fun k => k < base) d t (rowX R) → base ≤ W.heap.size → Ow EExp 28 10 base W u l → l.length + (partsE d t).length ≤ 100000 → Calls Tryz.prog 26 #[u, rowX R] W (GivesJ base W u (l ++ partsE d t))
set_option maxRecDepth 100000 in
set_option maxHeartbeats 4000000 in
theorem joined_none {d : Nat} {t : Et} {R : XR} {base : Nat} {W : World} {u : Value} {l : List Et} (hx : LiesE W (fun k => k < base) d t (rowX R)) (hb : base ≤ W.heap.size) (ho : Ow EExp 28 10 base W u l) (hk : (t []).k = 0) : Calls Tryz.prog 26 #[u, rowX R] W (GivesJ base W u l) := by
  obtain ⟨h1, -⟩ := hx.tops
  have hk0 : R.k = 0 := by rw [h1, hk]; rfl
  obtain ⟨L, hown, hels⟩ := ho.own
  obtain ⟨q, k, rfl⟩ := own_len hown
  obtain ⟨k0, s, vk, vb, vn, vs, kp, n, kc, np, m, nc⟩ := R
  simp only at hk0
  subst hk0
  have HO : Hid (Ow EExp 28 10 base W (.slice q l.length k) l ∧ base ≤ W.heap.size) := ⟨ho, hb⟩
  clear hx h1 ho hown hels hb
  unfold rowX
  go_enter Tryz.func26, Tryz.ntmps26
  go_wp2
  go_ret
  have hb1 : Below W.heap.size W (W.alloc (.cells #[.int .i64 0, .string s, .int .i64 vk, .bool vb, .int .i64 vn, .string vs, .slice none 0 0, .slice none 0 0, .slice kp n kc, .slice np m nc] 28)) := (Below.refl _ W).alloc (Nat.le_refl _) _
  exact ⟨_, rfl, HO.out.1.later eExp hb1 HO.out.2, ⟨hb1.os, hb1.tape, hb1.output, hb1.size, fun k hk _ => hb1.block k hk, fun _ h => .inl h⟩, by simp⟩
set_option maxRecDepth 100000 in
set_option maxHeartbeats 4000000 in
theorem joined_one {d : Nat} {t : Et} {R : XR} {base : Nat} {W : World} {u : Value} {l : List Et} (hx : LiesE W (fun k => k < base) d t (rowX R)) (hb : base ≤ W.heap.size) (ho : Ow EExp 28 10 base W u l) (hl : l.length ≤ 100000) (hk : ¬ (t []).k = 0) (hn : ¬ ((t []).k = 6 ∧ (t []).s.data.toList = [65, 78, 68] ∧ (t []).n = 2)) : Calls Tryz.prog 26 #[u, rowX R] W (GivesJ base W u (l ++ [t])) := by
  obtain ⟨h1, h2, -, -, -, -, h7⟩ := hx.tops
  obtain ⟨L, hown, hels⟩ := ho.own
  obtain ⟨q, k, rfl⟩ := own_len hown
  obtain ⟨k0, s, vk, vb, vn, vs, kp, n, kc, np, m, nc⟩ := R
  simp only at h1 h2 h7
  have f0 : (k0 == 0) = false := by rw [h1]; simp; omega
  have f6 : (k0 == 6) = decide ((t []).k = 6) := by rw [h1]; apply Bool.eq_iff_iff.2; simp; omega
  have fs : (s.toList == [65, 78, 68]) = decide ((t []).s.data.toList = [65, 78, 68]) := by rw [h2, Lib.toList_data]; apply Bool.eq_iff_iff.2; simp
  have fn : ((n : Int) == 2) = decide ((t []).n = 2) := by rw [h7]; apply Bool.eq_iff_iff.2; simp; omega
  obtain ⟨i0, hi, hz0, hz1, hz2⟩ := info_parts info28c
  obtain ⟨b6, hb6⟩ : ∃ b, decide ((t []).k = 6) = b := ⟨_, rfl⟩
  obtain ⟨bs, hbs⟩ : ∃ b, decide ((t []).s.data.toList = [65, 78, 68]) = b := ⟨_, rfl⟩
  obtain ⟨bn, hbn⟩ : ∃ b, decide ((t []).n = 2) = b := ⟨_, rfl⟩
  have hno : Hid ((b6 && bs && bn) = false) := by
    show (b6 && bs && bn) = false
    rw [← hb6, ← hbs, ← hbn]
    apply Bool.eq_false_iff.2
    intro h
    simp only [Bool.and_eq_true, decide_eq_true_eq] at h
    exact hn ⟨h.1.1, h.1.2, h.2⟩
  rw [hb6] at f6; rw [hbs] at fs; rw [hbn] at fn
  have HE : EExp W (fun k => k < base) t [.int .i64 k0, .string s, .int .i64 vk, .bool vb, .int .i64 vn, .string vs, .slice none 0 0, .slice none 0 0, .slice kp n kc, .slice np m nc] := ⟨d, hx⟩
  obtain ⟨W1, hW1⟩ : ∃ u, W.alloc (.cells #[.int .i64 k0, .string s, .int .i64 vk, .bool vb, .int .i64 vn, .string vs, .slice none 0 0, .slice none 0 0, .slice kp n kc, .slice np m nc] 28) = u := ⟨_, rfl⟩
  obtain ⟨r1, bw1⟩ := alloc1 hW1
  have HO : Hid (W.ownsRow base 28 10 (.slice q l.length k) l.length L ∧ Els EExp W (fun k => k < base) l L ∧ base ≤ W.heap.size ∧ EExp W (fun k => k < base) t [.int .i64 k0, .string s, .int .i64 vk, .bool vb, .int .i64 vn, .string vs, .slice none 0 0, .slice none 0 0, .slice kp n kc, .slice np m nc] ∧ Below W.heap.size W W1) := ⟨hown, hels, hb, HE, bw1⟩
  have hown1 : W1.ownsRow base 28 10 (.slice q l.length k) l.length L := by rw [← hW1]; exact hown.alloc _
  have HW1 := mkHid hW1
  have cx0 := cell_of_row W1 _ 0 _ _ _ r1
  have cx1 := cell_of_row W1 _ 1 _ _ _ r1
  have cx2 := cell_of_row W1 _ 2 _ _ _ r1
  have cx3 := cell_of_row W1 _ 3 _ _ _ r1
  have cx4 := cell_of_row W1 _ 4 _ _ _ r1
  have cx5 := cell_of_row W1 _ 5 _ _ _ r1
  have cx6 := cell_of_row W1 _ 6 _ _ _ r1
  have cx7 := cell_of_row W1 _ 7 _ _ _ r1
  have cx8 := cell_of_row W1 _ 8 _ _ _ r1
  have cx9 := cell_of_row W1 _ 9 _ _ _ r1
  have hsz1 := bw1.size
  have hpos : base ≤ W1.heap.size := by omega
  clear hx h1 h2 h7 ho hown hels HE hW1 r1 bw1 hb6 hbs hbn hn hk
  unfold rowX
  go_enter Tryz.func26, Tryz.ntmps26
  rcases b6 with _ | _ <;> rcases bs with _ | _ <;> rcases bn with _ | _
  all_goals first
    | (exact absurd hno.out (by decide))
    | skip
  all_goals
    go_wp2_with (first | rw [HW1.out] | (at_builtin; refine wpList_append_own_at _ rfl _ _ 26 rfl base 28 i0 (.agg #[.int .i64 0, .string ⟨#[]⟩, .int .i64 0, .bool false, .int .i64 0, .string ⟨#[]⟩, .slice none 0 0, .slice none 0 0, .slice none 0 0, .slice none 0 0]) 10 160 Tryz.underlying26 hi hz0 hz1 hz2 rfl (by decide) _ _ _ rfl (hown1.alloc _) ⟨W1.heap.size, 0, none⟩ 1 1 [.int .i64 k0, .string s, .int .i64 vk, .bool vb, .int .i64 vn, .string vs, .slice none 0 0, .slice none 0 0, .slice kp n kc, .slice np m nc] rfl rfl ?c1 ?c2 ?c3 ?c4 ?c5 ?_))
    case c1 => exact World.news_of_block (heap_alloc_new W1 _)
    case c2 => exact eExp.ones HO.out.2.2.2.1
    case c3 => unfold maxLen; omega
    case c4 => omega
    case c5 => simp; omega
    intro v' w5 hown5 hgr5 _ hat5
    go_wp2
    go_ret
    have hbA : Below W.heap.size W (W1.alloc (.cells #[.int .i64 k0, .string s, .int .i64 vk, .bool vb, .int .i64 vn, .string vs, .slice none 0 0, .slice none 0 0, .slice kp n kc, .slice np m nc] 28)) := HO.out.2.2.2.2.alloc hsz1 _
    refine ⟨v', rfl, Ow.more eExp HO.out.1 HO.out.2.1 HO.out.2.2.2.1 hbA HO.out.2.2.1 hown5 hgr5, Upd.grown hbA hgr5 (by simpa using hat5), ?_⟩
    have h9 := hgr5.size
    simp at h9
    omega
end Go.Proofs.YtfemippjaokcmaaGreatDoor
namespace Go.Proofs.YtfemippjaokcmaaGreatDoor
open Go.RowKit Go.Shelf
attribute [local go_sem] Oper.semAt_some fw0 fw1 fw2
theorem Upd.cell {u u' : Value} {a b : World} (h : Upd u u' a b) {p : Addr} (hp : p.block < a.heap.size) (hu : u.ownBlock ≠ some p.block) : b.cell? p = a.cell? p := World.cell?_of_block (h.block p.block hp hu)
set_option maxRecDepth 100000 in
set_option maxHeartbeats 8000000 in
theorem joined_and {d : Nat} (ih : JndC d) {t : Et} {R : XR} {base : Nat} {W : World} {u : Value} {l : List Et} (hx : LiesE W (fun k => k < base) (d + 1) t (rowX R)) (hb : base ≤ W.heap.size) (ho : Ow EExp 28 10 base W u l) (hl : l.length + ((partsE d (t.sub 0)).length + (partsE d (t.sub 1)).length) ≤ 100000) (hk : (t []).k = 6) (hs : (t []).s.data.toList = [65, 78, 68]) (hn : (t []).n = 2) : Calls Tryz.prog 26 #[u, rowX R] W (GivesJ base W u ((l ++ partsE d (t.sub 0)) ++ partsE d (t.sub 1))) := by
  obtain ⟨h1, h2, -, -, -, -, h7⟩ := hx.tops
  obtain ⟨g, o, R0, R1, p1, p2, p3, p4, p5, p6, p7, p8⟩ := hx.pairD hn
  obtain ⟨L, hown, hels⟩ := ho.own
  obtain ⟨q, k, rfl⟩ := own_len hown
  have hub := fun k hk => hown.lt k hk
  obtain ⟨k2, s2, vk2, vb2, vn2, vs2, kp2, n2, kc2, np2, m2, nc2⟩ := R
  obtain ⟨k0, s0, vk0, vb0, vn0, vs0, kp0, n0, kc0, np0, m0, nc0⟩ := R0
  obtain ⟨k1, s1, vk1, vb1, vn1, vs1, kp1, n1, kc1, np1, m1, nc1⟩ := R1
  simp only at h1 h2 h7 p1 p4
  obtain rfl : k2 = 6 := by rw [h1, hk]; rfl
  obtain rfl : n2 = 2 := by rw [h7, hn]
  subst p1
  have fs : (s2.toList == [65, 78, 68]) = true := by rw [h2, Lib.toList_data, hs]; rfl
  obtain ⟨W1, hW1⟩ : ∃ u, W.alloc (.cells #[.int .i64 6, .string s2, .int .i64 vk2, .bool vb2, .int .i64 vn2, .string vs2, .slice none 0 0, .slice none 0 0, .slice (some ⟨g, o, none⟩) 2 kc2, .slice np2 m2 nc2] 28) = u := ⟨_, rfl⟩
  obtain ⟨r1, bw1⟩ := alloc1 hW1
  have HW1 := mkHid hW1
  obtain ⟨A, hA⟩ : ∃ A, partsE d (t.sub 0) = A := ⟨_, rfl⟩
  obtain ⟨B, hB⟩ : ∃ B, partsE d (t.sub 1) = B := ⟨_, rfl⟩
  rw [hA, hB] at hl ⊢
  have ih0 : ∀ W2, Below W1.heap.size W1 W2 → Calls Tryz.prog 26 #[.slice q l.length k, .agg #[.int .i64 k0, .string s0, .int .i64 vk0, .bool vb0, .int .i64 vn0, .string vs0, .slice none 0 0, .slice none 0 0, .slice kp0 n0 kc0, .slice np0 m0 nc0]] W2 (GivesJ base W2 (.slice q l.length k) (l ++ A)) := fun W2 hb2 => by
    have hbb := bw1.trans (hb2.mono bw1.size)
    rw [← hA]
    exact ih (t.sub 0) ⟨k0, s0, vk0, vb0, vn0, vs0, kp0, n0, kc0, np0, m0, nc0⟩ base W2 _ l (p7.since (Since.below hbb)) (Nat.le_trans hb hbb.size) (ho.later eExp hbb hb) (by rw [hA]; omega)
  have ih1 : ∀ W2 W3 u1, Below W1.heap.size W1 W2 → Upd (.slice q l.length k) u1 W2 W3 → Ow EExp 28 10 base W3 u1 (l ++ A) → Calls Tryz.prog 26 #[u1, .agg #[.int .i64 k1, .string s1, .int .i64 vk1, .bool vb1, .int .i64 vn1, .string vs1, .slice none 0 0, .slice none 0 0, .slice kp1 n1 kc1, .slice np1 m1 nc1]] W3 (GivesJ base W3 u1 ((l ++ A) ++ B)) := fun W2 W3 u1 hb2 hu ho2 => by
    have hbb := bw1.trans (hb2.mono bw1.size)
    rw [← hB]
    have hx2 := p8.since (Since.below (S := fun k => k < base) hbb)
    refine ih (t.sub 1) ⟨k1, s1, vk1, vb1, vn1, vs1, kp1, n1, kc1, np1, m1, nc1⟩ base W3 _ (l ++ A) (hx2.since ⟨hu.size, fun k hk hl => hu.block k hl (fun e => ?_)⟩) (Nat.le_trans (Nat.le_trans hb hbb.size) hu.size) ho2 (by rw [hB, List.length_append]; omega)
    have := (hub k e).1
    have hk' : k < base := hk
    omega
  have hfar : ∀ (p : Addr), (p.block = W.heap.size ∨ p.block < base) → (Value.slice q l.length k).ownBlock ≠ some p.block := fun p hp e => by
    have := hub _ e
    omega
  have HP : Hid (∀ (p : Addr), (p.block = W.heap.size ∨ p.block < base) → (Value.slice q l.length k).ownBlock ≠ some p.block) := hfar
  have HU : Hid (∀ k', (Value.slice q l.length k).ownBlock = some k' → base ≤ k' ∧ k' < W.heap.size) := hub
  have Hi1 : Hid (∀ W2 W3 u1, Below W1.heap.size W1 W2 → Upd (.slice q l.length k) u1 W2 W3 → Ow EExp 28 10 base W3 u1 (l ++ A) → Calls Tryz.prog 26 #[u1, .agg #[.int .i64 k1, .string s1, .int .i64 vk1, .bool vb1, .int .i64 vn1, .string vs1, .slice none 0 0, .slice none 0 0, .slice kp1 n1 kc1, .slice np1 m1 nc1]] W3 (GivesJ base W3 u1 ((l ++ A) ++ B))) := ih1
  have hs1 : W1.heap.size = W.heap.size + 1 := by rw [← hW1]; simp
  have hgl : g < W.heap.size := p3
  have hgb : g < base := p2
  have hkc := p4
  have cx0 := cell_of_row W1 _ 0 _ _ _ r1
  have cx1 := cell_of_row W1 _ 1 _ _ _ r1
  have cx2 := cell_of_row W1 _ 2 _ _ _ r1
  have cx3 := cell_of_row W1 _ 3 _ _ _ r1
  have cx4 := cell_of_row W1 _ 4 _ _ _ r1
  have cx5 := cell_of_row W1 _ 5 _ _ _ r1
  have cx6 := cell_of_row W1 _ 6 _ _ _ r1
  have cx7 := cell_of_row W1 _ 7 _ _ _ r1
  have cx8 := cell_of_row W1 _ 8 _ _ _ r1
  have cx9 := cell_of_row W1 _ 9 _ _ _ r1
  have a0_0 : W1.cell? ⟨g, o, none⟩ = some (.int .i64 k0) := (bw1.cell (p := ⟨g, o, none⟩) p3).trans (p5 0 (by decide))
  have a0_1 : W1.cell? ⟨g, o + 1, none⟩ = some (.string s0) := (bw1.cell (p := ⟨g, o + 1, none⟩) p3).trans (p5 1 (by decide))
  have a0_2 : W1.cell? ⟨g, o + 2, none⟩ = some (.int .i64 vk0) := (bw1.cell (p := ⟨g, o + 2, none⟩) p3).trans (p5 2 (by decide))
  have a0_3 : W1.cell? ⟨g, o + 3, none⟩ = some (.bool vb0) := (bw1.cell (p := ⟨g, o + 3, none⟩) p3).trans (p5 3 (by decide))
  have a0_4 : W1.cell? ⟨g, o + 4, none⟩ = some (.int .i64 vn0) := (bw1.cell (p := ⟨g, o + 4, none⟩) p3).trans (p5 4 (by decide))
  have a0_5 : W1.cell? ⟨g, o + 5, none⟩ = some (.string vs0) := (bw1.cell (p := ⟨g, o + 5, none⟩) p3).trans (p5 5 (by decide))
  have a0_6 : W1.cell? ⟨g, o + 6, none⟩ = some (.slice none 0 0) := (bw1.cell (p := ⟨g, o + 6, none⟩) p3).trans (p5 6 (by decide))
  have a0_7 : W1.cell? ⟨g, o + 7, none⟩ = some (.slice none 0 0) := (bw1.cell (p := ⟨g, o + 7, none⟩) p3).trans (p5 7 (by decide))
  have a0_8 : W1.cell? ⟨g, o + 8, none⟩ = some (.slice kp0 n0 kc0) := (bw1.cell (p := ⟨g, o + 8, none⟩) p3).trans (p5 8 (by decide))
  have a0_9 : W1.cell? ⟨g, o + 9, none⟩ = some (.slice np0 m0 nc0) := (bw1.cell (p := ⟨g, o + 9, none⟩) p3).trans (p5 9 (by decide))
  have a1_0 : W1.cell? ⟨g, o + 10, none⟩ = some (.int .i64 k1) := (bw1.cell (p := ⟨g, o + 10, none⟩) p3).trans (p6 0 (by decide))
  have a1_1 : W1.cell? ⟨g, o + 10 + 1, none⟩ = some (.string s1) := (bw1.cell (p := ⟨g, o + 10 + 1, none⟩) p3).trans (p6 1 (by decide))
  have a1_2 : W1.cell? ⟨g, o + 10 + 2, none⟩ = some (.int .i64 vk1) := (bw1.cell (p := ⟨g, o + 10 + 2, none⟩) p3).trans (p6 2 (by decide))
  have a1_3 : W1.cell? ⟨g, o + 10 + 3, none⟩ = some (.bool vb1) := (bw1.cell (p := ⟨g, o + 10 + 3, none⟩) p3).trans (p6 3 (by decide))
  have a1_4 : W1.cell? ⟨g, o + 10 + 4, none⟩ = some (.int .i64 vn1) := (bw1.cell (p := ⟨g, o + 10 + 4, none⟩) p3).trans (p6 4 (by decide))
  have a1_5 : W1.cell? ⟨g, o + 10 + 5, none⟩ = some (.string vs1) := (bw1.cell (p := ⟨g, o + 10 + 5, none⟩) p3).trans (p6 5 (by decide))
  have a1_6 : W1.cell? ⟨g, o + 10 + 6, none⟩ = some (.slice none 0 0) := (bw1.cell (p := ⟨g, o + 10 + 6, none⟩) p3).trans (p6 6 (by decide))
  have a1_7 : W1.cell? ⟨g, o + 10 + 7, none⟩ = some (.slice none 0 0) := (bw1.cell (p := ⟨g, o + 10 + 7, none⟩) p3).trans (p6 7 (by decide))
  have a1_8 : W1.cell? ⟨g, o + 10 + 8, none⟩ = some (.slice kp1 n1 kc1) := (bw1.cell (p := ⟨g, o + 10 + 8, none⟩) p3).trans (p6 8 (by decide))
  have a1_9 : W1.cell? ⟨g, o + 10 + 9, none⟩ = some (.slice np1 m1 nc1) := (bw1.cell (p := ⟨g, o + 10 + 9, none⟩) p3).trans (p6 9 (by decide))
  have HB : Hid (Below W.heap.size W W1 ∧ base ≤ W.heap.size) := ⟨bw1, hb⟩
  clear hx h1 h2 h7 ho hown hels hW1 r1 bw1 hk hs hn p2 p3 p4 p5 p6 p7 p8 hub ih ih1 hA hB hl hb
  unfold rowX
  go_enter Tryz.func26, Tryz.ntmps26
  go_wp2_with (first | rw [HW1.out] | fail)
  go_region_law ((first | (go_simp; go_at_call_of 26 s0; refine (ih0 _ (Below.refl _ _).drew).mono ?_; rintro e W2 ⟨u1, rfl, ho2, hu2, hz2⟩; have hu2 : Upd (.slice q l.length k) u1 W1 W2 := ⟨hu2.os, hu2.tape, hu2.output, hu2.size, hu2.block, hu2.own⟩; have c2_8 := (hu2.cell (p := ⟨W.heap.size, 8, none⟩) (by show W.heap.size < W1.heap.size; omega) (HP.out _ (Or.inl rfl))).trans cx8; have b1_0 := (hu2.cell (p := ⟨g, o + 10, none⟩) (by show g < W1.heap.size; omega) (HP.out _ (Or.inr hgb))).trans a1_0; have b1_1 := (hu2.cell (p := ⟨g, o + 10 + 1, none⟩) (by show g < W1.heap.size; omega) (HP.out _ (Or.inr hgb))).trans a1_1; have b1_2 := (hu2.cell (p := ⟨g, o + 10 + 2, none⟩) (by show g < W1.heap.size; omega) (HP.out _ (Or.inr hgb))).trans a1_2; have b1_3 := (hu2.cell (p := ⟨g, o + 10 + 3, none⟩) (by show g < W1.heap.size; omega) (HP.out _ (Or.inr hgb))).trans a1_3; have b1_4 := (hu2.cell (p := ⟨g, o + 10 + 4, none⟩) (by show g < W1.heap.size; omega) (HP.out _ (Or.inr hgb))).trans a1_4; have b1_5 := (hu2.cell (p := ⟨g, o + 10 + 5, none⟩) (by show g < W1.heap.size; omega) (HP.out _ (Or.inr hgb))).trans a1_5; have b1_6 := (hu2.cell (p := ⟨g, o + 10 + 6, none⟩) (by show g < W1.heap.size; omega) (HP.out _ (Or.inr hgb))).trans a1_6; have b1_7 := (hu2.cell (p := ⟨g, o + 10 + 7, none⟩) (by show g < W1.heap.size; omega) (HP.out _ (Or.inr hgb))).trans a1_7; have b1_8 := (hu2.cell (p := ⟨g, o + 10 + 8, none⟩) (by show g < W1.heap.size; omega) (HP.out _ (Or.inr hgb))).trans a1_8; have b1_9 := (hu2.cell (p := ⟨g, o + 10 + 9, none⟩) (by show g < W1.heap.size; omega) (HP.out _ (Or.inr hgb))).trans a1_9; have ih1 := Hi1.out W1 W2 u1 (Below.refl _ _) hu2 ho2; dsimp only) | (go_simp; go_at_call_of 26 s1; refine ih1.mono ?_; rintro e W3 ⟨u2, rfl, ho3, hu3, hz3⟩; dsimp only)))
  all_goals
    go_wp2
    go_ret
    have hT := hu2.trans hu3
    have hzd : W1.drew.heap.size = W1.heap.size := rfl
    exact ⟨u2, rfl, ho3, Upd.after HB.out.1 hT (fun k' hk' => (HU.out k' hk').2), by omega⟩
set_option maxRecDepth 100000 in
theorem joined_any : ∀ d, JndC d
  | 0 => fun _ _ _ _ _ _ hx _ _ _ => hx.elim
  | d + 1 => fun t R base W u l hx hb ho hl => by
    unfold partsE at hl ⊢
    by_cases hk : (t []).k = 0
    · rw [if_pos hk]
      rw [List.append_nil]
      exact joined_none hx hb ho hk
    · rw [if_neg hk] at hl ⊢
      by_cases h : (t []).k = 6 ∧ (t []).s.data.toList = [65, 78, 68] ∧ (t []).n = 2
      · rw [if_pos h, List.length_append] at hl
        rw [if_pos h, ← List.append_assoc]
        exact joined_and (joined_any d) hx hb ho hl h.1 h.2.1 h.2.2
      · rw [if_neg h] at hl ⊢
        exact joined_one hx hb ho (by omega) hk h
end Go.Proofs.YtfemippjaokcmaaGreatDoor
