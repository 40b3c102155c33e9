/- A strings.Builder of the call's own: what it holds (Bld), what its methods do (copyCheck, WriteByte, WriteString, Len, String), and what they leave alone (Tame). What a walk over a function with one number collects (slices.AppendSeq, Collect, Sorted). -/
import Derived.Test.YtniljoojoafiaaaGreatDoorXae
import Derived.Test.YtniljoojoafiaaaGreatDoorXaj
import Derived.Lib.Builder
import Derived.Lib.AppendStr
import Derived.Lib.UnsafeStr
import Derived.Laws.Externs
import Derived.OwnWalk
import Derived.RangeFuncBox
import Derived.OwnWalkIn
namespace Go.Proofs.YtniljoojoafiaaaGreatDoor.V
open Go.RowKit
def strC (l : List UInt8) : List Value := l.map fun b => Value.int .u8 b.toNat
def Bld (w : World) (b : Nat) (l : List UInt8) : Prop := Lib.IsBuilder 126 5 b b (strC l) w
structure Tame (w w' : World) : Prop where
  size : w.heap.size ≤ w'.heap.size
  block : ∀ (k : Nat) (cs : Array Value) (t : TypeId) (fr : Nat × Nat), t ≠ 5 → t ≠ 126 → w.heap[k]? = some (Obj.cells cs t fr) → w'.heap[k]? = some (Obj.cells cs t fr)
set_option maxRecDepth 100000 in
theorem Tame.refl (w : World) : Tame w w := ⟨Nat.le_refl _, fun _ _ _ _ _ _ h => h⟩
set_option maxRecDepth 100000 in
theorem Tame.trans {u v w : World} (h : Tame u v) (k : Tame v w) : Tame u w := ⟨Nat.le_trans h.size k.size, fun i cs t fr h5 h66 hi => k.block i cs t fr h5 h66 (h.block i cs t fr h5 h66 hi)⟩
set_option maxRecDepth 100000 in
theorem Tame.ofBelow {u v : World} (h : Below u.heap.size u v) : Tame u v := ⟨h.size, fun k _ _ _ _ _ hk => (h.block k (lt_of_row hk)).trans hk⟩
set_option maxRecDepth 100000 in
theorem Tame.setCell {u : World} {b : Nat} {cs : Array Value} {fr : Nat × Nat} (h : u.heap[b]? = some (.cells cs 126 fr)) (j : Nat) (v : Value) : Tame u (u.setCell ⟨b, j, none⟩ v) :=
  ⟨by simp, fun k cs' t fr' _ h66 hk => by
    have : k ≠ b := fun e => by subst e; rw [h] at hk; injection hk with hk; injection hk with _ h2 _; exact h66 h2.symm
    rw [Below.heap_setCell _ _ _ _ this]; exact hk⟩
set_option maxRecDepth 100000 in
theorem Tame.grown {u v : World} {n : Nat} {B : Nat} {x : Value} {xs : List Value} (h : u.grownBy v x.ownBlock) (ho : u.ownsRow B 5 1 x n xs) : Tame u v := by
  refine ⟨h.size, fun k cs t fr h5 _ hk => ?_⟩
  rw [← hk]
  refine h.block k (lt_of_row hk) (fun e => ?_)
  rcases ho.2 with ⟨rfl, _⟩ | ⟨g, cap, cur, rfl, _, hg, _⟩
  · cases e
  · injection e with e
    have e' : k = g := e
    subst e'
    rw [hk] at hg
    injection hg with hg
    injection hg with _ h2 _
    exact h5 h2
set_option maxRecDepth 100000 in
set_option maxHeartbeats 1000000 in
theorem b_used (b : Nat) (w : World) (h0 : w.cell? ⟨b, 0, none⟩ = some (.pointer (some ⟨b, 0, none⟩))) :
    Calls Tryz.prog 117 #[.pointer (some ⟨b, 0, none⟩)] w fun e w' => e = .returned (.tuple #[]) ∧ w' = w := by
  obtain ⟨j, hj, _⟩ := Option.map_eq_some_iff.1 (show (Tryz.prog.info? 126).map (·.size) = some 2 by kernel_rfl)
  go_enter Tryz.func117, Tryz.ntmps117
  go_wp2
  rw [Lib.run_neq_ptr_same w _ Tryz.underlying123 hj]
  go_wp2
  go_end0
  exact ⟨rfl, rfl⟩
set_option maxRecDepth 100000 in
set_option maxHeartbeats 1000000 in
theorem b_fresh (b : Nat) (w : World) (h0 : w.cell? ⟨b, 0, none⟩ = some (.pointer none)) (hsh : w.shape? b = some (126, 2)) (hfz : w.frozen? ⟨b, 0, none⟩ = false) :
    Calls Tryz.prog 117 #[.pointer (some ⟨b, 0, none⟩)] w fun e w' => e = .returned (.tuple #[]) ∧ w' = w.setCell ⟨b, 0, none⟩ (.pointer (some ⟨b, 0, none⟩)) := by
  obtain ⟨j, hj, hjs⟩ := Option.map_eq_some_iff.1 (show (Tryz.prog.info? 126).map (·.size) = some 2 by kernel_rfl)
  go_enter Tryz.func117, Tryz.ntmps117
  go_wp2
  rw [Lib.run_to_unsafe w ⟨b, 0, none⟩ Tryz.underlying123 Tryz.underlying195 hj (by rw [hjs]; decide) hsh (Nat.zero_lt_succ 1)]
  simp only [Result.andThen]
  rw [Oper.upon_value]
  go_wp2
  rw [run_callFunc_extern Tryz.func152 (by kernel_rfl) (by kernel_rfl) (by kernel_rfl) (e := Extern.AbiNoEscape.same) (by kernel_rfl)]
  rw [Lib.run_noEscape]
  simp only [Result.andThen]
  rw [Oper.upon_value]
  go_wp2
  rw [Lib.run_from_unsafe w ⟨b, 0, none⟩ Tryz.underlying195 Tryz.underlying123 hj hsh (by kernel_rfl)]
  simp only [Result.andThen]
  rw [Oper.upon_value]
  go_wp2
  go_end0
  exact ⟨rfl, rfl⟩
set_option maxRecDepth 100000 in
theorem b_check (b : Nat) (l : List UInt8) (w : World) (h : Bld w b l) :
    Calls Tryz.prog 117 #[.pointer (some ⟨b, 0, none⟩)] w fun e w' => e = .returned (.tuple #[]) ∧ Lib.BuilderAt 126 5 b b (.pointer (some ⟨b, 0, none⟩)) (strC l) w' ∧ Below b w w' ∧ Tame w w' := by
  rcases h with h | h
  · refine (b_fresh b w h.cell0 h.shape h.frozen0).mono ?_
    rintro e w' ⟨rfl, rfl⟩
    have h2 := h.used (.pointer (some ⟨b, 0, none⟩))
    obtain ⟨_, v, hb, _⟩ := h
    exact ⟨rfl, h2, (Below.refl b w).setCell (p := ⟨b, 0, none⟩) (Nat.le_refl _) _, Tame.setCell hb 0 _⟩
  · refine (b_used b w h.cell0).mono ?_
    rintro e w' ⟨rfl, rfl⟩
    exact ⟨rfl, h, Below.refl b _, Tame.refl _⟩
set_option maxRecDepth 100000 in
theorem b_len (b : Nat) (l : List UInt8) (w : World) (h : Bld w b l) :
    Calls Tryz.prog 64 #[.pointer (some ⟨b, 0, none⟩)] w fun e w' => e = .returned (.int .i64 (l.length : Int)) ∧ w' = w := by
  obtain ⟨p, hB, v, hbk, hown, hne⟩ : ∃ p, Lib.BuilderAt 126 5 b b p (strC l) w := by
    rcases h with h | h
    · exact ⟨_, h⟩
    · exact ⟨_, h⟩
  rw [show (strC l).length = l.length by simp [strC]] at hown
  obtain ⟨ao, cap, rfl⟩ : ∃ ao cap, v = .slice ao l.length cap := by
    rcases hown.2 with ⟨hv, h0⟩ | ⟨g, cap, cur, hv, _⟩
    · exact ⟨none, 0, by rw [hv, h0]⟩
    · exact ⟨_, _, hv⟩
  have c1 : w.cell? ⟨b, 1, none⟩ = some (.slice ao l.length cap) := by rw [Lib.cell_of_heap hbk]; rfl
  go_enter Tryz.func64, Tryz.ntmps64
  go_wp2
  go_ret
  exact ⟨rfl, rfl⟩
set_option maxRecDepth 100000 in
theorem info5 : (Tryz.prog.info? 5).map (fun i => (i.zero, i.size, i.bytes)) = some (some (.int .u8 0), 1, 1) := by kernel_rfl
set_option maxRecDepth 100000 in
set_option maxHeartbeats 2000000 in
theorem b_byte (b : Nat) (l : List UInt8) (c : UInt8) (w : World) (h : Bld w b l) (hlen : l.length ≤ 1000000) (v0 : Int) (hv0 : v0 = (c.toNat : Int)) :
    Calls Tryz.prog 92 #[.pointer (some ⟨b, 0, none⟩), .int .u8 v0] w fun e w' => e = .returned .nilIface ∧ Bld w' b (l ++ [c]) ∧ Below b w w' ∧ Tame w w' := by
  obtain ⟨i0, hi, hz0, hz1, hz2⟩ := info_parts info5
  have hcs : strC (l ++ [c]) = strC l ++ [.int .u8 v0] := by rw [hv0]; simp [strC]
  rw [show Bld = fun w b l => Lib.IsBuilder 126 5 b b (strC l) w from rfl]
  simp only [hcs]
  have hll : (strC l).length = l.length := by simp [strC]
  clear hcs hv0
  go_enter Tryz.func92, Tryz.ntmps92
  go_wp2_with fail
  refine (b_check b l _ h).mono ?_
  rintro e w1 ⟨rfl, h1, hb1, ht1⟩
  obtain ⟨hB, v, hbk, hown, hne⟩ := h1
  have c0 : w1.cell? ⟨b, 0, none⟩ = some (.pointer (some ⟨b, 0, none⟩)) := by rw [Lib.cell_of_heap hbk]; rfl
  have c1 : w1.cell? ⟨b, 1, none⟩ = some v := by rw [Lib.cell_of_heap hbk]; rfl
  have hlt : b < w1.heap.size := lt_of_row hbk
  go_wp2_with (at_builtin; refine wpList_append_own _ rfl _ _ 124 rfl b 5 i0 (.int .u8 0) 1 1 Tryz.underlying124 hi hz0 hz1 hz2 rfl (by decide) _ _ _ rfl (hown.alloc _) ⟨w1.heap.size, 0, none⟩ 1 1 [.int .u8 v0] rfl rfl ?c1 ?c2 ?c3 ?c4 ?c5 ?_)
  case c1 =>
    intro j u hj
    match j, hj with
    | 0, hj => simp at hj; subst hj; simp [Addr.add]
  case c2 => intro u hu; simp at hu; subst hu; rfl
  case c3 => unfold maxLen; omega
  case c4 => omega
  case c5 => simp; omega
  intro v' w2 hown' hgrow _
  have hb2 : w2.heap[b]? = some (.cells #[.pointer (some ⟨b, 0, none⟩), v] 126 (0, 0)) := by
    rw [hgrow.block b (by simp; omega) (fun e => hne e.symm), Lib.alloc_old w1 _ b hlt]
    exact hbk
  have d0 : w2.cell? ⟨b, 0, none⟩ = some (.pointer (some ⟨b, 0, none⟩)) := by rw [Lib.cell_of_heap hb2]; rfl
  have d1 : w2.cell? ⟨b, 1, none⟩ = some v := by rw [Lib.cell_of_heap hb2]; rfl
  have f1 : w2.frozen? ⟨b, 1, none⟩ = false := Lib.frozen_of_heap hb2 1
  obtain ⟨g, cap, rfl⟩ : ∃ g cap, v' = .slice (some ⟨g, 0, none⟩) (l.length + 1) cap := by
    rcases hown'.2 with ⟨_, h0⟩ | ⟨g, cap, cur, hv, _⟩
    · omega
    · exact ⟨g, cap, hv⟩
  go_wp2
  go_ret
  refine ⟨rfl, ?_, ?_, ?_⟩
  · exact Or.inr (Lib.BuilderAt.put (T := 126) (e := 5) hB hb2 (bs' := strC l ++ [.int .u8 v0]) (by simpa [hll] using hown') (by decide))
  · exact ((hb1.alloc (by omega) _).grown hgrow (by simp; omega) (fun k hk => (hown.lt k hk).1)).setCell (p := ⟨b, 1, none⟩) hB _
  · exact (ht1.trans ((Tame.ofBelow ((Below.refl _ w1).alloc (Nat.le_refl _) _)).trans (Tame.grown hgrow (hown.alloc _)))).trans (Tame.setCell hb2 1 _)
set_option maxRecDepth 100000 in
set_option maxHeartbeats 2000000 in
theorem b_text (b : Nat) (l : List UInt8) (s : ByteArray) (w : World) (h : Bld w b l) (hlen : l.length ≤ 1000000) (hs : s.size ≤ 1000000) :
    Calls Tryz.prog 93 #[.pointer (some ⟨b, 0, none⟩), .string s] w fun e w' => e = .returned (.tuple #[.int .i64 s.size, .nilIface]) ∧ Bld w' b (l ++ s.data.toList) ∧ Below b w w' ∧ Tame w w' := by
  obtain ⟨i0, hi, hz0, hz1, hz2⟩ := info_parts info5
  have hcs : strC (l ++ s.data.toList) = strC l ++ Lib.strCells s := by simp [strC, Lib.strCells]
  rw [show Bld = fun w b l => Lib.IsBuilder 126 5 b b (strC l) w from rfl]
  simp only [hcs]
  have hll : (strC l).length = l.length := by simp [strC]
  clear hcs
  go_enter Tryz.func93, Tryz.ntmps93
  go_wp2_with fail
  refine (b_check b l _ h).mono ?_
  rintro e w1 ⟨rfl, h1, hb1, ht1⟩
  obtain ⟨hB, v, hbk, hown, hne⟩ := h1
  have c0 : w1.cell? ⟨b, 0, none⟩ = some (.pointer (some ⟨b, 0, none⟩)) := by rw [Lib.cell_of_heap hbk]; rfl
  have c1 : w1.cell? ⟨b, 1, none⟩ = some v := by rw [Lib.cell_of_heap hbk]; rfl
  have hlt : b < w1.heap.size := lt_of_row hbk
  go_wp2_with (at_builtin; refine Lib.wpList_append_own_string _ rfl _ _ 124 9 rfl b 5 i0 Tryz.underlying124 Tryz.underlying9 hi hz0 hz1 hz2 _ _ _ rfl hown s rfl ?c3 ?c4 ?c5 ?_)
  case c3 => unfold maxLen; omega
  case c4 => omega
  case c5 => omega
  intro v' w2 hown' hgrow _
  have hb2 : w2.heap[b]? = some (.cells #[.pointer (some ⟨b, 0, none⟩), v] 126 (0, 0)) := by
    rw [hgrow.block b hlt (fun e => hne e.symm)]
    exact hbk
  have d0 : w2.cell? ⟨b, 0, none⟩ = some (.pointer (some ⟨b, 0, none⟩)) := by rw [Lib.cell_of_heap hb2]; rfl
  have d1 : w2.cell? ⟨b, 1, none⟩ = some v := by rw [Lib.cell_of_heap hb2]; rfl
  have f1 : w2.frozen? ⟨b, 1, none⟩ = false := Lib.frozen_of_heap hb2 1
  obtain ⟨ao, n', cap, rfl⟩ : ∃ ao n' cap, v' = .slice ao n' cap := by
    rcases hown'.2 with ⟨hv, _⟩ | ⟨g, cap, cur, hv, _⟩
    · exact ⟨_, _, _, hv⟩
    · exact ⟨_, _, _, hv⟩
  go_wp2
  go_ret2
  refine ⟨rfl, ?_, ?_, ?_⟩
  · exact Or.inr (Lib.BuilderAt.put (T := 126) (e := 5) hB hb2 (bs' := strC l ++ Lib.strCells s) (by simpa [Lib.strCells_length, hll] using hown') (by decide))
  · exact (hb1.grown hgrow (by omega) (fun k hk => (hown.lt k hk).1)).setCell (p := ⟨b, 1, none⟩) hB _
  · exact (ht1.trans (Tame.grown hgrow hown)).trans (Tame.setCell hb2 1 _)
set_option maxRecDepth 100000 in
theorem cells5 : Tryz.prog.cellsOf 5 = 1 := by kernel_rfl
set_option maxRecDepth 100000 in
set_option maxHeartbeats 2000000 in
theorem b_string (b : Nat) (l : List UInt8) (w : World) (h : Bld w b l) (h0 : l ≠ []) :
    Calls Tryz.prog 65 #[.pointer (some ⟨b, 0, none⟩)] w fun e w' => e = .returned (.string ⟨l.toArray⟩) ∧ Below b w w' := by
  obtain ⟨p, hB, v, hbk, hown, hne⟩ : ∃ p, Lib.BuilderAt 126 5 b b p (strC l) w := by
    rcases h with h | h
    · exact ⟨_, h⟩
    · exact ⟨_, h⟩
  have hl0 : l.length ≠ 0 := by simpa using h0
  rw [show (strC l).length = l.length by simp [strC]] at hown
  obtain ⟨g, cap, cur, rfl, hbg, hg, hnc, hcm, hcs, htake⟩ : ∃ g cap cur, v = .slice (some ⟨g, 0, none⟩) l.length cap ∧ b ≤ g ∧ w.heap[g]? = some (.cells cur 5 (0, 0)) ∧ l.length ≤ cap ∧ cap ≤ maxLen ∧ cur.size = cap * 1 ∧ cur.toList.take (l.length * 1) = strC l := by
    rcases hown.2 with ⟨_, hz⟩ | ⟨g, cap, cur, hv, r⟩
    · exact absurd hz hl0
    · exact ⟨g, cap, cur, hv, r⟩
  have c1 : w.drew.cell? ⟨b, 1, none⟩ = some (.slice (some ⟨g, 0, none⟩) l.length cap) := by
    have : w.drew.heap[b]? = some (.cells #[p, .slice (some ⟨g, 0, none⟩) l.length cap] 126 (0, 0)) := hbk
    rw [Lib.cell_of_heap this]; rfl
  have hSD : (Builtin.unsafeSliceData_ #[124] 156 #[.slice (some ⟨g, 0, none⟩) l.length cap]).run Tryz.prog w.drew = .ok (.pointer (some ⟨g, 0, none⟩)) w.drew :=
    Lib.run_unsafeSliceData_row _ _ _ _ _ _ (by omega)
  have hUS : (Builtin.unsafeString_ #[156, 3] 9 #[.pointer (some ⟨g, 0, none⟩), .int .i64 l.length]).run Tryz.prog w.drew = .ok (.string ⟨l.toArray⟩) (w.drew.freeze ⟨g, 0, none⟩ l.length) := by
    refine Lib.run_unsafeString_row w.drew 156 3 9 5 Tryz.underlying156 cells5 g cur.size (by have hg' : w.drew.heap[g]? = some (.cells cur 5 (0, 0)) := hg; simp [World.shape?, hg']) l h0 (by omega) (by unfold maxLen at hcm; omega) ?_
    intro j x hx
    have := hown.cells (g := g) rfl j (.int .u8 x.toNat) (by simp [strC, hx])
    exact this
  go_enter Tryz.func65, Tryz.ntmps65
  go_wp2
  go_region
  all_goals (go_wp2; go_ret; exact ⟨rfl, Lib.below_freeze (Below.drew (Below.refl b w)) (p := ⟨g, 0, none⟩) hbg _⟩)
set_option maxRecDepth 100000 in
theorem bld_new (w : World) : Bld (w.alloc (.cells #[.pointer none, .slice none 0 0] 126)) w.heap.size [] := Lib.fresh_isBuilder 126 5 w
end Go.Proofs.YtniljoojoafiaaaGreatDoor.V
namespace Go.Proofs.YtniljoojoafiaaaGreatDoor
open Go.RowKit Go.Shelf
attribute [local go_sem] Oper.semAt_some
theorem info31 : (Tryz.prog.info? 31).map (fun i => (i.zero, i.size, i.bytes)) = some (some (.int .u64 0), 1, 8) := by kernel_rfl
theorem pfx_one {d x : Int} {pre : List Int} (h : pre ++ [x] <+: [d]) : pre = [] ∧ x = d := by
  obtain ⟨r, hr⟩ := h
  cases pre with
  | nil => simp at hr; exact ⟨rfl, hr.1⟩
  | cons y ys => simp at hr
/- A list with these numbers in a box. -/
def Bx (n0 b : Nat) (pre : List Int) (W : World) : Prop := ∃ v, Boxed W b 71 v ∧ W.ownsRow n0 31 1 v pre.length (pre.map (Value.int .u64)) ∧ (pre = [] → v = .slice none 0 0)
theorem Bx.st {n0 b m : Nat} {pre : List Int} {U V : World} (h : Bx n0 b pre U) (hs : StW m U V) : Bx n0 b pre V := by
  obtain ⟨v, h1, h2, h3⟩ := h
  refine ⟨v, hs.row h1, ⟨h2.1, ?_⟩, h3⟩
  rcases h2.2 with h | ⟨g, cap, cur, e, hb, hg, r⟩
  · exact Or.inl h
  · exact Or.inr ⟨g, cap, cur, e, hb, hs.row hg, r⟩
set_option maxRecDepth 100000 in
set_option maxHeartbeats 4000000 in
theorem aseq_one {w : World} (g gf : Nat) (d : Int) (A : Nat → Prop) (eg : ∀ args W, (callFunc gf args).run Tryz.prog W = .ok (.enter gf args) W) (hA : ∀ k, A k → k < w.heap.size) (hseq : ∀ W, Below w.heap.size w W → SeqW Tryz.prog gf #[.pointer (some ⟨g, 0, none⟩)] (fun _ (x : Int) ar _ => ar = #[.int .u64 x]) [d] A W) :
    Calls Tryz.prog 100 #[.slice none 0 0, .func (.func gf) #[] #[.pointer (some ⟨g, 0, none⟩)]] w fun e w' => ∃ q c, e = .returned (.slice (some ⟨q, 0, none⟩) 1 c) ∧ w.heap.size ≤ q ∧ w'.cell? ⟨q, 0, none⟩ = some (.int .u64 d) ∧ 1 ≤ c ∧ c ≤ maxLen ∧ Below w.heap.size w w' := by
  obtain ⟨w1, hw1⟩ : ∃ w1, w.alloc (.cells #[.slice none 0 0] 71) = w1 := ⟨_, rfl⟩
  have hb1 : Below w.heap.size w w1 := by rw [← hw1]; exact (Below.refl _ w).alloc (Nat.le_refl _) _
  have s1 : w1.heap.size = w.heap.size + 1 := by rw [← hw1]; simp
  have bx : Boxed w1 w.heap.size 71 (.slice none 0 0) := by rw [← hw1]; exact Boxed.new w 71 _
  have hsq := hseq w1 hb1
  have HW : Hid (w.alloc (.cells #[.slice none 0 0] 71) = w1) := hw1
  clear hw1 hseq
  refine (callsIn_wide (n := 0)).1 ?_
  refine callsIn_of_wp_marks Tryz.func100 rfl trivial ?_ rfl
  simp only [Tryz.ntmps100, List.size_toArray, List.length_cons, List.length_nil, Nat.reduceAdd, Nat.reduceSub, Array.replicate_succ, Array.replicate_zero, List.push_toArray, List.append_toArray, List.nil_append, List.cons_append]
  gi_wp2
  rw [HW.out]
  obtain ⟨i0, hi, hz0, hz1, hz2⟩ := info_parts info31
  refine range_w (gf := gf) (lb := #[.pointer (some ⟨g, 0, none⟩)]) rfl eg hsq (fun _ _ _ _ h => by rw [h]; rfl) (fun _ _ _ _ _ h _ => h) (fun k => k = w.heap.size)
    (fun k hk => ⟨by have := hA k hk; omega, by have := hA k hk; omega⟩) (fun k hk => by omega)
    (fun pre W => Bx w.heap.size w.heap.size pre W ∧ Below w.heap.size w W)
    (fun _ _ _ => False)
    (fun s U V ⟨h0, h3⟩ hb => ⟨h0.st hb, h3.trans ⟨hb.os, hb.tape, hb.output, hb.size, fun k hk => hb.block k (Nat.lt_of_lt_of_le hk h3.size) (Or.inl (by omega))⟩⟩)
    (fun _ _ _ _ h _ => h) ⟨⟨_, bx, ⟨rfl, Or.inl ⟨rfl, rfl⟩⟩, fun _ => rfl⟩, hb1⟩
    (fun ar => { tmps := #[.slice none 0 0, .func (.func gf) #[] #[.pointer (some ⟨g, 0, none⟩)], .pointer (some ⟨w.heap.size, 0, none⟩), undef, .slice none 0 0, ar.getD 0 undef, .func (.func gf) #[] #[.pointer (some ⟨g, 0, none⟩)], ar.getD 0 undef, undef, undef, undef, undef, undef], defers := [] }) ?assign ?body ?done ?stop
  case assign =>
    intro l D x ar W K he hK
    subst he
    have e : (#[Value.int .u64 x] : Array Value).getD 0 undef = .int .u64 x := rfl
    simp only [e] at hK
    gi_wp2
    exact hK
  case body =>
    rintro l D pre x ar W hCD he ⟨⟨v, h1, h2, h3⟩, h4⟩ hp hsz
    obtain ⟨rfl, rfl⟩ := pfx_one hp
    obtain rfl := h3 rfl
    subst he
    have e : (#[Value.int .u64 x] : Array Value).getD 0 undef = .int .u64 x := rfl
    simp only [e]
    have c0 := h1.cell
    gi_wp2_with (first
      | (gi_at_builtin; refine wpListIn_append_own _ rfl _ _ 71 rfl w.heap.size 31 i0 (.int .u64 0) 1 8 Tryz.underlying71 hi hz0 hz1 hz2 rfl (by decide) _ _ _ rfl (h2.alloc _) ⟨W.heap.size, 0, none⟩ 1 1 [.int .u64 x] rfl rfl (cell_one_new _ _ _) (by simp [Value.oneCell']) (by decide) (by decide) (by have := h4.size; simp; omega) ?_; intro v' w3 hown' hg3 hnil3; obtain ⟨q, c, rfl⟩ := ownsRow_succ hown'; obtain ⟨k1, k2, k3, k4, k5⟩ := Boxed.appended h1 (by decide) h2 h4.size (Nat.le_refl _) hown' hg3; have c3 := k1.cell; have f3 := k1.frozen)
      | gi_in)
    have hkc : B.KC (fun k => k = w.heap.size) W (w3.setCell ⟨w.heap.size, 0, none⟩ (.slice (some ⟨q, 0, none⟩) (([] : List Int).length + 1) c)) := by
      refine B.KC.setCell (C := fun k => k = w.heap.size) ?_ (b := w.heap.size) (o := 0) rfl _
      have a1 := World.grownBy_alloc W (.cells #[.int .u64 x] 31) none
      have hg4 : (W.alloc (.cells #[.int .u64 x] 31)).grownBy w3 none := hg3
      exact ⟨hg4.os.trans a1.os, hg4.tape.trans a1.tape, hg4.output.trans a1.output, Nat.le_trans a1.size hg4.size, fun k hk hc => (hg4.block k (by simp; omega) (by simp)).trans (a1.block k hk (by simp))⟩
    exact ⟨hkc, ⟨_, k2, k3, fun h => by cases h⟩, h4.trans k5⟩
  case done =>
    rintro W ⟨⟨v, h1, h2, h3⟩, h4⟩ hkc hD
    obtain ⟨q, c, rfl⟩ := ownsRow_succ h2
    have c0 := h1.cell
    have HD : Hid (W.heap[w1.heap.size]? = some (.deferred (some []))) := hD
    clear hD
    gi_wp2
    refine ⟨by simp, .inl ⟨_, _, rfl, run_takeDeferred HD.out, ?_⟩⟩
    refine ⟨.slice (some ⟨q, 0, none⟩) 1 c, by simp [results, Tryz.results100, go_sem], ?_⟩
    have hbp : Below w.heap.size w (W.putObj w1.heap.size (.deferred none)) := h4.trans (B.putObj_below _ _ (by omega))
    rcases h2.2 with ⟨h, _⟩ | ⟨g', cap, cur, e, hq, hg, r1, r2, r3, r4⟩
    · cases h
    · injection e with e1 _ e3
      injection e1 with e1
      injection e1 with e1
      subst e1 e3
      refine ⟨q, c, rfl, hq, ?_, r1, r2, hbp⟩
      have hne : q ≠ w1.heap.size := fun e => by
        rw [e, HD.out] at hg
        cases hg
      have hg2 := (World.putObj_heap_other (o := .deferred none) hne).trans hg
      rw [cell_of_row _ q 0 _ _ _ hg2, ← Array.getElem?_toList]
      have r5 : cur.toList.take 1 = [.int .u64 d] := r4
      cases hcl : cur.toList with
      | nil => rw [hcl] at r5; cases r5
      | cons a l =>
        rw [hcl] at r5
        simp at r5
        rw [r5]; rfl
  case stop => exact fun _ _ _ _ h => h.elim
end Go.Proofs.YtniljoojoafiaaaGreatDoor
