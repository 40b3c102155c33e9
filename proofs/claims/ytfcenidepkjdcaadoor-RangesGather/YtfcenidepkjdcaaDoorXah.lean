/- The part of a name of any value (value.Get). A strings.Builder of the call's own: what it holds (Bld), what its methods do (copyCheck, WriteByte, WriteString, Len, String), and what they leave alone (Tame). A sound value's bytes behind others (put, putParts): all of them, or more than may be. -/
import Derived.Test.YtfcenidepkjdcaaDoorXag
import Derived.Test.YtfcenidepkjdcaaDoorXaa
import Derived.Test.YtfcenidepkjdcaaDoorXaf
import Derived.Lib.Builder
import Derived.Lib.AppendStr
import Derived.Lib.UnsafeStr
import Derived.Laws.Externs
import Derived.OwnWalk
import Derived.Test.YtfcenidepkjdcaaDoorXae
namespace Go.Proofs.YtfcenidepkjdcaaDoor
open Go.RowKit Go.Shelf
def ixOf (name : ByteArray) (q : Nat) (g : Nat → ByteArray) : Int := Lib.idxBy (fun _ y => y.toList == name.toList) ((List.range q).map g) (default : ByteArray)
def noT : V.Tr := V.leafT 0 false 0 ⟨#[]⟩
def getT : V.Tr → ByteArray → V.Tr
  | .no, _ => noT
  | .mk k _ _ _ m f q g, name => if k = 6 ∧ 0 ≤ ixOf name q g ∧ ixOf name q g < m then f (ixOf name q g).toNat else noT
set_option maxRecDepth 100000 in
theorem no_lies {S : Nat → Prop} {w : World} : V.LiesS S w noT ⟨none, 0, none, 0⟩ := V.lies_leaf (by omega) (by omega) (by show (0 : Nat) ≤ maxLen; exact Nat.zero_le _)
set_option maxRecDepth 100000 in
theorem get_any {B : Nat} {w : World} (t : V.Tr) (x : V.Ad) (name : ByteArray) (hL : V.Lies B w t x) (hB : B ≤ w.heap.size) (hs : V.slimq t) :
    Calls Tryd.prog 45 #[t.val x, .string name] w fun e w' => ∃ A, e = .returned ((getT t name).val A) ∧ V.LiesS (fun k => w.heap.size ≤ k ∧ k < w'.heap.size) w' (getT t name) A ∧ Below w.heap.size w w' := by
  have hno : ∀ {e : Ending} {w' : World}, getT t name = noT → e = .returned (.agg noneA) ∧ Below w.heap.size w w' → ∃ A, e = .returned ((getT t name).val A) ∧ V.LiesS (fun k => w.heap.size ≤ k ∧ k < w'.heap.size) w' (getT t name) A ∧ Below w.heap.size w w' := by
    rintro e w' h ⟨rfl, hb⟩
    rw [h]
    exact ⟨⟨none, 0, none, 0⟩, rfl, no_lies, hb⟩
  cases t with
  | no => exact (get_kind .no x name (by show (0 : Int) ≠ 6; omega)).mono fun e w' h => hno rfl h
  | mk k b n s m f q g =>
    by_cases hk : k = 6
    · subst hk
      obtain ⟨i, hi⟩ : ∃ i, ixOf name q g = i := ⟨_, rfl⟩
      by_cases hr : 0 ≤ i ∧ i < m
      · have hg : getT (.mk 6 b n s m f q g) name = f i.toNat := by
          show (if (6 : Int) = 6 ∧ 0 ≤ ixOf name q g ∧ ixOf name q g < m then f (ixOf name q g).toNat else noT) = _
          rw [hi, if_pos ⟨rfl, hr⟩]
        rw [hg]
        have hq0 : 0 < q := by
          rcases Nat.eq_zero_or_pos q with rfl | h
          · have : ixOf name 0 g = -1 := rfl
            omega
          · exact h
        exact V.get_at hL hB name i.toNat hq0 hs.2.1 (by omega) (hs.2.2 _ (by omega)) (by rw [Int.toNat_of_nonneg hr.1]; exact hi)
      · refine (get_gone hL hB name i hs.2.1 (by omega) hi).mono fun e w' h => hno ?_ h
        show (if (6 : Int) = 6 ∧ 0 ≤ ixOf name q g ∧ ixOf name q g < m then f (ixOf name q g).toNat else noT) = _
        rw [hi, if_neg (by omega)]
    · refine (get_kind (.mk k b n s m f q g) x name hk).mono fun e w' h => hno ?_ h
      show (if k = 6 ∧ 0 ≤ ixOf name q g ∧ ixOf name q g < m then f (ixOf name q g).toNat else noT) = _
      rw [if_neg (fun h => hk h.1)]
end Go.Proofs.YtfcenidepkjdcaaDoor
namespace Go.Proofs.YtfcenidepkjdcaaDoor.V
open Go.RowKit
def strC (l : List UInt8) : List Value := l.map fun b => Value.int .u8 b.toNat
def Bld (w : World) (b : Nat) (l : List UInt8) : Prop := Lib.IsBuilder 90 5 b b (strC l) w
structure Tame (w w' : World) : Prop where
  size : w.heap.size ≤ w'.heap.size
  block : ∀ (k : Nat) (cs : Array Value) (t : TypeId) (fr : Nat × Nat), t ≠ 5 → t ≠ 90 → w.heap[k]? = some (Obj.cells cs t fr) → w'.heap[k]? = some (Obj.cells cs t fr)
set_option maxRecDepth 100000 in
theorem Tame.refl (w : World) : Tame w w := ⟨Nat.le_refl _, fun _ _ _ _ _ _ h => h⟩
set_option maxRecDepth 100000 in
theorem Tame.trans {u v w : World} (h : Tame u v) (k : Tame v w) : Tame u w := ⟨Nat.le_trans h.size k.size, fun i cs t fr h5 h66 hi => k.block i cs t fr h5 h66 (h.block i cs t fr h5 h66 hi)⟩
set_option maxRecDepth 100000 in
theorem Tame.ofBelow {u v : World} (h : Below u.heap.size u v) : Tame u v := ⟨h.size, fun k _ _ _ _ _ hk => (h.block k (lt_of_row hk)).trans hk⟩
set_option maxRecDepth 100000 in
theorem Tame.setCell {u : World} {b : Nat} {cs : Array Value} {fr : Nat × Nat} (h : u.heap[b]? = some (.cells cs 90 fr)) (j : Nat) (v : Value) : Tame u (u.setCell ⟨b, j, none⟩ v) :=
  ⟨by simp, fun k cs' t fr' _ h66 hk => by
    have : k ≠ b := fun e => by subst e; rw [h] at hk; injection hk with hk; injection hk with _ h2 _; exact h66 h2.symm
    rw [Below.heap_setCell _ _ _ _ this]; exact hk⟩
set_option maxRecDepth 100000 in
theorem Tame.grown {u v : World} {n : Nat} {B : Nat} {x : Value} {xs : List Value} (h : u.grownBy v x.ownBlock) (ho : u.ownsRow B 5 1 x n xs) : Tame u v := by
  refine ⟨h.size, fun k cs t fr h5 _ hk => ?_⟩
  rw [← hk]
  refine h.block k (lt_of_row hk) (fun e => ?_)
  rcases ho.2 with ⟨rfl, _⟩ | ⟨g, cap, cur, rfl, _, hg, _⟩
  · cases e
  · injection e with e
    have e' : k = g := e
    subst e'
    rw [hk] at hg
    injection hg with hg
    injection hg with _ h2 _
    exact h5 h2
set_option maxRecDepth 100000 in
set_option maxHeartbeats 1000000 in
theorem b_used (b : Nat) (w : World) (h0 : w.cell? ⟨b, 0, none⟩ = some (.pointer (some ⟨b, 0, none⟩))) :
    Calls Tryd.prog 80 #[.pointer (some ⟨b, 0, none⟩)] w fun e w' => e = .returned (.tuple #[]) ∧ w' = w := by
  obtain ⟨j, hj, _⟩ := Option.map_eq_some_iff.1 (show (Tryd.prog.info? 90).map (·.size) = some 2 by kernel_rfl)
  go_enter Tryd.func80, Tryd.ntmps80
  go_wp2
  rw [Lib.run_neq_ptr_same w _ Tryd.underlying87 hj]
  go_wp2
  go_end0
  exact ⟨rfl, rfl⟩
set_option maxRecDepth 100000 in
set_option maxHeartbeats 1000000 in
theorem b_fresh (b : Nat) (w : World) (h0 : w.cell? ⟨b, 0, none⟩ = some (.pointer none)) (hsh : w.shape? b = some (90, 2)) (hfz : w.frozen? ⟨b, 0, none⟩ = false) :
    Calls Tryd.prog 80 #[.pointer (some ⟨b, 0, none⟩)] w fun e w' => e = .returned (.tuple #[]) ∧ w' = w.setCell ⟨b, 0, none⟩ (.pointer (some ⟨b, 0, none⟩)) := by
  obtain ⟨j, hj, hjs⟩ := Option.map_eq_some_iff.1 (show (Tryd.prog.info? 90).map (·.size) = some 2 by kernel_rfl)
  go_enter Tryd.func80, Tryd.ntmps80
  go_wp2
  rw [Lib.run_to_unsafe w ⟨b, 0, none⟩ Tryd.underlying87 Tryd.underlying115 hj (by rw [hjs]; decide) hsh (Nat.zero_lt_succ 1)]
  simp only [Result.andThen]
  rw [Oper.upon_value]
  go_wp2
  rw [run_callFunc_extern Tryd.func85 (by kernel_rfl) (by kernel_rfl) (by kernel_rfl) (e := Extern.AbiNoEscape.same) (by kernel_rfl)]
  rw [Lib.run_noEscape]
  simp only [Result.andThen]
  rw [Oper.upon_value]
  go_wp2
  rw [Lib.run_from_unsafe w ⟨b, 0, none⟩ Tryd.underlying115 Tryd.underlying87 hj hsh (by kernel_rfl)]
  simp only [Result.andThen]
  rw [Oper.upon_value]
  go_wp2
  go_end0
  exact ⟨rfl, rfl⟩
set_option maxRecDepth 100000 in
theorem b_check (b : Nat) (l : List UInt8) (w : World) (h : Bld w b l) :
    Calls Tryd.prog 80 #[.pointer (some ⟨b, 0, none⟩)] w fun e w' => e = .returned (.tuple #[]) ∧ Lib.BuilderAt 90 5 b b (.pointer (some ⟨b, 0, none⟩)) (strC l) w' ∧ Below b w w' ∧ Tame w w' := by
  rcases h with h | h
  · refine (b_fresh b w h.cell0 h.shape h.frozen0).mono ?_
    rintro e w' ⟨rfl, rfl⟩
    have h2 := h.used (.pointer (some ⟨b, 0, none⟩))
    obtain ⟨_, v, hb, _⟩ := h
    exact ⟨rfl, h2, (Below.refl b w).setCell (p := ⟨b, 0, none⟩) (Nat.le_refl _) _, Tame.setCell hb 0 _⟩
  · refine (b_used b w h.cell0).mono ?_
    rintro e w' ⟨rfl, rfl⟩
    exact ⟨rfl, h, Below.refl b _, Tame.refl _⟩
set_option maxRecDepth 100000 in
theorem b_len (b : Nat) (l : List UInt8) (w : World) (h : Bld w b l) :
    Calls Tryd.prog 58 #[.pointer (some ⟨b, 0, none⟩)] w fun e w' => e = .returned (.int .i64 (l.length : Int)) ∧ w' = w := by
  obtain ⟨p, hB, v, hbk, hown, hne⟩ : ∃ p, Lib.BuilderAt 90 5 b b p (strC l) w := by
    rcases h with h | h
    · exact ⟨_, h⟩
    · exact ⟨_, h⟩
  rw [show (strC l).length = l.length by simp [strC]] at hown
  obtain ⟨ao, cap, rfl⟩ : ∃ ao cap, v = .slice ao l.length cap := by
    rcases hown.2 with ⟨hv, h0⟩ | ⟨g, cap, cur, hv, _⟩
    · exact ⟨none, 0, by rw [hv, h0]⟩
    · exact ⟨_, _, hv⟩
  have c1 : w.cell? ⟨b, 1, none⟩ = some (.slice ao l.length cap) := by rw [Lib.cell_of_heap hbk]; rfl
  go_enter Tryd.func58, Tryd.ntmps58
  go_wp2
  go_ret
  exact ⟨rfl, rfl⟩
set_option maxRecDepth 100000 in
theorem info5 : (Tryd.prog.info? 5).map (fun i => (i.zero, i.size, i.bytes)) = some (some (.int .u8 0), 1, 1) := by kernel_rfl
set_option maxRecDepth 100000 in
set_option maxHeartbeats 2000000 in
theorem b_byte (b : Nat) (l : List UInt8) (c : UInt8) (w : World) (h : Bld w b l) (hlen : l.length ≤ 1000000) (v0 : Int) (hv0 : v0 = (c.toNat : Int)) :
    Calls Tryd.prog 67 #[.pointer (some ⟨b, 0, none⟩), .int .u8 v0] w fun e w' => e = .returned .nilIface ∧ Bld w' b (l ++ [c]) ∧ Below b w w' ∧ Tame w w' := by
  obtain ⟨i0, hi, hz0, hz1, hz2⟩ := info_parts info5
  have hcs : strC (l ++ [c]) = strC l ++ [.int .u8 v0] := by rw [hv0]; simp [strC]
  rw [show Bld = fun w b l => Lib.IsBuilder 90 5 b b (strC l) w from rfl]
  simp only [hcs]
  have hll : (strC l).length = l.length := by simp [strC]
  clear hcs hv0
  go_enter Tryd.func67, Tryd.ntmps67
  go_wp2_with fail
  refine (b_check b l _ h).mono ?_
  rintro e w1 ⟨rfl, h1, hb1, ht1⟩
  obtain ⟨hB, v, hbk, hown, hne⟩ := h1
  have c0 : w1.cell? ⟨b, 0, none⟩ = some (.pointer (some ⟨b, 0, none⟩)) := by rw [Lib.cell_of_heap hbk]; rfl
  have c1 : w1.cell? ⟨b, 1, none⟩ = some v := by rw [Lib.cell_of_heap hbk]; rfl
  have hlt : b < w1.heap.size := lt_of_row hbk
  go_wp2_with (at_builtin; refine wpList_append_own _ rfl _ _ 88 rfl b 5 i0 (.int .u8 0) 1 1 Tryd.underlying88 hi hz0 hz1 hz2 rfl (by decide) _ _ _ rfl (hown.alloc _) ⟨w1.heap.size, 0, none⟩ 1 1 [.int .u8 v0] rfl rfl ?c1 ?c2 ?c3 ?c4 ?c5 ?_)
  case c1 =>
    intro j u hj
    match j, hj with
    | 0, hj => simp at hj; subst hj; simp [Addr.add]
  case c2 => intro u hu; simp at hu; subst hu; rfl
  case c3 => unfold maxLen; omega
  case c4 => omega
  case c5 => simp; omega
  intro v' w2 hown' hgrow _
  have hb2 : w2.heap[b]? = some (.cells #[.pointer (some ⟨b, 0, none⟩), v] 90 (0, 0)) := by
    rw [hgrow.block b (by simp; omega) (fun e => hne e.symm), Lib.alloc_old w1 _ b hlt]
    exact hbk
  have d0 : w2.cell? ⟨b, 0, none⟩ = some (.pointer (some ⟨b, 0, none⟩)) := by rw [Lib.cell_of_heap hb2]; rfl
  have d1 : w2.cell? ⟨b, 1, none⟩ = some v := by rw [Lib.cell_of_heap hb2]; rfl
  have f1 : w2.frozen? ⟨b, 1, none⟩ = false := Lib.frozen_of_heap hb2 1
  obtain ⟨g, cap, rfl⟩ : ∃ g cap, v' = .slice (some ⟨g, 0, none⟩) (l.length + 1) cap := by
    rcases hown'.2 with ⟨_, h0⟩ | ⟨g, cap, cur, hv, _⟩
    · omega
    · exact ⟨g, cap, hv⟩
  go_wp2
  go_ret
  refine ⟨rfl, ?_, ?_, ?_⟩
  · exact Or.inr (Lib.BuilderAt.put (T := 90) (e := 5) hB hb2 (bs' := strC l ++ [.int .u8 v0]) (by simpa [hll] using hown') (by decide))
  · exact ((hb1.alloc (by omega) _).grown hgrow (by simp; omega) (fun k hk => (hown.lt k hk).1)).setCell (p := ⟨b, 1, none⟩) hB _
  · exact (ht1.trans ((Tame.ofBelow ((Below.refl _ w1).alloc (Nat.le_refl _) _)).trans (Tame.grown hgrow (hown.alloc _)))).trans (Tame.setCell hb2 1 _)
set_option maxRecDepth 100000 in
set_option maxHeartbeats 2000000 in
theorem b_text (b : Nat) (l : List UInt8) (s : ByteArray) (w : World) (h : Bld w b l) (hlen : l.length ≤ 1000000) (hs : s.size ≤ 1000000) :
    Calls Tryd.prog 69 #[.pointer (some ⟨b, 0, none⟩), .string s] w fun e w' => e = .returned (.tuple #[.int .i64 s.size, .nilIface]) ∧ Bld w' b (l ++ s.data.toList) ∧ Below b w w' ∧ Tame w w' := by
  obtain ⟨i0, hi, hz0, hz1, hz2⟩ := info_parts info5
  have hcs : strC (l ++ s.data.toList) = strC l ++ Lib.strCells s := by simp [strC, Lib.strCells]
  rw [show Bld = fun w b l => Lib.IsBuilder 90 5 b b (strC l) w from rfl]
  simp only [hcs]
  have hll : (strC l).length = l.length := by simp [strC]
  clear hcs
  go_enter Tryd.func69, Tryd.ntmps69
  go_wp2_with fail
  refine (b_check b l _ h).mono ?_
  rintro e w1 ⟨rfl, h1, hb1, ht1⟩
  obtain ⟨hB, v, hbk, hown, hne⟩ := h1
  have c0 : w1.cell? ⟨b, 0, none⟩ = some (.pointer (some ⟨b, 0, none⟩)) := by rw [Lib.cell_of_heap hbk]; rfl
  have c1 : w1.cell? ⟨b, 1, none⟩ = some v := by rw [Lib.cell_of_heap hbk]; rfl
  have hlt : b < w1.heap.size := lt_of_row hbk
  go_wp2_with (at_builtin; refine Lib.wpList_append_own_string _ rfl _ _ 88 9 rfl b 5 i0 Tryd.underlying88 Tryd.underlying9 hi hz0 hz1 hz2 _ _ _ rfl hown s rfl ?c3 ?c4 ?c5 ?_)
  case c3 => unfold maxLen; omega
  case c4 => omega
  case c5 => omega
  intro v' w2 hown' hgrow _
  have hb2 : w2.heap[b]? = some (.cells #[.pointer (some ⟨b, 0, none⟩), v] 90 (0, 0)) := by
    rw [hgrow.block b hlt (fun e => hne e.symm)]
    exact hbk
  have d0 : w2.cell? ⟨b, 0, none⟩ = some (.pointer (some ⟨b, 0, none⟩)) := by rw [Lib.cell_of_heap hb2]; rfl
  have d1 : w2.cell? ⟨b, 1, none⟩ = some v := by rw [Lib.cell_of_heap hb2]; rfl
  have f1 : w2.frozen? ⟨b, 1, none⟩ = false := Lib.frozen_of_heap hb2 1
  obtain ⟨ao, n', cap, rfl⟩ : ∃ ao n' cap, v' = .slice ao n' cap := by
    rcases hown'.2 with ⟨hv, _⟩ | ⟨g, cap, cur, hv, _⟩
    · exact ⟨_, _, _, hv⟩
    · exact ⟨_, _, _, hv⟩
  go_wp2
  go_ret2
  refine ⟨rfl, ?_, ?_, ?_⟩
  · exact Or.inr (Lib.BuilderAt.put (T := 90) (e := 5) hB hb2 (bs' := strC l ++ Lib.strCells s) (by simpa [Lib.strCells_length, hll] using hown') (by decide))
  · exact (hb1.grown hgrow (by omega) (fun k hk => (hown.lt k hk).1)).setCell (p := ⟨b, 1, none⟩) hB _
  · exact (ht1.trans (Tame.grown hgrow hown)).trans (Tame.setCell hb2 1 _)
set_option maxRecDepth 100000 in
theorem cells5 : Tryd.prog.cellsOf 5 = 1 := by kernel_rfl
set_option maxRecDepth 100000 in
set_option maxHeartbeats 2000000 in
theorem b_string (b : Nat) (l : List UInt8) (w : World) (h : Bld w b l) (h0 : l ≠ []) :
    Calls Tryd.prog 55 #[.pointer (some ⟨b, 0, none⟩)] w fun e w' => e = .returned (.string ⟨l.toArray⟩) ∧ Below b w w' := by
  obtain ⟨p, hB, v, hbk, hown, hne⟩ : ∃ p, Lib.BuilderAt 90 5 b b p (strC l) w := by
    rcases h with h | h
    · exact ⟨_, h⟩
    · exact ⟨_, h⟩
  have hl0 : l.length ≠ 0 := by simpa using h0
  rw [show (strC l).length = l.length by simp [strC]] at hown
  obtain ⟨g, cap, cur, rfl, hbg, hg, hnc, hcm, hcs, htake⟩ : ∃ g cap cur, v = .slice (some ⟨g, 0, none⟩) l.length cap ∧ b ≤ g ∧ w.heap[g]? = some (.cells cur 5 (0, 0)) ∧ l.length ≤ cap ∧ cap ≤ maxLen ∧ cur.size = cap * 1 ∧ cur.toList.take (l.length * 1) = strC l := by
    rcases hown.2 with ⟨_, hz⟩ | ⟨g, cap, cur, hv, r⟩
    · exact absurd hz hl0
    · exact ⟨g, cap, cur, hv, r⟩
  have c1 : w.drew.cell? ⟨b, 1, none⟩ = some (.slice (some ⟨g, 0, none⟩) l.length cap) := by
    have : w.drew.heap[b]? = some (.cells #[p, .slice (some ⟨g, 0, none⟩) l.length cap] 90 (0, 0)) := hbk
    rw [Lib.cell_of_heap this]; rfl
  have hSD : (Builtin.unsafeSliceData_ #[88] 109 #[.slice (some ⟨g, 0, none⟩) l.length cap]).run Tryd.prog w.drew = .ok (.pointer (some ⟨g, 0, none⟩)) w.drew :=
    Lib.run_unsafeSliceData_row _ _ _ _ _ _ (by omega)
  have hUS : (Builtin.unsafeString_ #[109, 3] 9 #[.pointer (some ⟨g, 0, none⟩), .int .i64 l.length]).run Tryd.prog w.drew = .ok (.string ⟨l.toArray⟩) (w.drew.freeze ⟨g, 0, none⟩ l.length) := by
    refine Lib.run_unsafeString_row w.drew 109 3 9 5 Tryd.underlying109 cells5 g cur.size (by have hg' : w.drew.heap[g]? = some (.cells cur 5 (0, 0)) := hg; simp [World.shape?, hg']) l h0 (by omega) (by unfold maxLen at hcm; omega) ?_
    intro j x hx
    have := hown.cells (g := g) rfl j (.int .u8 x.toNat) (by simp [strC, hx])
    exact this
  go_enter Tryd.func55, Tryd.ntmps55
  go_wp2
  go_region
  all_goals (go_wp2; go_ret; exact ⟨rfl, Lib.below_freeze (Below.drew (Below.refl b w)) (p := ⟨g, 0, none⟩) hbg _⟩)
set_option maxRecDepth 100000 in
theorem bld_new (w : World) : Bld (w.alloc (.cells #[.pointer none, .slice none 0 0] 90)) w.heap.size [] := Lib.fresh_isBuilder 90 5 w
end Go.Proofs.YtfcenidepkjdcaaDoor.V
namespace Go.Proofs.YtfcenidepkjdcaaDoor.V
open Go.RowKit
def textL (s : ByteArray) : List UInt8 := put s.size ++ s.data.toList
def cat : Nat → (Nat → List UInt8) → List UInt8
  | 0, _ => []
  | m + 1, F => cat m F ++ F m
def bytesT : Tr → List UInt8
  | .no => [0]
  | .mk k b n s m f _ g =>
    UInt8.ofNat k.toNat :: (if k = 1 then [if b then 1 else 0] else if k = 2 then put (zig n) else if k = 3 ∨ k = 4 then textL s
      else if k = 5 ∨ k = 6 then put m ++ cat m (fun i => (if k = 6 then textL (g i) else []) ++ bytesT (f i)) else [])
def small : Tr → Prop
  | .no => True
  | .mk _ _ _ s m f _ _ => s.size ≤ 4096 ∧ ∀ i, i < m → small (f i)
def Aft (l x l' : List UInt8) : Prop := ((l ++ x).length ≤ 1024 → l' = l ++ x) ∧ (1024 < (l ++ x).length → 1024 < l'.length)
set_option maxRecDepth 100000 in
theorem Aft.all (l x : List UInt8) : Aft l x (l ++ x) := ⟨fun _ => rfl, fun h => h⟩
set_option maxRecDepth 100000 in
theorem Aft.exact {l x l' : List UInt8} (h : Aft l x l') (h2 : l'.length ≤ 1024) : l' = l ++ x := by
  rcases Nat.lt_or_ge 1024 (l ++ x).length with k | k
  · have := h.2 k; omega
  · exact h.1 k
set_option maxRecDepth 100000 in
theorem Aft.over {l x y l' : List UInt8} (h : Aft l x l') (h2 : 1024 < l'.length) : Aft l (x ++ y) l' := by
  have : 1024 < (l ++ x).length := by
    rcases Nat.lt_or_ge 1024 (l ++ x).length with k | k
    · exact k
    · have := h.1 k; rw [this] at h2; omega
  constructor
  · intro k; simp at k this; omega
  · intro _; exact h2
set_option maxRecDepth 100000 in
theorem Aft.on {l x y l' : List UInt8} (h : Aft (l ++ x) y l') : Aft l (x ++ y) l' := by
  unfold Aft at h ⊢
  rw [List.append_assoc] at h
  exact h
set_option maxRecDepth 100000 in
theorem cat_more {i m : Nat} (F : Nat → List UInt8) (h : i ≤ m) : ∃ y, cat m F = cat i F ++ y := by
  induction m with
  | zero => obtain rfl : i = 0 := by omega
            exact ⟨[], by simp⟩
  | succ m ih =>
    rcases Nat.lt_or_ge m i with k | k
    · obtain rfl : i = m + 1 := by omega
      exact ⟨[], by simp⟩
    · obtain ⟨y, hy⟩ := ih k
      exact ⟨y ++ F m, by show cat m F ++ F m = _; rw [hy, List.append_assoc]⟩
set_option maxRecDepth 100000 in
theorem fe_zero {F : Nat → Int} : ∀ {m : Nat}, fe m F = 0 → ∀ i, i < m → F i = 0
  | 0, _, i, hi => by omega
  | m + 1, h, i, hi => by
    have h' : (if fe m F = 0 then F m else fe m F) = 0 := h
    by_cases k : fe m F = 0
    · rw [if_pos k] at h'
      rcases Nat.lt_or_ge i m with q | q
      · exact fe_zero k i q
      · obtain rfl : i = m := by omega
        exact h'
    · rw [if_neg k] at h'
      exact absurd h' k
structure SoundP (k : Int) (b : Bool) (n : Int) (s : ByteArray) (m : Nat) (f : Nat → Tr) (q : Nat) (g : Nat → ByteArray) (d : Int) : Prop where
  d8 : d ≤ 8
  fm : formedB k b n s m q = true
  k0 : 0 ≤ k
  k6 : k ≤ 6
  m32 : m ≤ 32
  nm : k = 6 → q = m ∧ ∀ i, i < q → okN g i = true
  ch : ∀ i, i < m → soundT (f i) (d + 1) = 0
set_option maxRecDepth 100000 in
theorem soundP {k : Int} {b : Bool} {n : Int} {s : ByteArray} {m : Nat} {f : Nat → Tr} {q : Nat} {g : Nat → ByteArray} {d : Int} (h : soundT (.mk k b n s m f q g) d = 0) : SoundP k b n s m f q g d := by
  rw [soundT] at h
  by_cases h8 : 8 < d
  · rw [if_pos h8] at h; cases h
  rw [if_neg h8] at h
  by_cases hf : formedB k b n s m q = false
  · rw [if_pos hf] at h; cases h
  rw [if_neg hf] at h
  by_cases h32 : 32 < m
  · rw [if_pos h32] at h; cases h
  rw [if_neg h32] at h
  by_cases h6 : k = 6 ∧ namedB q m g = false
  · rw [if_pos h6] at h; cases h
  rw [if_neg h6] at h
  have hft : formedB k b n s m q = true := by simpa using hf
  have h2 := hft
  unfold formedB at h2
  simp only [Bool.and_eq_true, decide_eq_true_eq] at h2
  refine ⟨by omega, hft, h2.1.1.1.1.1.1, h2.1.1.1.1.1.2, by omega, fun hk => ?_, fe_zero h⟩
  have : namedB q m g = true := by
    cases hn : namedB q m g with
    | true => rfl
    | false => exact absurd ⟨hk, hn⟩ h6
  exact of_decide_eq_true this
set_option maxRecDepth 100000 in
theorem nameB_size {s : ByteArray} (h : nameB s = true) : s.size ≤ 16 := by
  unfold nameB at h
  simp only [Bool.and_eq_true, decide_eq_true_eq] at h
  exact h.1.1.2
set_option maxRecDepth 100000 in
theorem okN_size {g : Nat → ByteArray} {i : Nat} (h : okN g i = true) : (g i).size ≤ 16 := by
  unfold okN at h
  rw [Bool.and_eq_true] at h
  exact nameB_size h.1
set_option maxRecDepth 100000 in
theorem textB_list (s : ByteArray) : (textB s).data.toList = textL s := by
  unfold textB textL
  rw [ByteArray.data_append, Array.toList_append]
set_option maxRecDepth 100000 in
theorem textL_len (s : ByteArray) (h : s.size ≤ 4096) : (textL s).length ≤ s.size + 10 := by
  unfold textL
  have := put_len10 (n := s.size) (by omega)
  rw [List.length_append, ← Lib.size_eq]
  omega
set_option maxRecDepth 100000 in
theorem textB_size (s : ByteArray) (h : s.size ≤ 4096) : (textB s).size ≤ s.size + 10 := by
  have := textL_len s h
  rw [← textB_list, ← Lib.size_eq] at this
  exact this
def PutC (t : Tr) (_ : Int) : Prop := ∀ (B : Nat) (w : World) (x : Ad) (b : Nat) (l : List UInt8), Lies B w t x → B ≤ b → Bld w b l → l.length ≤ 1100 →
    Calls Tryd.prog 57 #[.pointer (some ⟨b, 0, none⟩), t.val x] w fun e w' => e = .returned (.tuple #[]) ∧ (∃ l', Bld w' b l' ∧ Aft l (bytesT t) l' ∧ l'.length ≤ 6100) ∧ Below b w w' ∧ Tame w w'
set_option maxRecDepth 100000 in
theorem Bld.lt {w : World} {b : Nat} {l : List UInt8} (h : Bld w b l) : b < w.heap.size := by
  rcases h with h | h
  · exact h.lt
  · exact h.lt
set_option maxRecDepth 100000 in
theorem Bld.later {w w' : World} {b : Nat} {l : List UInt8} (h : Bld w b l) (hb : Below w.heap.size w w') : Bld w' b l := by
  have key : ∀ p, Lib.BuilderAt 90 5 b b p (strC l) w → Lib.BuilderAt 90 5 b b p (strC l) w' := by
    rintro p ⟨h1, v, h2, h3, h4⟩
    refine ⟨h1, v, (hb.block b (lt_of_row h2)).trans h2, ?_, h4⟩
    refine ⟨h3.1, ?_⟩
    rcases h3.2 with h5 | ⟨g, cap, cur, h5, h6, h7, h8⟩
    · exact Or.inl h5
    · exact Or.inr ⟨g, cap, cur, h5, h6, (hb.block g (lt_of_row h7)).trans h7, h8⟩
  rcases h with h | h
  · exact Or.inl (key _ h)
  · exact Or.inr (key _ h)
set_option maxRecDepth 100000 in
theorem kindByte {k : Int} (h0 : 0 ≤ k) (h6 : k ≤ 6) : IntKind.u8.wrap k = ((UInt8.ofNat k.toNat).toNat : Int) := by
  rw [toNat_ofNat_lt (by omega), IntKind.wrap_u8']; omega
end Go.Proofs.YtfcenidepkjdcaaDoor.V
