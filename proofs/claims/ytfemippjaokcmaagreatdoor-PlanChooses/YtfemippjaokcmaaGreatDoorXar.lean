/- A strings.Builder of the call's own: what it holds (Bld), what its methods do (copyCheck, WriteByte, WriteString, Len, String), and what they leave alone (Tame). Whether a text may be a name (Name, letter, digit). Whether a struct's names may be, rise, and are as many as its parts (named). Whether a value is formed, its kind and what it has (formed). The first error of a value that stands within so many (sound). A sound value's bytes behind others (put, putParts): all of them, or more than may be. -/
import Derived.Test.YtfemippjaokcmaaGreatDoorXaq
import Derived.Lib.Builder
import Derived.Lib.AppendStr
import Derived.Lib.UnsafeStr
import Derived.Laws.Externs
import Derived.OwnWalk
import Derived.BigGuardPart
namespace Go.Proofs.YtfemippjaokcmaaGreatDoor.V
open Go.RowKit
def strC (l : List UInt8) : List Value := l.map fun b => Value.int .u8 b.toNat
def Bld (w : World) (b : Nat) (l : List UInt8) : Prop := Lib.IsBuilder 112 5 b b (strC l) w
structure Tame (w w' : World) : Prop where
  size : w.heap.size ≤ w'.heap.size
  block : ∀ (k : Nat) (cs : Array Value) (t : TypeId) (fr : Nat × Nat), t ≠ 5 → t ≠ 112 → w.heap[k]? = some (Obj.cells cs t fr) → w'.heap[k]? = some (Obj.cells cs t fr)
set_option maxRecDepth 100000 in
theorem Tame.refl (w : World) : Tame w w := ⟨Nat.le_refl _, fun _ _ _ _ _ _ h => h⟩
set_option maxRecDepth 100000 in
theorem Tame.trans {u v w : World} (h : Tame u v) (k : Tame v w) : Tame u w := ⟨Nat.le_trans h.size k.size, fun i cs t fr h5 h66 hi => k.block i cs t fr h5 h66 (h.block i cs t fr h5 h66 hi)⟩
set_option maxRecDepth 100000 in
theorem Tame.ofBelow {u v : World} (h : Below u.heap.size u v) : Tame u v := ⟨h.size, fun k _ _ _ _ _ hk => (h.block k (lt_of_row hk)).trans hk⟩
set_option maxRecDepth 100000 in
theorem Tame.setCell {u : World} {b : Nat} {cs : Array Value} {fr : Nat × Nat} (h : u.heap[b]? = some (.cells cs 112 fr)) (j : Nat) (v : Value) : Tame u (u.setCell ⟨b, j, none⟩ v) :=
  ⟨by simp, fun k cs' t fr' _ h66 hk => by
    have : k ≠ b := fun e => by subst e; rw [h] at hk; injection hk with hk; injection hk with _ h2 _; exact h66 h2.symm
    rw [Below.heap_setCell _ _ _ _ this]; exact hk⟩
set_option maxRecDepth 100000 in
theorem Tame.grown {u v : World} {n : Nat} {B : Nat} {x : Value} {xs : List Value} (h : u.grownBy v x.ownBlock) (ho : u.ownsRow B 5 1 x n xs) : Tame u v := by
  refine ⟨h.size, fun k cs t fr h5 _ hk => ?_⟩
  rw [← hk]
  refine h.block k (lt_of_row hk) (fun e => ?_)
  rcases ho.2 with ⟨rfl, _⟩ | ⟨g, cap, cur, rfl, _, hg, _⟩
  · cases e
  · injection e with e
    have e' : k = g := e
    subst e'
    rw [hk] at hg
    injection hg with hg
    injection hg with _ h2 _
    exact h5 h2
set_option maxRecDepth 100000 in
set_option maxHeartbeats 1000000 in
theorem b_used (b : Nat) (w : World) (h0 : w.cell? ⟨b, 0, none⟩ = some (.pointer (some ⟨b, 0, none⟩))) :
    Calls Tryz.prog 131 #[.pointer (some ⟨b, 0, none⟩)] w fun e w' => e = .returned (.tuple #[]) ∧ w' = w := by
  obtain ⟨j, hj, _⟩ := Option.map_eq_some_iff.1 (show (Tryz.prog.info? 112).map (·.size) = some 2 by kernel_rfl)
  go_enter Tryz.func131, Tryz.ntmps131
  go_wp2
  rw [Lib.run_neq_ptr_same w _ Tryz.underlying110 hj]
  go_wp2
  go_end0
  exact ⟨rfl, rfl⟩
set_option maxRecDepth 100000 in
set_option maxHeartbeats 1000000 in
theorem b_fresh (b : Nat) (w : World) (h0 : w.cell? ⟨b, 0, none⟩ = some (.pointer none)) (hsh : w.shape? b = some (112, 2)) (hfz : w.frozen? ⟨b, 0, none⟩ = false) :
    Calls Tryz.prog 131 #[.pointer (some ⟨b, 0, none⟩)] w fun e w' => e = .returned (.tuple #[]) ∧ w' = w.setCell ⟨b, 0, none⟩ (.pointer (some ⟨b, 0, none⟩)) := by
  obtain ⟨j, hj, hjs⟩ := Option.map_eq_some_iff.1 (show (Tryz.prog.info? 112).map (·.size) = some 2 by kernel_rfl)
  go_enter Tryz.func131, Tryz.ntmps131
  go_wp2
  rw [Lib.run_to_unsafe w ⟨b, 0, none⟩ Tryz.underlying110 Tryz.underlying177 hj (by rw [hjs]; decide) hsh (Nat.zero_lt_succ 1)]
  simp only [Result.andThen]
  rw [Oper.upon_value]
  go_wp2
  rw [run_callFunc_extern Tryz.func157 (by kernel_rfl) (by kernel_rfl) (by kernel_rfl) (e := Extern.AbiNoEscape.same) (by kernel_rfl)]
  rw [Lib.run_noEscape]
  simp only [Result.andThen]
  rw [Oper.upon_value]
  go_wp2
  rw [Lib.run_from_unsafe w ⟨b, 0, none⟩ Tryz.underlying177 Tryz.underlying110 hj hsh (by kernel_rfl)]
  simp only [Result.andThen]
  rw [Oper.upon_value]
  go_wp2
  go_end0
  exact ⟨rfl, rfl⟩
set_option maxRecDepth 100000 in
theorem b_check (b : Nat) (l : List UInt8) (w : World) (h : Bld w b l) :
    Calls Tryz.prog 131 #[.pointer (some ⟨b, 0, none⟩)] w fun e w' => e = .returned (.tuple #[]) ∧ Lib.BuilderAt 112 5 b b (.pointer (some ⟨b, 0, none⟩)) (strC l) w' ∧ Below b w w' ∧ Tame w w' := by
  rcases h with h | h
  · refine (b_fresh b w h.cell0 h.shape h.frozen0).mono ?_
    rintro e w' ⟨rfl, rfl⟩
    have h2 := h.used (.pointer (some ⟨b, 0, none⟩))
    obtain ⟨_, v, hb, _⟩ := h
    exact ⟨rfl, h2, (Below.refl b w).setCell (p := ⟨b, 0, none⟩) (Nat.le_refl _) _, Tame.setCell hb 0 _⟩
  · refine (b_used b w h.cell0).mono ?_
    rintro e w' ⟨rfl, rfl⟩
    exact ⟨rfl, h, Below.refl b _, Tame.refl _⟩
set_option maxRecDepth 100000 in
theorem info5 : (Tryz.prog.info? 5).map (fun i => (i.zero, i.size, i.bytes)) = some (some (.int .u8 0), 1, 1) := by kernel_rfl
set_option maxRecDepth 100000 in
set_option maxHeartbeats 2000000 in
theorem b_byte (b : Nat) (l : List UInt8) (c : UInt8) (w : World) (h : Bld w b l) (hlen : l.length ≤ 1000000) (v0 : Int) (hv0 : v0 = (c.toNat : Int)) :
    Calls Tryz.prog 93 #[.pointer (some ⟨b, 0, none⟩), .int .u8 v0] w fun e w' => e = .returned .nilIface ∧ Bld w' b (l ++ [c]) ∧ Below b w w' ∧ Tame w w' := by
  obtain ⟨i0, hi, hz0, hz1, hz2⟩ := info_parts info5
  have hcs : strC (l ++ [c]) = strC l ++ [.int .u8 v0] := by rw [hv0]; simp [strC]
  rw [show Bld = fun w b l => Lib.IsBuilder 112 5 b b (strC l) w from rfl]
  simp only [hcs]
  have hll : (strC l).length = l.length := by simp [strC]
  clear hcs hv0
  go_enter Tryz.func93, Tryz.ntmps93
  go_wp2_with fail
  refine (b_check b l _ h).mono ?_
  rintro e w1 ⟨rfl, h1, hb1, ht1⟩
  obtain ⟨hB, v, hbk, hown, hne⟩ := h1
  have c0 : w1.cell? ⟨b, 0, none⟩ = some (.pointer (some ⟨b, 0, none⟩)) := by rw [Lib.cell_of_heap hbk]; rfl
  have c1 : w1.cell? ⟨b, 1, none⟩ = some v := by rw [Lib.cell_of_heap hbk]; rfl
  have hlt : b < w1.heap.size := lt_of_row hbk
  go_wp2_with (at_builtin; refine wpList_append_own _ rfl _ _ 84 rfl b 5 i0 (.int .u8 0) 1 1 Tryz.underlying84 hi hz0 hz1 hz2 rfl (by decide) _ _ _ rfl (hown.alloc _) ⟨w1.heap.size, 0, none⟩ 1 1 [.int .u8 v0] rfl rfl ?c1 ?c2 ?c3 ?c4 ?c5 ?_)
  case c1 =>
    intro j u hj
    match j, hj with
    | 0, hj => simp at hj; subst hj; simp [Addr.add]
  case c2 => intro u hu; simp at hu; subst hu; rfl
  case c3 => unfold maxLen; omega
  case c4 => omega
  case c5 => simp; omega
  intro v' w2 hown' hgrow _
  have hb2 : w2.heap[b]? = some (.cells #[.pointer (some ⟨b, 0, none⟩), v] 112 (0, 0)) := by
    rw [hgrow.block b (by simp; omega) (fun e => hne e.symm), Lib.alloc_old w1 _ b hlt]
    exact hbk
  have d0 : w2.cell? ⟨b, 0, none⟩ = some (.pointer (some ⟨b, 0, none⟩)) := by rw [Lib.cell_of_heap hb2]; rfl
  have d1 : w2.cell? ⟨b, 1, none⟩ = some v := by rw [Lib.cell_of_heap hb2]; rfl
  have f1 : w2.frozen? ⟨b, 1, none⟩ = false := Lib.frozen_of_heap hb2 1
  obtain ⟨g, cap, rfl⟩ : ∃ g cap, v' = .slice (some ⟨g, 0, none⟩) (l.length + 1) cap := by
    rcases hown'.2 with ⟨_, h0⟩ | ⟨g, cap, cur, hv, _⟩
    · omega
    · exact ⟨g, cap, hv⟩
  go_wp2
  go_ret
  refine ⟨rfl, ?_, ?_, ?_⟩
  · exact Or.inr (Lib.BuilderAt.put (T := 112) (e := 5) hB hb2 (bs' := strC l ++ [.int .u8 v0]) (by simpa [hll] using hown') (by decide))
  · exact ((hb1.alloc (by omega) _).grown hgrow (by simp; omega) (fun k hk => (hown.lt k hk).1)).setCell (p := ⟨b, 1, none⟩) hB _
  · exact (ht1.trans ((Tame.ofBelow ((Below.refl _ w1).alloc (Nat.le_refl _) _)).trans (Tame.grown hgrow (hown.alloc _)))).trans (Tame.setCell hb2 1 _)
set_option maxRecDepth 100000 in
set_option maxHeartbeats 2000000 in
theorem b_text (b : Nat) (l : List UInt8) (s : ByteArray) (w : World) (h : Bld w b l) (hlen : l.length ≤ 1000000) (hs : s.size ≤ 1000000) :
    Calls Tryz.prog 94 #[.pointer (some ⟨b, 0, none⟩), .string s] w fun e w' => e = .returned (.tuple #[.int .i64 s.size, .nilIface]) ∧ Bld w' b (l ++ s.data.toList) ∧ Below b w w' ∧ Tame w w' := by
  obtain ⟨i0, hi, hz0, hz1, hz2⟩ := info_parts info5
  have hcs : strC (l ++ s.data.toList) = strC l ++ Lib.strCells s := by simp [strC, Lib.strCells]
  rw [show Bld = fun w b l => Lib.IsBuilder 112 5 b b (strC l) w from rfl]
  simp only [hcs]
  have hll : (strC l).length = l.length := by simp [strC]
  clear hcs
  go_enter Tryz.func94, Tryz.ntmps94
  go_wp2_with fail
  refine (b_check b l _ h).mono ?_
  rintro e w1 ⟨rfl, h1, hb1, ht1⟩
  obtain ⟨hB, v, hbk, hown, hne⟩ := h1
  have c0 : w1.cell? ⟨b, 0, none⟩ = some (.pointer (some ⟨b, 0, none⟩)) := by rw [Lib.cell_of_heap hbk]; rfl
  have c1 : w1.cell? ⟨b, 1, none⟩ = some v := by rw [Lib.cell_of_heap hbk]; rfl
  have hlt : b < w1.heap.size := lt_of_row hbk
  go_wp2_with (at_builtin; refine Lib.wpList_append_own_string _ rfl _ _ 84 9 rfl b 5 i0 Tryz.underlying84 Tryz.underlying9 hi hz0 hz1 hz2 _ _ _ rfl hown s rfl ?c3 ?c4 ?c5 ?_)
  case c3 => unfold maxLen; omega
  case c4 => omega
  case c5 => omega
  intro v' w2 hown' hgrow _
  have hb2 : w2.heap[b]? = some (.cells #[.pointer (some ⟨b, 0, none⟩), v] 112 (0, 0)) := by
    rw [hgrow.block b hlt (fun e => hne e.symm)]
    exact hbk
  have d0 : w2.cell? ⟨b, 0, none⟩ = some (.pointer (some ⟨b, 0, none⟩)) := by rw [Lib.cell_of_heap hb2]; rfl
  have d1 : w2.cell? ⟨b, 1, none⟩ = some v := by rw [Lib.cell_of_heap hb2]; rfl
  have f1 : w2.frozen? ⟨b, 1, none⟩ = false := Lib.frozen_of_heap hb2 1
  obtain ⟨ao, n', cap, rfl⟩ : ∃ ao n' cap, v' = .slice ao n' cap := by
    rcases hown'.2 with ⟨hv, _⟩ | ⟨g, cap, cur, hv, _⟩
    · exact ⟨_, _, _, hv⟩
    · exact ⟨_, _, _, hv⟩
  go_wp2
  go_ret2
  refine ⟨rfl, ?_, ?_, ?_⟩
  · exact Or.inr (Lib.BuilderAt.put (T := 112) (e := 5) hB hb2 (bs' := strC l ++ Lib.strCells s) (by simpa [Lib.strCells_length, hll] using hown') (by decide))
  · exact (hb1.grown hgrow (by omega) (fun k hk => (hown.lt k hk).1)).setCell (p := ⟨b, 1, none⟩) hB _
  · exact (ht1.trans (Tame.grown hgrow hown)).trans (Tame.setCell hb2 1 _)
set_option maxRecDepth 100000 in
theorem cells5 : Tryz.prog.cellsOf 5 = 1 := by kernel_rfl
set_option maxRecDepth 100000 in
set_option maxHeartbeats 2000000 in
theorem b_string (b : Nat) (l : List UInt8) (w : World) (h : Bld w b l) (h0 : l ≠ []) :
    Calls Tryz.prog 65 #[.pointer (some ⟨b, 0, none⟩)] w fun e w' => e = .returned (.string ⟨l.toArray⟩) ∧ Below b w w' := by
  obtain ⟨p, hB, v, hbk, hown, hne⟩ : ∃ p, Lib.BuilderAt 112 5 b b p (strC l) w := by
    rcases h with h | h
    · exact ⟨_, h⟩
    · exact ⟨_, h⟩
  have hl0 : l.length ≠ 0 := by simpa using h0
  rw [show (strC l).length = l.length by simp [strC]] at hown
  obtain ⟨g, cap, cur, rfl, hbg, hg, hnc, hcm, hcs, htake⟩ : ∃ g cap cur, v = .slice (some ⟨g, 0, none⟩) l.length cap ∧ b ≤ g ∧ w.heap[g]? = some (.cells cur 5 (0, 0)) ∧ l.length ≤ cap ∧ cap ≤ maxLen ∧ cur.size = cap * 1 ∧ cur.toList.take (l.length * 1) = strC l := by
    rcases hown.2 with ⟨_, hz⟩ | ⟨g, cap, cur, hv, r⟩
    · exact absurd hz hl0
    · exact ⟨g, cap, cur, hv, r⟩
  have c1 : w.drew.cell? ⟨b, 1, none⟩ = some (.slice (some ⟨g, 0, none⟩) l.length cap) := by
    have : w.drew.heap[b]? = some (.cells #[p, .slice (some ⟨g, 0, none⟩) l.length cap] 112 (0, 0)) := hbk
    rw [Lib.cell_of_heap this]; rfl
  have hSD : (Builtin.unsafeSliceData_ #[84] 144 #[.slice (some ⟨g, 0, none⟩) l.length cap]).run Tryz.prog w.drew = .ok (.pointer (some ⟨g, 0, none⟩)) w.drew :=
    Lib.run_unsafeSliceData_row _ _ _ _ _ _ (by omega)
  have hUS : (Builtin.unsafeString_ #[144, 3] 9 #[.pointer (some ⟨g, 0, none⟩), .int .i64 l.length]).run Tryz.prog w.drew = .ok (.string ⟨l.toArray⟩) (w.drew.freeze ⟨g, 0, none⟩ l.length) := by
    refine Lib.run_unsafeString_row w.drew 144 3 9 5 Tryz.underlying144 cells5 g cur.size (by have hg' : w.drew.heap[g]? = some (.cells cur 5 (0, 0)) := hg; simp [World.shape?, hg']) l h0 (by omega) (by unfold maxLen at hcm; omega) ?_
    intro j x hx
    have := hown.cells (g := g) rfl j (.int .u8 x.toNat) (by simp [strC, hx])
    exact this
  go_enter Tryz.func65, Tryz.ntmps65
  go_wp2
  go_region
  all_goals (go_wp2; go_ret; exact ⟨rfl, Lib.below_freeze (Below.drew (Below.refl b w)) (p := ⟨g, 0, none⟩) hbg _⟩)
set_option maxRecDepth 100000 in
theorem bld_new (w : World) : Bld (w.alloc (.cells #[.pointer none, .slice none 0 0] 112)) w.heap.size [] := Lib.fresh_isBuilder 112 5 w
end Go.Proofs.YtfemippjaokcmaaGreatDoor.V
namespace Go.Proofs.YtfemippjaokcmaaGreatDoor.V
open Go.RowKit
def digitB (x : Int) : Bool := decide (48 ≤ x) && decide (x ≤ 57)
def letterB (x : Int) : Bool := decide (97 ≤ x) && decide (x ≤ 122) || decide (65 ≤ x) && decide (x ≤ 90)
set_option maxRecDepth 100000 in
set_option maxHeartbeats 400000 in
theorem digit_any (x : Int) (w : World) : Calls Tryz.prog 155 #[.int .u8 x] w fun e w' => e = .returned (.bool (digitB x)) ∧ w' = w := by
  obtain ⟨F, hF⟩ : ∃ F, digitB x = F := ⟨_, rfl⟩
  rw [hF]
  have HF : Hid (digitB x = F) := hF
  clear hF
  go_enter Tryz.func155, Tryz.ntmps155
  go_wp2
  all_goals
    go_ret
    refine ⟨?_, rfl⟩
    have := HF.out
    unfold digitB at this
    subst this
    simp_all
  all_goals (first | (intros; omega) | (constructor <;> intros <;> omega) | (rw [Bool.eq_iff_iff]; simp; try (intros; omega)))
set_option maxRecDepth 100000 in
set_option maxHeartbeats 400000 in
theorem letter_any (x : Int) (w : World) : Calls Tryz.prog 156 #[.int .u8 x] w fun e w' => e = .returned (.bool (letterB x)) ∧ w' = w := by
  obtain ⟨F, hF⟩ : ∃ F, letterB x = F := ⟨_, rfl⟩
  rw [hF]
  have HF : Hid (letterB x = F) := hF
  clear hF
  go_enter Tryz.func156, Tryz.ntmps156
  go_wp2
  all_goals
    go_ret
    refine ⟨?_, rfl⟩
    have := HF.out
    unfold letterB at this
    subst this
    simp_all
  all_goals (first | (intros; omega) | (constructor <;> intros <;> omega) | (rw [Bool.eq_iff_iff]; simp; try (intros; omega)))
def chr (s : ByteArray) (i : Nat) : Int := (byteAt s i : Int)
set_option maxRecDepth 100000 in
theorem chr_eq (s : ByteArray) (i : Nat) (h : i < s.size) : ((s[i].toNat : Nat) : Int) = chr s i := by
  unfold chr byteAt
  have hl : i < s.data.toList.length := by rw [← Lib.size_eq]; exact h
  rw [List.getD_eq_getElem?_getD, List.getElem?_eq_getElem hl]
  rfl
def okB (x : Int) : Bool := letterB x || digitB x || decide (x = 95)
def nameB (s : ByteArray) : Bool := decide (0 < s.size) && decide (s.size ≤ 16) && !digitB (chr s 0) && decide (∀ i, i < s.size → okB (chr s i) = true)
set_option maxRecDepth 100000 in
theorem empty_size (s : ByteArray) : s.toList.isEmpty = decide (s.size = 0) := by
  rw [Lib.toList_data]
  have := Lib.size_eq s
  cases h : s.data.toList with
  | nil => rw [h] at this; simp at this; simp [this]
  | cons a l => rw [h] at this; simp at this; simp [this]
set_option maxRecDepth 100000 in
theorem nameB_no {s : ByteArray} {i : Nat} (h : i < s.size) (h1 : letterB (chr s i) = false) (h2 : digitB (chr s i) = false) (h3 : (chr s i != 95) = true) : nameB s = false := by
  have : decide (∀ i, i < s.size → okB (chr s i) = true) = false := by
    rw [decide_eq_false_iff_not]
    intro hh
    have := hh i h
    unfold okB at this
    rw [h1, h2] at this
    simp_all
  unfold nameB
  rw [this, Bool.and_false]
set_option maxRecDepth 100000 in
theorem nameB_yes {s : ByteArray} (h0 : 0 < s.size) (h1 : s.size ≤ 16) (h2 : digitB (chr s 0) = false) (h3 : ∀ i, i < s.size → okB (chr s i) = true) : nameB s = true := by
  unfold nameB
  rw [h2, decide_eq_true h0, decide_eq_true h1, decide_eq_true h3]; rfl
set_option maxRecDepth 100000 in
theorem okB_step {s : ByteArray} {i : Nat} (h : ∀ j, j < i → okB (chr s j) = true) (h1 : okB (chr s i) = true) : ∀ j, j < i + 1 → okB (chr s j) = true := fun j hj => by
  rcases Nat.lt_or_ge j i with k | k
  · exact h j k
  · obtain rfl : j = i := by omega
    exact h1
set_option maxRecDepth 100000 in
set_option maxHeartbeats 1000000 in
theorem name_in (s : ByteArray) (h2 : 0 < s.size) (h1 : s.size ≤ 16) (w : World) : Calls Tryz.prog 130 #[.string s] w fun e w' => e = .returned (.bool (nameB s)) ∧ w' = w := by
  have h0 : s.toList.isEmpty = false := by rw [empty_size]; exact decide_eq_false (by omega)
  have h1' : (s.size : Int) ≤ 16 := by omega
  have h2' : 0 < (s.size : Int) := by omega
  obtain ⟨F, hF⟩ : ∃ F, nameB s = F := ⟨_, rfl⟩
  rw [hF]
  have HF : Hid (nameB s = F) := hF
  clear hF
  go_enter Tryz.func130, Tryz.ntmps130
  go_wp2_with fail
  refine (digit_any _ _).mono ?_
  rintro e w ⟨rfl, rfl⟩
  rw [chr_eq s 0 h2]
  cases hd : digitB (chr s 0) with
  | true =>
    go_wp2
    go_ret
    refine ⟨?_, rfl⟩
    have := HF.out
    unfold nameB at this
    rw [hd, Bool.not_true, Bool.and_false, Bool.false_and] at this
    rw [← this]
    rfl
  | false =>
    have HD : Hid (digitB (chr s 0) = false) := hd
    clear hd
    go_wp2_with fail
    go_loopw [18] (fun c18 wr => ∃ i : Nat, i ≤ s.size ∧ c18 = .int .i64 (i : Int) ∧ (∀ j, j < i → okB (chr s j) = true) ∧ wr = w) (fun c18 _ => s.size - (intOf c18).toNat)
    case atStart => exact ⟨0, by omega, rfl, fun j hj => by omega, rfl⟩
    case round =>
      obtain ⟨i, hi, rfl, hj, rfl⟩ := hrel
      have HJ : Hid (∀ j, j < i → okB (chr s j) = true) := hj
      clear hj
      go_wp2_with (first | (go_at_call 155; refine (digit_any _ _).mono ?_; rintro e w ⟨rfl, rfl⟩) | (go_at_call 156; refine (letter_any _ _).mono ?_; rintro e w ⟨rfl, rfl⟩))
      · have a1 : i < s.size := by assumption
        have a2 : letterB (chr s i) = false := by rw [← chr_eq s i a1]; assumption
        have a3 : digitB (chr s i) = false := by rw [← chr_eq s i a1]; assumption
        have a4 : (chr s i != 95) = true := by rw [← chr_eq s i a1]; assumption
        go_ret
        exact ⟨by rw [← HF.out, nameB_no a1 a2 a3 a4]; rfl, rfl⟩
      · have a1 : i < s.size := by assumption
        have a4 : (chr s i != 95) = false := by rw [← chr_eq s i a1]; assumption
        go_roundw
        case rel =>
          refine ⟨i + 1, by omega, by go_num, okB_step HJ.out ?_, by trivial⟩
          unfold okB
          rw [bne_eq_false_iff_eq] at a4
          rw [a4]; rfl
        case measure => simp [intOf]; omega
      · have a1 : i < s.size := by assumption
        have a3 : digitB (chr s i) = true := by rw [← chr_eq s i a1]; assumption
        go_roundw
        case rel =>
          refine ⟨i + 1, by omega, by go_num, okB_step HJ.out ?_, by trivial⟩
          unfold okB
          rw [a3]; simp
        case measure => simp [intOf]; omega
      · have a1 : i < s.size := by assumption
        have a2 : letterB (chr s i) = true := by rw [← chr_eq s i a1]; assumption
        go_roundw
        case rel =>
          refine ⟨i + 1, by omega, by go_num, okB_step HJ.out ?_, by trivial⟩
          unfold okB
          rw [a2]; simp
        case measure => simp [intOf]; omega
      · go_ret
        obtain rfl : i = s.size := by omega
        exact ⟨by rw [← HF.out, nameB_yes h2 h1 HD.out HJ.out]; rfl, rfl⟩
set_option maxRecDepth 100000 in
set_option maxHeartbeats 1000000 in
theorem name_any (s : ByteArray) (w : World) : Calls Tryz.prog 130 #[.string s] w fun e w' => e = .returned (.bool (nameB s)) ∧ w' = w := by
  by_cases h2 : 0 < s.size
  · by_cases h1 : s.size ≤ 16
    · exact name_in s h2 h1 w
    · have hN : nameB s = false := by unfold nameB; rw [decide_eq_false h1]; simp
      rw [hN]
      clear hN
      have h0 : s.toList.isEmpty = false := by rw [empty_size]; exact decide_eq_false (by omega)
      have h1' : ¬ (s.size : Int) ≤ 16 := by omega
      have h1'' : (16 : Int) < (s.size : Int) := by omega
      go_enter Tryz.func130, Tryz.ntmps130
      go_wp2
      go_ret
      exact ⟨rfl, rfl⟩
  · have hN : nameB s = false := by unfold nameB; rw [decide_eq_false h2]; simp
    rw [hN]
    clear hN
    have h0 : s.toList.isEmpty = true := by rw [empty_size]; exact decide_eq_true (by omega)
    go_enter Tryz.func130, Tryz.ntmps130
    go_wp2
    go_ret
    exact ⟨rfl, rfl⟩
end Go.Proofs.YtfemippjaokcmaaGreatDoor.V
namespace Go.Proofs.YtfemippjaokcmaaGreatDoor.V
open Go.RowKit
def okN (g : Nat → ByteArray) (i : Nat) : Bool := nameB (g i) && (decide (i = 0) || Op.bytesLess (g (i - 1)).toList (g i).toList)
def namedB (q m : Nat) (g : Nat → ByteArray) : Bool := decide (q = m ∧ ∀ i, i < q → okN g i = true)
set_option maxRecDepth 100000 in
theorem namedB_no {q m : Nat} {g : Nat → ByteArray} {i : Nat} (h : i < q) (hn : okN g i = false) : namedB q m g = false := decide_eq_false (fun hh => by have := hh.2 i h; rw [hn] at this; cases this)
set_option maxRecDepth 100000 in
theorem namedB_yes {q : Nat} {g : Nat → ByteArray} (h : ∀ i, i < q → okN g i = true) : namedB q q g = true := decide_eq_true ⟨rfl, h⟩
set_option maxRecDepth 100000 in
theorem okN_name {g : Nat → ByteArray} {i : Nat} (h : nameB (g i) = false) : okN g i = false := by unfold okN; rw [h]; rfl
set_option maxRecDepth 100000 in
theorem okN_less {g : Nat → ByteArray} {j : Nat} (h : (!Op.bytesLess (g j).toList (g (j + 1)).toList) = true) : okN g (j + 1) = false := by
  unfold okN
  rw [Nat.add_sub_cancel]
  simp at h
  simp [h]
set_option maxRecDepth 100000 in
theorem okN_rise {g : Nat → ByteArray} {j : Nat} (h0 : nameB (g (j + 1)) = true) (h : (!Op.bytesLess (g j).toList (g (j + 1)).toList) = false) : okN g (j + 1) = true := by
  unfold okN
  rw [Nat.add_sub_cancel, h0]
  simp at h
  simp [h]
set_option maxRecDepth 100000 in
theorem okN_zero {g : Nat → ByteArray} (h0 : nameB (g 0) = true) : okN g 0 = true := by
  unfold okN
  rw [h0]
  rfl
set_option maxRecDepth 100000 in
theorem okN_step {g : Nat → ByteArray} {i : Nat} (h : ∀ j, j < i → okN g j = true) (h1 : okN g i = true) : ∀ j, j < i + 1 → okN g j = true := fun j hj => by
  rcases Nat.lt_or_ge j i with k | k
  · exact h j k
  · obtain rfl : j = i := by omega
    exact h1
set_option maxRecDepth 100000 in
set_option maxHeartbeats 2000000 in
theorem named_some {B : Nat} {w : World} {k : Int} {b : Bool} {n : Int} {s : ByteArray} {m q : Nat} {g : Nat → ByteArray} {pa na : Option Addr} {pc nc : Nat} (hN : Names B w q g na nc) (hB : B ≤ w.heap.size) (hqm : q = m) (hq0 : 0 < q) :
    Calls Tryz.prog 92 #[.agg #[.int .i64 k, .bool b, .int .i64 n, .string s, .slice pa m pc, .slice na q nc]] w fun e w' => e = .returned (.bool (namedB q m g)) ∧ Below w.heap.size w w' := by
  subst hqm
  obtain ⟨h1, h2, h3, h4⟩ := hN
  obtain ⟨bb, o, rfl, hbB, hcell⟩ := h4 hq0
  have hmax : (q : Int) ≤ 9223372036854775807 := by unfold maxLen at h2; omega
  obtain ⟨F, hF⟩ : ∃ F, namedB q q g = F := ⟨_, rfl⟩
  rw [hF]
  have HF : Hid (namedB q q g = F) := hF
  clear hF
  go_enter Tryz.func92, Tryz.ntmps92
  go_wp2_with fail
  have hW1 := heap_alloc_new w (.cells #[.int .i64 k, .bool b, .int .i64 n, .string s, .slice pa q pc, .slice (some ⟨bb, o, none⟩) q nc] 25)
  have hW2 := (Below.refl w.heap.size w).alloc (Nat.le_refl _) (.cells #[.int .i64 k, .bool b, .int .i64 n, .string s, .slice pa q pc, .slice (some ⟨bb, o, none⟩) q nc] 25)
  obtain ⟨W, hW⟩ : ∃ W, w.alloc (.cells #[.int .i64 k, .bool b, .int .i64 n, .string s, .slice pa q pc, .slice (some ⟨bb, o, none⟩) q nc] 25) = W := ⟨_, rfl⟩
  rw [hW] at hW1 hW2 ⊢
  clear hW
  have hc5 := cell_of_row W _ 5 _ _ _ hW1
  replace hcell : ∀ i, i < q → W.cell? ⟨bb, o + i, none⟩ = some (.string (g i)) := fun i hi => cell_later (hcell i hi) (by show bb < _; omega) hW2
  go_loopw [15] (fun c15 wr => ∃ i : Nat, i ≤ q ∧ c15 = .int .i64 (i : Int) ∧ (∀ j, j < i → okN g j = true) ∧ wr = W) (fun c15 _ => q - (intOf c15).toNat)
  case atStart => exact ⟨0, by omega, rfl, fun j hj => by omega, rfl⟩
  case round =>
    obtain ⟨i, hi, rfl, hj, rfl⟩ := hrel
    have HJ : Hid (∀ j, j < i → okN g j = true) := hj
    clear hj
    by_cases hiq : i < q
    · have hc := hcell i hiq
      have hiq' : (i : Int) < (q : Int) := by omega
      by_cases hi0 : 0 < i
      · have hi0' : (0 : Int) < (i : Int) := by omega
        obtain ⟨j, rfl⟩ : ∃ j, i = j + 1 := ⟨i - 1, by omega⟩
        have hc2 := hcell j (by omega)
        go_wp2_with fail
        refine (name_any _ _).mono ?_
        rintro e W ⟨rfl, rfl⟩
        cases hn : nameB (g (j + 1)) with
        | true =>
          go_wp2
          · rename_i hl
            go_ret
            refine ⟨?_, hW2⟩
            rw [← HF.out, namedB_no hiq (okN_less hl)]
            rfl
          · rename_i hl
            go_roundw
            case rel => exact ⟨j + 1 + 1, by omega, by go_num, okN_step HJ.out (okN_rise hn hl), by trivial⟩
            case measure => simp [intOf]; omega
        | false =>
          go_wp2
          go_ret
          refine ⟨?_, hW2⟩
          rw [← HF.out, namedB_no hiq (okN_name hn)]
          rfl
      · obtain rfl : i = 0 := by omega
        clear hiq' hi0
        rw [Nat.add_zero] at hc
        go_wp2_with fail
        refine (name_any _ _).mono ?_
        rintro e W ⟨rfl, rfl⟩
        cases hn : nameB (g 0) with
        | true =>
          go_wp2
          go_roundw
          case rel => exact ⟨0 + 1, by omega, by go_num, okN_step HJ.out (okN_zero hn), by trivial⟩
          case measure => simp [intOf]; omega
        | false =>
          go_wp2
          go_ret
          refine ⟨?_, hW2⟩
          rw [← HF.out, namedB_no hiq (okN_name hn)]
          rfl
    · obtain rfl : i = q := by omega
      go_wp2
      go_ret
      refine ⟨?_, hW2⟩
      rw [← HF.out, namedB_yes HJ.out]
      rfl
set_option maxRecDepth 100000 in
set_option maxHeartbeats 1000000 in
theorem named_any {B : Nat} {w : World} {t : Tr} {x : Ad} (hN : Names B w t.q t.g x.na x.nc) (hB : B ≤ w.heap.size) :
    Calls Tryz.prog 92 #[t.val x] w fun e w' => e = .returned (.bool (namedB t.q t.m t.g)) ∧ Below w.heap.size w w' := by
  obtain ⟨pa, pc, na, nc⟩ := x
  replace hN : Names B w t.q t.g na nc := hN
  show Calls Tryz.prog 92 #[.agg #[.int .i64 t.k, .bool t.b, .int .i64 t.n, .string t.s, .slice pa t.m pc, .slice na t.q nc]] w fun e w' => e = .returned (.bool (namedB t.q t.m t.g)) ∧ Below w.heap.size w w'
  generalize t.k = k
  generalize t.b = b
  generalize t.n = n
  generalize t.s = s
  generalize t.m = m
  generalize t.q = q at hN ⊢
  generalize t.g = g at hN ⊢
  by_cases hqm : q = m
  · by_cases h0 : 0 < q
    · exact named_some hN hB hqm h0
    · obtain rfl : q = 0 := by omega
      subst hqm
      rw [namedB_yes (fun i hi => by omega)]
      go_enter Tryz.func92, Tryz.ntmps92
      go_wp2_with fail
      go_loopw [15] (fun c15 wr => c15 = .int .i64 0 ∧ Below w.heap.size w wr) (fun _ _ => 0)
      case atStart => exact ⟨rfl, (Below.refl _ _).alloc (Nat.le_refl _) _⟩
      case round =>
        obtain ⟨rfl, hb⟩ := hrel
        go_wp2
        go_ret
        exact ⟨rfl, hb⟩
  · have hF : namedB q m g = false := decide_eq_false (fun h => hqm h.1)
    rw [hF]
    have hqm' : ¬ (q : Int) = (m : Int) := by omega
    have hqm2 : ((q : Int) != (m : Int)) = true := by simp; omega
    go_enter Tryz.func92, Tryz.ntmps92
    go_wp2
    go_ret
    exact ⟨rfl, (Below.refl _ _).alloc (Nat.le_refl _) _⟩
end Go.Proofs.YtfemippjaokcmaaGreatDoor.V
namespace Go.Proofs.YtfemippjaokcmaaGreatDoor.V
open Go.RowKit
def formedB (k : Int) (b : Bool) (n : Int) (s : ByteArray) (m q : Nat) : Bool :=
  decide (0 ≤ k) && decide (k ≤ 6) && (decide (k = 1) || !b) && (decide (k = 2) || decide (n = 0)) && (decide (k = 3) || decide (k = 4) || s.toList.isEmpty) && (decide (k = 5) || decide (k = 6) || decide ((m : Int) = 0)) && (decide (k = 6) || decide ((q : Int) = 0))
def Tr.formed (t : Tr) : Bool := formedB t.k t.b t.n t.s t.m t.q
end Go.Proofs.YtfemippjaokcmaaGreatDoor.V
namespace Go.Proofs.YtfemippjaokcmaaGreatDoor.V
open Go.RowKit
def fe : Nat → (Nat → Int) → Int
  | 0, _ => 0
  | m + 1, F => if fe m F = 0 then F m else fe m F
def soundT : Tr → Int → Int
  | .no, _ => 0
  | .mk k b n s m f q g, d =>
    if 8 < d then 30 else if formedB k b n s m q = false then 6 else if 32 < m then 3 else if k = 6 ∧ namedB q m g = false then 31
    else fe m (fun i => soundT (f i) (d + 1))
end Go.Proofs.YtfemippjaokcmaaGreatDoor.V
namespace Go.Proofs.YtfemippjaokcmaaGreatDoor.V
open Go.RowKit
def cat : Nat → (Nat → List UInt8) → List UInt8
  | 0, _ => []
  | m + 1, F => cat m F ++ F m
def small : Tr → Prop
  | .no => True
  | .mk _ _ _ s m f _ _ => s.size ≤ 4096 ∧ ∀ i, i < m → small (f i)
def Aft (l x l' : List UInt8) : Prop := ((l ++ x).length ≤ 1024 → l' = l ++ x) ∧ (1024 < (l ++ x).length → 1024 < l'.length)
set_option maxRecDepth 100000 in
theorem Aft.all (l x : List UInt8) : Aft l x (l ++ x) := ⟨fun _ => rfl, fun h => h⟩
set_option maxRecDepth 100000 in
theorem Aft.exact {l x l' : List UInt8} (h : Aft l x l') (h2 : l'.length ≤ 1024) : l' = l ++ x := by
  rcases Nat.lt_or_ge 1024 (l ++ x).length with k | k
  · have := h.2 k; omega
  · exact h.1 k
set_option maxRecDepth 100000 in
theorem Aft.over {l x y l' : List UInt8} (h : Aft l x l') (h2 : 1024 < l'.length) : Aft l (x ++ y) l' := by
  have : 1024 < (l ++ x).length := by
    rcases Nat.lt_or_ge 1024 (l ++ x).length with k | k
    · exact k
    · have := h.1 k; rw [this] at h2; omega
  constructor
  · intro k; simp at k this; omega
  · intro _; exact h2
set_option maxRecDepth 100000 in
theorem Aft.on {l x y l' : List UInt8} (h : Aft (l ++ x) y l') : Aft l (x ++ y) l' := by
  unfold Aft at h ⊢
  rw [List.append_assoc] at h
  exact h
set_option maxRecDepth 100000 in
theorem cat_more {i m : Nat} (F : Nat → List UInt8) (h : i ≤ m) : ∃ y, cat m F = cat i F ++ y := by
  induction m with
  | zero => obtain rfl : i = 0 := by omega
            exact ⟨[], by simp⟩
  | succ m ih =>
    rcases Nat.lt_or_ge m i with k | k
    · obtain rfl : i = m + 1 := by omega
      exact ⟨[], by simp⟩
    · obtain ⟨y, hy⟩ := ih k
      exact ⟨y ++ F m, by show cat m F ++ F m = _; rw [hy, List.append_assoc]⟩
set_option maxRecDepth 100000 in
theorem fe_zero {F : Nat → Int} : ∀ {m : Nat}, fe m F = 0 → ∀ i, i < m → F i = 0
  | 0, _, i, hi => by omega
  | m + 1, h, i, hi => by
    have h' : (if fe m F = 0 then F m else fe m F) = 0 := h
    by_cases k : fe m F = 0
    · rw [if_pos k] at h'
      rcases Nat.lt_or_ge i m with q | q
      · exact fe_zero k i q
      · obtain rfl : i = m := by omega
        exact h'
    · rw [if_neg k] at h'
      exact absurd h' k
structure SoundP (k : Int) (b : Bool) (n : Int) (s : ByteArray) (m : Nat) (f : Nat → Tr) (q : Nat) (g : Nat → ByteArray) (d : Int) : Prop where
  d8 : d ≤ 8
  fm : formedB k b n s m q = true
  k0 : 0 ≤ k
  k6 : k ≤ 6
  m32 : m ≤ 32
  nm : k = 6 → q = m ∧ ∀ i, i < q → okN g i = true
  ch : ∀ i, i < m → soundT (f i) (d + 1) = 0
set_option maxRecDepth 100000 in
theorem soundP {k : Int} {b : Bool} {n : Int} {s : ByteArray} {m : Nat} {f : Nat → Tr} {q : Nat} {g : Nat → ByteArray} {d : Int} (h : soundT (.mk k b n s m f q g) d = 0) : SoundP k b n s m f q g d := by
  rw [soundT] at h
  by_cases h8 : 8 < d
  · rw [if_pos h8] at h; cases h
  rw [if_neg h8] at h
  by_cases hf : formedB k b n s m q = false
  · rw [if_pos hf] at h; cases h
  rw [if_neg hf] at h
  by_cases h32 : 32 < m
  · rw [if_pos h32] at h; cases h
  rw [if_neg h32] at h
  by_cases h6 : k = 6 ∧ namedB q m g = false
  · rw [if_pos h6] at h; cases h
  rw [if_neg h6] at h
  have hft : formedB k b n s m q = true := by simpa using hf
  have h2 := hft
  unfold formedB at h2
  simp only [Bool.and_eq_true, decide_eq_true_eq] at h2
  refine ⟨by omega, hft, h2.1.1.1.1.1.1, h2.1.1.1.1.1.2, by omega, fun hk => ?_, fe_zero h⟩
  have : namedB q m g = true := by
    cases hn : namedB q m g with
    | true => rfl
    | false => exact absurd ⟨hk, hn⟩ h6
  exact of_decide_eq_true this
set_option maxRecDepth 100000 in
theorem nameB_size {s : ByteArray} (h : nameB s = true) : s.size ≤ 16 := by
  unfold nameB at h
  simp only [Bool.and_eq_true, decide_eq_true_eq] at h
  exact h.1.1.2
set_option maxRecDepth 100000 in
theorem okN_size {g : Nat → ByteArray} {i : Nat} (h : okN g i = true) : (g i).size ≤ 16 := by
  unfold okN at h
  rw [Bool.and_eq_true] at h
  exact nameB_size h.1
set_option maxRecDepth 100000 in
theorem Bld.lt {w : World} {b : Nat} {l : List UInt8} (h : Bld w b l) : b < w.heap.size := by
  rcases h with h | h
  · exact h.lt
  · exact h.lt
set_option maxRecDepth 100000 in
theorem Bld.later {w w' : World} {b : Nat} {l : List UInt8} (h : Bld w b l) (hb : Below w.heap.size w w') : Bld w' b l := by
  have key : ∀ p, Lib.BuilderAt 112 5 b b p (strC l) w → Lib.BuilderAt 112 5 b b p (strC l) w' := by
    rintro p ⟨h1, v, h2, h3, h4⟩
    refine ⟨h1, v, (hb.block b (lt_of_row h2)).trans h2, ?_, h4⟩
    refine ⟨h3.1, ?_⟩
    rcases h3.2 with h5 | ⟨g, cap, cur, h5, h6, h7, h8⟩
    · exact Or.inl h5
    · exact Or.inr ⟨g, cap, cur, h5, h6, (hb.block g (lt_of_row h7)).trans h7, h8⟩
  rcases h with h | h
  · exact Or.inl (key _ h)
  · exact Or.inr (key _ h)
set_option maxRecDepth 100000 in
theorem kindByte {k : Int} (h0 : 0 ≤ k) (h6 : k ≤ 6) : IntKind.u8.wrap k = ((UInt8.ofNat k.toNat).toNat : Int) := by
  rw [toNat_ofNat_lt (by omega), IntKind.wrap_u8']; omega
end Go.Proofs.YtfemippjaokcmaaGreatDoor.V
