/- A strings.Builder of the call's own: what it holds (Bld), what its methods do (copyCheck, WriteByte, WriteString, Len, String), and what they leave alone (Tame). A sound value's bytes behind others (put, putParts): all of them, or more than may be. The parts of a sound value, behind others (putParts): of a list, and of a struct. A sound value's bytes behind others (put), of each kind; and of any sound value. A value's bytes, or why it has none (Encode, Check). -/
import Derived.Test.YtjmjlijmeahmfaaFst
import Derived.Lib.Builder
import Derived.Lib.AppendStr
import Derived.Lib.UnsafeStr
import Derived.Laws.Externs
import Derived.OwnWalk
import Derived.Test.YtjmjlijmeahmfaaSound
namespace Go.Proofs.Ytjmjlijmeahmfaa
open Go.RowKit
def strC (l : List UInt8) : List Value := l.map fun b => Value.int .u8 b.toNat
def Bld (w : World) (b : Nat) (l : List UInt8) : Prop := Lib.IsBuilder 66 5 b b (strC l) w
structure Tame (w w' : World) : Prop where
  size : w.heap.size ≤ w'.heap.size
  block : ∀ (k : Nat) (cs : Array Value) (t : TypeId) (fr : Nat × Nat), t ≠ 5 → t ≠ 66 → w.heap[k]? = some (Obj.cells cs t fr) → w'.heap[k]? = some (Obj.cells cs t fr)
theorem Tame.refl (w : World) : Tame w w := ⟨Nat.le_refl _, fun _ _ _ _ _ _ h => h⟩
theorem Tame.trans {u v w : World} (h : Tame u v) (k : Tame v w) : Tame u w := ⟨Nat.le_trans h.size k.size, fun i cs t fr h5 h66 hi => k.block i cs t fr h5 h66 (h.block i cs t fr h5 h66 hi)⟩
theorem Tame.ofBelow {u v : World} (h : Below u.heap.size u v) : Tame u v := ⟨h.size, fun k _ _ _ _ _ hk => (h.block k (lt_of_row hk)).trans hk⟩
theorem Tame.setCell {u : World} {b : Nat} {cs : Array Value} {fr : Nat × Nat} (h : u.heap[b]? = some (.cells cs 66 fr)) (j : Nat) (v : Value) : Tame u (u.setCell ⟨b, j, none⟩ v) :=
  ⟨by simp, fun k cs' t fr' _ h66 hk => by
    have : k ≠ b := fun e => by subst e; rw [h] at hk; injection hk with hk; injection hk with _ h2 _; exact h66 h2.symm
    rw [Below.heap_setCell _ _ _ _ this]; exact hk⟩
theorem Tame.grown {u v : World} {n : Nat} {B : Nat} {x : Value} {xs : List Value} (h : u.grownBy v x.ownBlock) (ho : u.ownsRow B 5 1 x n xs) : Tame u v := by
  refine ⟨h.size, fun k cs t fr h5 _ hk => ?_⟩
  rw [← hk]
  refine h.block k (lt_of_row hk) (fun e => ?_)
  rcases ho.2 with ⟨rfl, _⟩ | ⟨g, cap, cur, rfl, _, hg, _⟩
  · cases e
  · injection e with e
    have e' : k = g := e
    subst e'
    rw [hk] at hg
    injection hg with hg
    injection hg with _ h2 _
    exact h5 h2
set_option maxRecDepth 100000 in
set_option maxHeartbeats 1000000 in
theorem b_used (b : Nat) (w : World) (h0 : w.cell? ⟨b, 0, none⟩ = some (.pointer (some ⟨b, 0, none⟩))) :
    Calls Try.prog 90 #[.pointer (some ⟨b, 0, none⟩)] w fun e w' => e = .returned (.tuple #[]) ∧ w' = w := by
  obtain ⟨j, hj, _⟩ := Option.map_eq_some_iff.1 (show (Try.prog.info? 66).map (·.size) = some 2 by kernel_rfl)
  go_enter Try.func90, Try.ntmps90
  go_wp2
  rw [Lib.run_neq_ptr_same w _ Try.underlying63 hj]
  go_wp2
  go_end0
  exact ⟨rfl, rfl⟩
set_option maxRecDepth 100000 in
set_option maxHeartbeats 1000000 in
theorem b_fresh (b : Nat) (w : World) (h0 : w.cell? ⟨b, 0, none⟩ = some (.pointer none)) (hsh : w.shape? b = some (66, 2)) (hfz : w.frozen? ⟨b, 0, none⟩ = false) :
    Calls Try.prog 90 #[.pointer (some ⟨b, 0, none⟩)] w fun e w' => e = .returned (.tuple #[]) ∧ w' = w.setCell ⟨b, 0, none⟩ (.pointer (some ⟨b, 0, none⟩)) := by
  obtain ⟨j, hj, hjs⟩ := Option.map_eq_some_iff.1 (show (Try.prog.info? 66).map (·.size) = some 2 by kernel_rfl)
  go_enter Try.func90, Try.ntmps90
  go_wp2
  rw [Lib.run_to_unsafe w ⟨b, 0, none⟩ Try.underlying63 Try.underlying132 hj (by rw [hjs]; decide) hsh (Nat.zero_lt_succ 1)]
  simp only [Result.andThen]
  rw [Oper.upon_value]
  go_wp2
  rw [run_callFunc_extern Try.func101 (by kernel_rfl) (by kernel_rfl) (by kernel_rfl) (e := Extern.AbiNoEscape.same) (by kernel_rfl)]
  rw [Lib.run_noEscape]
  simp only [Result.andThen]
  rw [Oper.upon_value]
  go_wp2
  rw [Lib.run_from_unsafe w ⟨b, 0, none⟩ Try.underlying132 Try.underlying63 hj hsh (by kernel_rfl)]
  simp only [Result.andThen]
  rw [Oper.upon_value]
  go_wp2
  go_end0
  exact ⟨rfl, rfl⟩
theorem b_check (b : Nat) (l : List UInt8) (w : World) (h : Bld w b l) :
    Calls Try.prog 90 #[.pointer (some ⟨b, 0, none⟩)] w fun e w' => e = .returned (.tuple #[]) ∧ Lib.BuilderAt 66 5 b b (.pointer (some ⟨b, 0, none⟩)) (strC l) w' ∧ Below b w w' ∧ Tame w w' := by
  rcases h with h | h
  · refine (b_fresh b w h.cell0 h.shape h.frozen0).mono ?_
    rintro e w' ⟨rfl, rfl⟩
    have h2 := h.used (.pointer (some ⟨b, 0, none⟩))
    obtain ⟨_, v, hb, _⟩ := h
    exact ⟨rfl, h2, (Below.refl b w).setCell (p := ⟨b, 0, none⟩) (Nat.le_refl _) _, Tame.setCell hb 0 _⟩
  · refine (b_used b w h.cell0).mono ?_
    rintro e w' ⟨rfl, rfl⟩
    exact ⟨rfl, h, Below.refl b _, Tame.refl _⟩
theorem b_len (b : Nat) (l : List UInt8) (w : World) (h : Bld w b l) :
    Calls Try.prog 39 #[.pointer (some ⟨b, 0, none⟩)] w fun e w' => e = .returned (.int .i64 (l.length : Int)) ∧ w' = w := by
  obtain ⟨p, hB, v, hbk, hown, hne⟩ : ∃ p, Lib.BuilderAt 66 5 b b p (strC l) w := by
    rcases h with h | h
    · exact ⟨_, h⟩
    · exact ⟨_, h⟩
  rw [show (strC l).length = l.length by simp [strC]] at hown
  obtain ⟨ao, cap, rfl⟩ : ∃ ao cap, v = .slice ao l.length cap := by
    rcases hown.2 with ⟨hv, h0⟩ | ⟨g, cap, cur, hv, _⟩
    · exact ⟨none, 0, by rw [hv, h0]⟩
    · exact ⟨_, _, hv⟩
  have c1 : w.cell? ⟨b, 1, none⟩ = some (.slice ao l.length cap) := by rw [Lib.cell_of_heap hbk]; rfl
  go_enter Try.func39, Try.ntmps39
  go_wp2
  go_ret
  exact ⟨rfl, rfl⟩
theorem info5 : (Try.prog.info? 5).map (fun i => (i.zero, i.size, i.bytes)) = some (some (.int .u8 0), 1, 1) := by kernel_rfl
set_option maxRecDepth 100000 in
set_option maxHeartbeats 2000000 in
theorem b_byte (b : Nat) (l : List UInt8) (c : UInt8) (w : World) (h : Bld w b l) (hlen : l.length ≤ 1000000) (v0 : Int) (hv0 : v0 = (c.toNat : Int)) :
    Calls Try.prog 66 #[.pointer (some ⟨b, 0, none⟩), .int .u8 v0] w fun e w' => e = .returned .nilIface ∧ Bld w' b (l ++ [c]) ∧ Below b w w' ∧ Tame w w' := by
  obtain ⟨i0, hi, hz0, hz1, hz2⟩ := info_parts info5
  have hcs : strC (l ++ [c]) = strC l ++ [.int .u8 v0] := by rw [hv0]; simp [strC]
  rw [show Bld = fun w b l => Lib.IsBuilder 66 5 b b (strC l) w from rfl]
  simp only [hcs]
  have hll : (strC l).length = l.length := by simp [strC]
  clear hcs hv0
  go_enter Try.func66, Try.ntmps66
  go_wp2_with fail
  refine (b_check b l _ h).mono ?_
  rintro e w1 ⟨rfl, h1, hb1, ht1⟩
  obtain ⟨hB, v, hbk, hown, hne⟩ := h1
  have c0 : w1.cell? ⟨b, 0, none⟩ = some (.pointer (some ⟨b, 0, none⟩)) := by rw [Lib.cell_of_heap hbk]; rfl
  have c1 : w1.cell? ⟨b, 1, none⟩ = some v := by rw [Lib.cell_of_heap hbk]; rfl
  have hlt : b < w1.heap.size := lt_of_row hbk
  go_wp2_with (at_builtin; refine wpList_append_own _ rfl _ _ 64 rfl b 5 i0 (.int .u8 0) 1 1 Try.underlying64 hi hz0 hz1 hz2 rfl (by decide) _ _ _ rfl (hown.alloc _) ⟨w1.heap.size, 0, none⟩ 1 1 [.int .u8 v0] rfl rfl ?c1 ?c2 ?c3 ?c4 ?c5 ?_)
  case c1 =>
    intro j u hj
    match j, hj with
    | 0, hj => simp at hj; subst hj; simp [Addr.add]
  case c2 => intro u hu; simp at hu; subst hu; rfl
  case c3 => unfold maxLen; omega
  case c4 => omega
  case c5 => simp; omega
  intro v' w2 hown' hgrow _
  have hb2 : w2.heap[b]? = some (.cells #[.pointer (some ⟨b, 0, none⟩), v] 66 (0, 0)) := by
    rw [hgrow.block b (by simp; omega) (fun e => hne e.symm), Lib.alloc_old w1 _ b hlt]
    exact hbk
  have d0 : w2.cell? ⟨b, 0, none⟩ = some (.pointer (some ⟨b, 0, none⟩)) := by rw [Lib.cell_of_heap hb2]; rfl
  have d1 : w2.cell? ⟨b, 1, none⟩ = some v := by rw [Lib.cell_of_heap hb2]; rfl
  have f1 : w2.frozen? ⟨b, 1, none⟩ = false := Lib.frozen_of_heap hb2 1
  obtain ⟨g, cap, rfl⟩ : ∃ g cap, v' = .slice (some ⟨g, 0, none⟩) (l.length + 1) cap := by
    rcases hown'.2 with ⟨_, h0⟩ | ⟨g, cap, cur, hv, _⟩
    · omega
    · exact ⟨g, cap, hv⟩
  go_wp2
  go_ret
  refine ⟨rfl, ?_, ?_, ?_⟩
  · exact Or.inr (Lib.BuilderAt.put (T := 66) (e := 5) hB hb2 (bs' := strC l ++ [.int .u8 v0]) (by simpa [hll] using hown') (by decide))
  · exact ((hb1.alloc (by omega) _).grown hgrow (by simp; omega) (fun k hk => (hown.lt k hk).1)).setCell (p := ⟨b, 1, none⟩) hB _
  · exact (ht1.trans ((Tame.ofBelow ((Below.refl _ w1).alloc (Nat.le_refl _) _)).trans (Tame.grown hgrow (hown.alloc _)))).trans (Tame.setCell hb2 1 _)
set_option maxRecDepth 100000 in
set_option maxHeartbeats 2000000 in
theorem b_text (b : Nat) (l : List UInt8) (s : ByteArray) (w : World) (h : Bld w b l) (hlen : l.length ≤ 1000000) (hs : s.size ≤ 1000000) :
    Calls Try.prog 67 #[.pointer (some ⟨b, 0, none⟩), .string s] w fun e w' => e = .returned (.tuple #[.int .i64 s.size, .nilIface]) ∧ Bld w' b (l ++ s.data.toList) ∧ Below b w w' ∧ Tame w w' := by
  obtain ⟨i0, hi, hz0, hz1, hz2⟩ := info_parts info5
  have hcs : strC (l ++ s.data.toList) = strC l ++ Lib.strCells s := by simp [strC, Lib.strCells]
  rw [show Bld = fun w b l => Lib.IsBuilder 66 5 b b (strC l) w from rfl]
  simp only [hcs]
  have hll : (strC l).length = l.length := by simp [strC]
  clear hcs
  go_enter Try.func67, Try.ntmps67
  go_wp2_with fail
  refine (b_check b l _ h).mono ?_
  rintro e w1 ⟨rfl, h1, hb1, ht1⟩
  obtain ⟨hB, v, hbk, hown, hne⟩ := h1
  have c0 : w1.cell? ⟨b, 0, none⟩ = some (.pointer (some ⟨b, 0, none⟩)) := by rw [Lib.cell_of_heap hbk]; rfl
  have c1 : w1.cell? ⟨b, 1, none⟩ = some v := by rw [Lib.cell_of_heap hbk]; rfl
  have hlt : b < w1.heap.size := lt_of_row hbk
  go_wp2_with (at_builtin; refine Lib.wpList_append_own_string _ rfl _ _ 64 9 rfl b 5 i0 Try.underlying64 Try.underlying9 hi hz0 hz1 hz2 _ _ _ rfl hown s rfl ?c3 ?c4 ?c5 ?_)
  case c3 => unfold maxLen; omega
  case c4 => omega
  case c5 => omega
  intro v' w2 hown' hgrow _
  have hb2 : w2.heap[b]? = some (.cells #[.pointer (some ⟨b, 0, none⟩), v] 66 (0, 0)) := by
    rw [hgrow.block b hlt (fun e => hne e.symm)]
    exact hbk
  have d0 : w2.cell? ⟨b, 0, none⟩ = some (.pointer (some ⟨b, 0, none⟩)) := by rw [Lib.cell_of_heap hb2]; rfl
  have d1 : w2.cell? ⟨b, 1, none⟩ = some v := by rw [Lib.cell_of_heap hb2]; rfl
  have f1 : w2.frozen? ⟨b, 1, none⟩ = false := Lib.frozen_of_heap hb2 1
  obtain ⟨ao, n', cap, rfl⟩ : ∃ ao n' cap, v' = .slice ao n' cap := by
    rcases hown'.2 with ⟨hv, _⟩ | ⟨g, cap, cur, hv, _⟩
    · exact ⟨_, _, _, hv⟩
    · exact ⟨_, _, _, hv⟩
  go_wp2
  go_ret2
  refine ⟨rfl, ?_, ?_, ?_⟩
  · exact Or.inr (Lib.BuilderAt.put (T := 66) (e := 5) hB hb2 (bs' := strC l ++ Lib.strCells s) (by simpa [Lib.strCells_length, hll] using hown') (by decide))
  · exact (hb1.grown hgrow (by omega) (fun k hk => (hown.lt k hk).1)).setCell (p := ⟨b, 1, none⟩) hB _
  · exact (ht1.trans (Tame.grown hgrow hown)).trans (Tame.setCell hb2 1 _)
theorem cells5 : Try.prog.cellsOf 5 = 1 := by kernel_rfl
set_option maxRecDepth 100000 in
set_option maxHeartbeats 2000000 in
theorem b_string (b : Nat) (l : List UInt8) (w : World) (h : Bld w b l) (h0 : l ≠ []) :
    Calls Try.prog 40 #[.pointer (some ⟨b, 0, none⟩)] w fun e w' => e = .returned (.string ⟨l.toArray⟩) ∧ Below b w w' := by
  obtain ⟨p, hB, v, hbk, hown, hne⟩ : ∃ p, Lib.BuilderAt 66 5 b b p (strC l) w := by
    rcases h with h | h
    · exact ⟨_, h⟩
    · exact ⟨_, h⟩
  have hl0 : l.length ≠ 0 := by simpa using h0
  rw [show (strC l).length = l.length by simp [strC]] at hown
  obtain ⟨g, cap, cur, rfl, hbg, hg, hnc, hcm, hcs, htake⟩ : ∃ g cap cur, v = .slice (some ⟨g, 0, none⟩) l.length cap ∧ b ≤ g ∧ w.heap[g]? = some (.cells cur 5 (0, 0)) ∧ l.length ≤ cap ∧ cap ≤ maxLen ∧ cur.size = cap * 1 ∧ cur.toList.take (l.length * 1) = strC l := by
    rcases hown.2 with ⟨_, hz⟩ | ⟨g, cap, cur, hv, r⟩
    · exact absurd hz hl0
    · exact ⟨g, cap, cur, hv, r⟩
  have c1 : w.drew.cell? ⟨b, 1, none⟩ = some (.slice (some ⟨g, 0, none⟩) l.length cap) := by
    have : w.drew.heap[b]? = some (.cells #[p, .slice (some ⟨g, 0, none⟩) l.length cap] 66 (0, 0)) := hbk
    rw [Lib.cell_of_heap this]; rfl
  have hSD : (Builtin.unsafeSliceData_ #[64] 99 #[.slice (some ⟨g, 0, none⟩) l.length cap]).run Try.prog w.drew = .ok (.pointer (some ⟨g, 0, none⟩)) w.drew :=
    Lib.run_unsafeSliceData_row _ _ _ _ _ _ (by omega)
  have hUS : (Builtin.unsafeString_ #[99, 3] 9 #[.pointer (some ⟨g, 0, none⟩), .int .i64 l.length]).run Try.prog w.drew = .ok (.string ⟨l.toArray⟩) (w.drew.freeze ⟨g, 0, none⟩ l.length) := by
    refine Lib.run_unsafeString_row w.drew 99 3 9 5 Try.underlying99 cells5 g cur.size (by have hg' : w.drew.heap[g]? = some (.cells cur 5 (0, 0)) := hg; simp [World.shape?, hg']) l h0 (by omega) (by unfold maxLen at hcm; omega) ?_
    intro j x hx
    have := hown.cells (g := g) rfl j (.int .u8 x.toNat) (by simp [strC, hx])
    exact this
  go_enter Try.func40, Try.ntmps40
  go_wp2
  go_region
  all_goals (go_wp2; go_ret; exact ⟨rfl, Lib.below_freeze (Below.drew (Below.refl b w)) (p := ⟨g, 0, none⟩) hbg _⟩)
theorem bld_new (w : World) : Bld (w.alloc (.cells #[.pointer none, .slice none 0 0] 66)) w.heap.size [] := Lib.fresh_isBuilder 66 5 w
end Go.Proofs.Ytjmjlijmeahmfaa
namespace Go.Proofs.Ytjmjlijmeahmfaa
open Go.RowKit
def textL (s : ByteArray) : List UInt8 := put s.size ++ s.data.toList
def cat : Nat → (Nat → List UInt8) → List UInt8
  | 0, _ => []
  | m + 1, F => cat m F ++ F m
def bytesT : Tr → List UInt8
  | .no => [0]
  | .mk k b n s m f _ g =>
    UInt8.ofNat k.toNat :: (if k = 1 then [if b then 1 else 0] else if k = 2 then put (zig n) else if k = 3 ∨ k = 4 then textL s
      else if k = 5 ∨ k = 6 then put m ++ cat m (fun i => (if k = 6 then textL (g i) else []) ++ bytesT (f i)) else [])
def small : Tr → Prop
  | .no => True
  | .mk _ _ _ s m f _ _ => s.size ≤ 4096 ∧ ∀ i, i < m → small (f i)
def Aft (l x l' : List UInt8) : Prop := ((l ++ x).length ≤ 1024 → l' = l ++ x) ∧ (1024 < (l ++ x).length → 1024 < l'.length)
theorem Aft.all (l x : List UInt8) : Aft l x (l ++ x) := ⟨fun _ => rfl, fun h => h⟩
theorem Aft.exact {l x l' : List UInt8} (h : Aft l x l') (h2 : l'.length ≤ 1024) : l' = l ++ x := by
  rcases Nat.lt_or_ge 1024 (l ++ x).length with k | k
  · have := h.2 k; omega
  · exact h.1 k
theorem Aft.over {l x y l' : List UInt8} (h : Aft l x l') (h2 : 1024 < l'.length) : Aft l (x ++ y) l' := by
  have : 1024 < (l ++ x).length := by
    rcases Nat.lt_or_ge 1024 (l ++ x).length with k | k
    · exact k
    · have := h.1 k; rw [this] at h2; omega
  constructor
  · intro k; simp at k this; omega
  · intro _; exact h2
theorem Aft.on {l x y l' : List UInt8} (h : Aft (l ++ x) y l') : Aft l (x ++ y) l' := by
  unfold Aft at h ⊢
  rw [List.append_assoc] at h
  exact h
theorem cat_more {i m : Nat} (F : Nat → List UInt8) (h : i ≤ m) : ∃ y, cat m F = cat i F ++ y := by
  induction m with
  | zero => obtain rfl : i = 0 := by omega
            exact ⟨[], by simp⟩
  | succ m ih =>
    rcases Nat.lt_or_ge m i with k | k
    · obtain rfl : i = m + 1 := by omega
      exact ⟨[], by simp⟩
    · obtain ⟨y, hy⟩ := ih k
      exact ⟨y ++ F m, by show cat m F ++ F m = _; rw [hy, List.append_assoc]⟩
theorem fe_zero {F : Nat → Int} : ∀ {m : Nat}, fe m F = 0 → ∀ i, i < m → F i = 0
  | 0, _, i, hi => by omega
  | m + 1, h, i, hi => by
    have h' : (if fe m F = 0 then F m else fe m F) = 0 := h
    by_cases k : fe m F = 0
    · rw [if_pos k] at h'
      rcases Nat.lt_or_ge i m with q | q
      · exact fe_zero k i q
      · obtain rfl : i = m := by omega
        exact h'
    · rw [if_neg k] at h'
      exact absurd h' k
structure SoundP (k : Int) (b : Bool) (n : Int) (s : ByteArray) (m : Nat) (f : Nat → Tr) (q : Nat) (g : Nat → ByteArray) (d : Int) : Prop where
  d8 : d ≤ 8
  fm : formedB k b n s m q = true
  k0 : 0 ≤ k
  k6 : k ≤ 6
  m32 : m ≤ 32
  nm : k = 6 → q = m ∧ ∀ i, i < q → okN g i = true
  ch : ∀ i, i < m → soundT (f i) (d + 1) = 0
theorem soundP {k : Int} {b : Bool} {n : Int} {s : ByteArray} {m : Nat} {f : Nat → Tr} {q : Nat} {g : Nat → ByteArray} {d : Int} (h : soundT (.mk k b n s m f q g) d = 0) : SoundP k b n s m f q g d := by
  rw [soundT] at h
  by_cases h8 : 8 < d
  · rw [if_pos h8] at h; cases h
  rw [if_neg h8] at h
  by_cases hf : formedB k b n s m q = false
  · rw [if_pos hf] at h; cases h
  rw [if_neg hf] at h
  by_cases h32 : 32 < m
  · rw [if_pos h32] at h; cases h
  rw [if_neg h32] at h
  by_cases h6 : k = 6 ∧ namedB q m g = false
  · rw [if_pos h6] at h; cases h
  rw [if_neg h6] at h
  have hft : formedB k b n s m q = true := by simpa using hf
  have h2 := hft
  unfold formedB at h2
  simp only [Bool.and_eq_true, decide_eq_true_eq] at h2
  refine ⟨by omega, hft, h2.1.1.1.1.1.1, h2.1.1.1.1.1.2, by omega, fun hk => ?_, fe_zero h⟩
  have : namedB q m g = true := by
    cases hn : namedB q m g with
    | true => rfl
    | false => exact absurd ⟨hk, hn⟩ h6
  exact of_decide_eq_true this
theorem nameB_size {s : ByteArray} (h : nameB s = true) : s.size ≤ 16 := by
  unfold nameB at h
  simp only [Bool.and_eq_true, decide_eq_true_eq] at h
  exact h.1.1.2
theorem okN_size {g : Nat → ByteArray} {i : Nat} (h : okN g i = true) : (g i).size ≤ 16 := by
  unfold okN at h
  rw [Bool.and_eq_true] at h
  exact nameB_size h.1
theorem textB_list (s : ByteArray) : (textB s).data.toList = textL s := by
  unfold textB textL
  rw [ByteArray.data_append, Array.toList_append]
theorem textL_len (s : ByteArray) (h : s.size ≤ 4096) : (textL s).length ≤ s.size + 10 := by
  unfold textL
  have := put_len10 (n := s.size) (by omega)
  rw [List.length_append, ← Lib.size_eq]
  omega
theorem textB_size (s : ByteArray) (h : s.size ≤ 4096) : (textB s).size ≤ s.size + 10 := by
  have := textL_len s h
  rw [← textB_list, ← Lib.size_eq] at this
  exact this
def PutC (t : Tr) (_ : Int) : Prop := ∀ (B : Nat) (w : World) (x : Ad) (b : Nat) (l : List UInt8), Lies B w t x → B ≤ b → Bld w b l → l.length ≤ 1100 →
    Calls Try.prog 38 #[.pointer (some ⟨b, 0, none⟩), t.val x] w fun e w' => e = .returned (.tuple #[]) ∧ (∃ l', Bld w' b l' ∧ Aft l (bytesT t) l' ∧ l'.length ≤ 6100) ∧ Below b w w' ∧ Tame w w'
theorem Bld.lt {w : World} {b : Nat} {l : List UInt8} (h : Bld w b l) : b < w.heap.size := by
  rcases h with h | h
  · exact h.lt
  · exact h.lt
theorem Bld.later {w w' : World} {b : Nat} {l : List UInt8} (h : Bld w b l) (hb : Below w.heap.size w w') : Bld w' b l := by
  have key : ∀ p, Lib.BuilderAt 66 5 b b p (strC l) w → Lib.BuilderAt 66 5 b b p (strC l) w' := by
    rintro p ⟨h1, v, h2, h3, h4⟩
    refine ⟨h1, v, (hb.block b (lt_of_row h2)).trans h2, ?_, h4⟩
    refine ⟨h3.1, ?_⟩
    rcases h3.2 with h5 | ⟨g, cap, cur, h5, h6, h7, h8⟩
    · exact Or.inl h5
    · exact Or.inr ⟨g, cap, cur, h5, h6, (hb.block g (lt_of_row h7)).trans h7, h8⟩
  rcases h with h | h
  · exact Or.inl (key _ h)
  · exact Or.inr (key _ h)
theorem kindByte {k : Int} (h0 : 0 ≤ k) (h6 : k ≤ 6) : IntKind.u8.wrap k = ((UInt8.ofNat k.toNat).toNat : Int) := by
  rw [toNat_ofNat_lt (by omega), IntKind.wrap_u8']; omega
end Go.Proofs.Ytjmjlijmeahmfaa
namespace Go.Proofs.Ytjmjlijmeahmfaa
open Go.RowKit
theorem fresh_row (w : World) (cs : Array Value) (t : TypeId) : (w.alloc (.cells cs t)).heap[w.heap.size]? = some (.cells cs t (0, 0)) := heap_alloc_new _ _
set_option maxRecDepth 100000 in
set_option maxHeartbeats 4000000 in
theorem parts_5 {B : Nat} {w : World} {bo : Bool} {n : Int} {s : ByteArray} {m : Nat} {f : Nat → Tr} {q : Nat} {g : Nat → ByteArray} {x : Ad} {d : Int} {b : Nat} {l : List UInt8} (hS : SoundP 5 bo n s m f q g d)
    (ih : ∀ i, i < m → PutC (f i) (d + 1)) (hL : Lies B w (.mk 5 bo n s m f q g) x) (hB : B ≤ b) (hbl : Bld w b l) (hl : l.length ≤ 1101) :
    Calls Try.prog 70 #[.pointer (some ⟨b, 0, none⟩), (Tr.mk 5 bo n s m f q g).val x] w fun e w' => e = .returned (.tuple #[]) ∧ (∃ l', Bld w' b l' ∧ Aft l (put m ++ cat m (fun i => (if (5 : Int) = 6 then textL (g i) else []) ++ bytesT (f i))) l' ∧ l'.length ≤ 6100) ∧ Below b w w' ∧ Tame w w' := by
  obtain ⟨A, hp, hr⟩ := hL.part
  have hN := hL.lims.2.2.2.2
  replace hN : Names B w q g x.na x.nc := hN
  obtain ⟨pa, pc, na, nc⟩ := x
  have hV : (Tr.mk 5 bo n s m f q g).val ⟨pa, pc, na, nc⟩ = .agg #[.int .i64 5, .bool bo, .int .i64 n, .string s, .slice pa m pc, .slice na q nc] := rfl
  rw [hV]
  clear hV
  have h32 := hS.m32
  obtain ⟨F, hF⟩ : ∃ F : Nat → List UInt8, (fun i => (if (5 : Int) = 6 then textL (g i) else []) ++ bytesT (f i)) = F := ⟨_, rfl⟩
  rw [hF]
  have HF : Hid (∀ i, F i = (if (5 : Int) = 6 then textL (g i) else []) ++ bytesT (f i)) := fun i => by rw [← hF]
  clear hF
  have HI : Hid (∀ i, i < m → PutC (f i) (d + 1)) := ih
  have HP : Hid (0 < m → ∃ b o, pa = some ⟨b, o, none⟩ ∧ b < B ∧ ∀ i, i < m → At6 w b (o + i * 6) (f i) (A i)) := hp
  have HR : Hid (∀ i, i < m → Lies B w (f i) (A i)) := hr
  have HN : Hid (Names B w q g na nc) := hN
  clear ih hp hr hN
  have hpu := fun W => put_any m (by omega) W
  have hpl := put_len10 (n := m) (by omega)
  obtain ⟨u, hu⟩ : ∃ u : ByteArray, (⟨(put m).toArray⟩ : ByteArray) = u := ⟨_, rfl⟩
  have HU : Hid (u.data.toList = put m) := by show _ = _; rw [← hu]
  have hus : u.size ≤ 10 := by rw [Lib.size_eq, HU.out]; omega
  rw [hu] at hpu
  clear hu
  have hw : IntKind.u64.wrap (m : Int) = (m : Int) := by rw [IntKind.wrap_u64]; omega
  have hb0 := hbl.lt
  go_enter Try.func70, Try.ntmps70
  go_wp2_with fail
  refine (hpu _).mono ?_
  rintro e w1 ⟨rfl, hb1⟩
  have hrow := (hb1.block w.heap.size (by simp)).trans (fresh_row w #[.int .i64 5, .bool bo, .int .i64 n, .string s, .slice pa m pc, .slice na q nc] 25)
  have hbel : Below w.heap.size w w1 := ((Below.refl _ w).alloc (Nat.le_refl _) _).trans (hb1.mono (by simp))
  go_wp2_with fail
  refine (b_text b l u _ (hbl.later hbel) (by omega) (by omega)).mono ?_
  rintro e w2 ⟨rfl, hbl2, hbb2, ht2⟩
  replace hrow := ht2.block _ _ _ _ (by decide) (by decide) hrow
  replace hbb2 : Below b w w2 := (hbel.mono (by omega)).trans hbb2
  replace ht2 : Tame w w2 := (Tame.ofBelow hbel).trans ht2
  rw [HU.out] at hbl2
  clear hb1 hbel
  have c4 := cell_of_row w2 _ 4 _ _ _ hrow
  go_wp2_with fail
  go_loopw [16] (fun c16 wr => ∃ (i : Nat) (li : List UInt8), i ≤ m ∧ c16 = .int .i64 (i : Int) ∧ Bld wr b li ∧ Aft l (put m ++ cat i F) li ∧ li.length ≤ 6100 ∧ wr.heap[w.heap.size]? = some (.cells #[.int .i64 5, .bool bo, .int .i64 n, .string s, .slice pa m pc, .slice na q nc] 25 (0, 0)) ∧ Below b w wr ∧ Tame w wr) (fun c16 _ => m - (intOf c16).toNat)
  case atStart => exact ⟨0, l ++ put m, by omega, rfl, hbl2, by rw [show cat 0 F = [] from rfl, List.append_nil]; exact Aft.all _ _, by simp; omega, hrow, hbb2, ht2⟩
  case round =>
    clear c4 hrow hbl2 hbb2 ht2
    obtain ⟨i, li, hi, rfl, hbli, haf, hli, hrow, hbw, htw⟩ := hrel
    have HA : Hid (Aft l (put m ++ cat i F) li) := haf
    clear haf
    by_cases him : i < m
    · have him' : (i : Int) < (m : Int) := by omega
      obtain ⟨pb, po, rfl, hpb, hat⟩ := HP.out (by omega)
      have h6a := (hat i him).later hpb (hbw.mono hB)
      have d0 := h6a.c0
      have d1 := h6a.c1
      have d2 := h6a.c2
      have d3 := h6a.c3
      have d4 := h6a.c4
      have d5 := h6a.c5
      clear hat
      have hLi := (HR.out i him).later (hbw.mono hB)
      have hsz := htw.size
      go_wp2_with fail
      have hbx : Below wr.heap.size wr (wr.alloc (.cells #[.int .i64 (f i).k, .bool (f i).b, .int .i64 (f i).n, .string (f i).s, .slice (A i).pa (f i).m (A i).pc, .slice (A i).na (f i).q (A i).nc] 25)) := (Below.refl _ wr).alloc (Nat.le_refl _) _
      have hpart := fresh_row wr #[.int .i64 (f i).k, .bool (f i).b, .int .i64 (f i).n, .string (f i).s, .slice (A i).pa (f i).m (A i).pc, .slice (A i).na (f i).q (A i).nc] 25
      obtain ⟨w3, hw3⟩ : ∃ w3, wr.alloc (.cells #[.int .i64 (f i).k, .bool (f i).b, .int .i64 (f i).n, .string (f i).s, .slice (A i).pa (f i).m (A i).pc, .slice (A i).na (f i).q (A i).nc] 25) = w3 := ⟨_, rfl⟩
      rw [hw3] at hbx hpart ⊢
      clear hw3
      have hrow3 := (hbx.block _ (lt_of_row hrow)).trans hrow
      have hbw3 : Below b w w3 := hbw.trans (hbx.mono (by omega))
      have htw3 : Tame w w3 := htw.trans (Tame.ofBelow hbx)
      refine (b_len b li _ (hbli.later hbx)).mono ?_
      rintro e w3 ⟨rfl, rfl⟩
      by_cases hbig : 1024 < li.length
      · have hbig' : (1024 : Int) < (li.length : Int) := by omega
        go_wp2
        refine bodyPost_ret (v := .tuple #[]) (by simp [results, Try.results70, go_sem]) rfl ?_
        obtain ⟨y, hy⟩ := cat_more F (show i ≤ m by omega)
        refine ⟨rfl, ⟨li, hbli.later hbx, ?_, hli⟩, hbw3, htw3⟩
        rw [hy, ← List.append_assoc]
        exact HA.out.over hbig
      · have hbig' : (li.length : Int) ≤ 1024 := by omega
        have HX : Hid (li = l ++ (put m ++ cat i F)) := HA.out.exact (by omega)
        have e0 := cell_of_row w3 _ 0 _ _ _ hrow3
        have e5 := cell_of_row w3 _ 5 _ _ _ hrow3
        have p0 := cell_of_row w3 _ 0 _ _ _ hpart
        have p1 := cell_of_row w3 _ 1 _ _ _ hpart
        have p2 := cell_of_row w3 _ 2 _ _ _ hpart
        have p3 := cell_of_row w3 _ 3 _ _ _ hpart
        have p4 := cell_of_row w3 _ 4 _ _ _ hpart
        have p5 := cell_of_row w3 _ 5 _ _ _ hpart
        have hbl5 := hbli.later hbx
        have hLi5 := hLi.later (hbx.mono (by omega))
        have hln : li.length ≤ 1100 := by omega
        have hrow5 := hrow3
        have hbw5 := hbw3
        have htw5 := htw3
        go_wp2_with fail
        refine (HI.out i him B _ (A i) b li hLi5 hB hbl5 hln).mono ?_
        rintro e w6 ⟨rfl, ⟨l6, hbl6, haf6, hl6⟩, hbb6, ht6⟩
        have hrow6 := ht6.block _ _ _ _ (by decide) (by decide) hrow5
        go_wp2
        go_roundw
        case rel =>
          refine ⟨i + 1, l6, by omega, by go_num, hbl6, ?_, hl6, hrow6, hbw5.trans hbb6, htw5.trans ht6⟩
          show Aft l (put m ++ (cat i F ++ F i)) l6
          rw [HX.out] at haf6
          rw [HF.out i, ← List.append_assoc]
          rw [if_neg (by decide), List.nil_append]
          exact haf6.on
        case measure => simp [intOf]; omega
    · obtain rfl : i = m := by omega
      go_wp2
      go_end0
      exact ⟨rfl, ⟨li, hbli, HA.out, hli⟩, hbw, htw⟩
set_option maxRecDepth 100000 in
set_option maxHeartbeats 4000000 in
theorem parts_6 {B : Nat} {w : World} {bo : Bool} {n : Int} {s : ByteArray} {m : Nat} {f : Nat → Tr} {q : Nat} {g : Nat → ByteArray} {x : Ad} {d : Int} {b : Nat} {l : List UInt8} (hS : SoundP 6 bo n s m f q g d)
    (ih : ∀ i, i < m → PutC (f i) (d + 1)) (hL : Lies B w (.mk 6 bo n s m f q g) x) (hB : B ≤ b) (hbl : Bld w b l) (hl : l.length ≤ 1101) :
    Calls Try.prog 70 #[.pointer (some ⟨b, 0, none⟩), (Tr.mk 6 bo n s m f q g).val x] w fun e w' => e = .returned (.tuple #[]) ∧ (∃ l', Bld w' b l' ∧ Aft l (put m ++ cat m (fun i => (if (6 : Int) = 6 then textL (g i) else []) ++ bytesT (f i))) l' ∧ l'.length ≤ 6100) ∧ Below b w w' ∧ Tame w w' := by
  obtain ⟨A, hp, hr⟩ := hL.part
  have hN := hL.lims.2.2.2.2
  replace hN : Names B w q g x.na x.nc := hN
  obtain ⟨pa, pc, na, nc⟩ := x
  have hV : (Tr.mk 6 bo n s m f q g).val ⟨pa, pc, na, nc⟩ = .agg #[.int .i64 6, .bool bo, .int .i64 n, .string s, .slice pa m pc, .slice na q nc] := rfl
  rw [hV]
  clear hV
  have h32 := hS.m32
  have HQ : Hid (q = m ∧ ∀ i, i < q → okN g i = true) := hS.nm rfl
  obtain ⟨F, hF⟩ : ∃ F : Nat → List UInt8, (fun i => (if (6 : Int) = 6 then textL (g i) else []) ++ bytesT (f i)) = F := ⟨_, rfl⟩
  rw [hF]
  have HF : Hid (∀ i, F i = (if (6 : Int) = 6 then textL (g i) else []) ++ bytesT (f i)) := fun i => by rw [← hF]
  clear hF
  have HI : Hid (∀ i, i < m → PutC (f i) (d + 1)) := ih
  have HP : Hid (0 < m → ∃ b o, pa = some ⟨b, o, none⟩ ∧ b < B ∧ ∀ i, i < m → At6 w b (o + i * 6) (f i) (A i)) := hp
  have HR : Hid (∀ i, i < m → Lies B w (f i) (A i)) := hr
  have HN : Hid (Names B w q g na nc) := hN
  clear ih hp hr hN
  have hpu := fun W => put_any m (by omega) W
  have hpl := put_len10 (n := m) (by omega)
  obtain ⟨u, hu⟩ : ∃ u : ByteArray, (⟨(put m).toArray⟩ : ByteArray) = u := ⟨_, rfl⟩
  have HU : Hid (u.data.toList = put m) := by show _ = _; rw [← hu]
  have hus : u.size ≤ 10 := by rw [Lib.size_eq, HU.out]; omega
  rw [hu] at hpu
  clear hu
  have hw : IntKind.u64.wrap (m : Int) = (m : Int) := by rw [IntKind.wrap_u64]; omega
  have hb0 := hbl.lt
  go_enter Try.func70, Try.ntmps70
  go_wp2_with fail
  refine (hpu _).mono ?_
  rintro e w1 ⟨rfl, hb1⟩
  have hrow := (hb1.block w.heap.size (by simp)).trans (fresh_row w #[.int .i64 6, .bool bo, .int .i64 n, .string s, .slice pa m pc, .slice na q nc] 25)
  have hbel : Below w.heap.size w w1 := ((Below.refl _ w).alloc (Nat.le_refl _) _).trans (hb1.mono (by simp))
  go_wp2_with fail
  refine (b_text b l u _ (hbl.later hbel) (by omega) (by omega)).mono ?_
  rintro e w2 ⟨rfl, hbl2, hbb2, ht2⟩
  replace hrow := ht2.block _ _ _ _ (by decide) (by decide) hrow
  replace hbb2 : Below b w w2 := (hbel.mono (by omega)).trans hbb2
  replace ht2 : Tame w w2 := (Tame.ofBelow hbel).trans ht2
  rw [HU.out] at hbl2
  clear hb1 hbel
  have c4 := cell_of_row w2 _ 4 _ _ _ hrow
  go_wp2_with fail
  go_loopw [16] (fun c16 wr => ∃ (i : Nat) (li : List UInt8), i ≤ m ∧ c16 = .int .i64 (i : Int) ∧ Bld wr b li ∧ Aft l (put m ++ cat i F) li ∧ li.length ≤ 6100 ∧ wr.heap[w.heap.size]? = some (.cells #[.int .i64 6, .bool bo, .int .i64 n, .string s, .slice pa m pc, .slice na q nc] 25 (0, 0)) ∧ Below b w wr ∧ Tame w wr) (fun c16 _ => m - (intOf c16).toNat)
  case atStart => exact ⟨0, l ++ put m, by omega, rfl, hbl2, by rw [show cat 0 F = [] from rfl, List.append_nil]; exact Aft.all _ _, by simp; omega, hrow, hbb2, ht2⟩
  case round =>
    clear c4 hrow hbl2 hbb2 ht2
    obtain ⟨i, li, hi, rfl, hbli, haf, hli, hrow, hbw, htw⟩ := hrel
    have HA : Hid (Aft l (put m ++ cat i F) li) := haf
    clear haf
    by_cases him : i < m
    · have him' : (i : Int) < (m : Int) := by omega
      obtain ⟨pb, po, rfl, hpb, hat⟩ := HP.out (by omega)
      have h6a := (hat i him).later hpb (hbw.mono hB)
      have d0 := h6a.c0
      have d1 := h6a.c1
      have d2 := h6a.c2
      have d3 := h6a.c3
      have d4 := h6a.c4
      have d5 := h6a.c5
      clear hat
      have hLi := (HR.out i him).later (hbw.mono hB)
      have hsz := htw.size
      go_wp2_with fail
      have hbx : Below wr.heap.size wr (wr.alloc (.cells #[.int .i64 (f i).k, .bool (f i).b, .int .i64 (f i).n, .string (f i).s, .slice (A i).pa (f i).m (A i).pc, .slice (A i).na (f i).q (A i).nc] 25)) := (Below.refl _ wr).alloc (Nat.le_refl _) _
      have hpart := fresh_row wr #[.int .i64 (f i).k, .bool (f i).b, .int .i64 (f i).n, .string (f i).s, .slice (A i).pa (f i).m (A i).pc, .slice (A i).na (f i).q (A i).nc] 25
      obtain ⟨w3, hw3⟩ : ∃ w3, wr.alloc (.cells #[.int .i64 (f i).k, .bool (f i).b, .int .i64 (f i).n, .string (f i).s, .slice (A i).pa (f i).m (A i).pc, .slice (A i).na (f i).q (A i).nc] 25) = w3 := ⟨_, rfl⟩
      rw [hw3] at hbx hpart ⊢
      clear hw3
      have hrow3 := (hbx.block _ (lt_of_row hrow)).trans hrow
      have hbw3 : Below b w w3 := hbw.trans (hbx.mono (by omega))
      have htw3 : Tame w w3 := htw.trans (Tame.ofBelow hbx)
      refine (b_len b li _ (hbli.later hbx)).mono ?_
      rintro e w3 ⟨rfl, rfl⟩
      by_cases hbig : 1024 < li.length
      · have hbig' : (1024 : Int) < (li.length : Int) := by omega
        go_wp2
        refine bodyPost_ret (v := .tuple #[]) (by simp [results, Try.results70, go_sem]) rfl ?_
        obtain ⟨y, hy⟩ := cat_more F (show i ≤ m by omega)
        refine ⟨rfl, ⟨li, hbli.later hbx, ?_, hli⟩, hbw3, htw3⟩
        rw [hy, ← List.append_assoc]
        exact HA.out.over hbig
      · have hbig' : (li.length : Int) ≤ 1024 := by omega
        have HX : Hid (li = l ++ (put m ++ cat i F)) := HA.out.exact (by omega)
        have e0 := cell_of_row w3 _ 0 _ _ _ hrow3
        have e5 := cell_of_row w3 _ 5 _ _ _ hrow3
        have p0 := cell_of_row w3 _ 0 _ _ _ hpart
        have p1 := cell_of_row w3 _ 1 _ _ _ hpart
        have p2 := cell_of_row w3 _ 2 _ _ _ hpart
        have p3 := cell_of_row w3 _ 3 _ _ _ hpart
        have p4 := cell_of_row w3 _ 4 _ _ _ hpart
        have p5 := cell_of_row w3 _ 5 _ _ _ hpart
        have hqi : i < q := by have := HQ.out.1; omega
        have hgs := okN_size (HQ.out.2 i hqi)
        obtain ⟨nb, no, rfl, hnb, hng⟩ := HN.out.2.2.2 (by omega)
        have hnc := cell_later (hng i (by omega)) hnb (hbw3.mono hB)
        have hiq : (i : Int) < (q : Int) := by omega
        clear hng
        go_wp2_with fail
        refine (etext_any (g i) (by omega) _).mono ?_
        rintro e w4 ⟨rfl, hb4⟩
        go_wp2_with fail
        have htb := textB_size (g i) (by omega)
        refine (b_text b li (textB (g i)) _ ((hbli.later hbx).later hb4) (by omega) (by omega)).mono ?_
        rintro e w5 ⟨rfl, hbl5, hbb5, ht5⟩
        rw [textB_list] at hbl5
        have htl := textL_len (g i) (by omega)
        have hpart5 := ht5.block _ _ _ _ (by decide) (by decide) ((hb4.block _ (lt_of_row hpart)).trans hpart)
        have hrow5 := ht5.block _ _ _ _ (by decide) (by decide) ((hb4.block _ (lt_of_row hrow3)).trans hrow3)
        have hlt3 := lt_of_row hrow3
        have hbw5 : Below b w w5 := (hbw3.trans (hb4.mono (by omega))).trans hbb5
        have htw5 : Tame w w5 := (htw3.trans (Tame.ofBelow hb4)).trans ht5
        clear p0 p1 p2 p3 p4 p5
        have p0 := cell_of_row w5 _ 0 _ _ _ hpart5
        have p1 := cell_of_row w5 _ 1 _ _ _ hpart5
        have p2 := cell_of_row w5 _ 2 _ _ _ hpart5
        have p3 := cell_of_row w5 _ 3 _ _ _ hpart5
        have p4 := cell_of_row w5 _ 4 _ _ _ hpart5
        have p5 := cell_of_row w5 _ 5 _ _ _ hpart5
        have hLi5 := (HR.out i him).later (hbw5.mono hB)
        have hln : (li ++ textL (g i)).length ≤ 1100 := by rw [List.length_append]; omega
        go_wp2_with fail
        refine (HI.out i him B _ (A i) b (li ++ textL (g i)) hLi5 hB hbl5 hln).mono ?_
        rintro e w6 ⟨rfl, ⟨l6, hbl6, haf6, hl6⟩, hbb6, ht6⟩
        have hrow6 := ht6.block _ _ _ _ (by decide) (by decide) hrow5
        go_wp2
        go_roundw
        case rel =>
          refine ⟨i + 1, l6, by omega, by go_num, hbl6, ?_, hl6, hrow6, hbw5.trans hbb6, htw5.trans ht6⟩
          show Aft l (put m ++ (cat i F ++ F i)) l6
          rw [HX.out] at haf6
          rw [HF.out i, ← List.append_assoc]
          rw [if_pos (by trivial), ← List.append_assoc]
          rw [List.append_assoc l] at haf6
          exact haf6.on
        case measure => simp [intOf]; omega
    · obtain rfl : i = m := by omega
      go_wp2
      go_end0
      exact ⟨rfl, ⟨li, hbli, HA.out, hli⟩, hbw, htw⟩
end Go.Proofs.Ytjmjlijmeahmfaa
namespace Go.Proofs.Ytjmjlijmeahmfaa
open Go.RowKit
set_option maxRecDepth 100000 in
set_option maxHeartbeats 4000000 in
theorem put_0 {bo : Bool} {n : Int} {s : ByteArray} {m : Nat} {f : Nat → Tr} {q : Nat} {g : Nat → ByteArray} {d : Int} (_hS : SoundP 0 bo n s m f q g d) (_hsm : s.size ≤ 4096) : PutC (.mk 0 bo n s m f q g) d := by
  intro B w x b l hL hB hbl hl
  have hlim := hL.lims
  replace hlim : -9223372036854775808 ≤ n ∧ n < 9223372036854775808 := hlim.2.1
  have hkb : IntKind.u8.wrap 0 = ((UInt8.ofNat (0 : Int).toNat).toNat : Int) := kindByte (by decide) (by decide)
  have hb0 := hbl.lt
  obtain ⟨pa, pc, na, nc⟩ := x
  have hV : (Tr.mk 0 bo n s m f q g).val ⟨pa, pc, na, nc⟩ = .agg #[.int .i64 0, .bool bo, .int .i64 n, .string s, .slice pa m pc, .slice na q nc] := rfl
  have hbel : Below w.heap.size w (w.alloc (.cells #[.int .i64 0, .bool bo, .int .i64 n, .string s, .slice pa m pc, .slice na q nc] 25)) := (Below.refl _ w).alloc (Nat.le_refl _) _
  have hrow := fresh_row w #[.int .i64 0, .bool bo, .int .i64 n, .string s, .slice pa m pc, .slice na q nc] 25
  have hby := fun W hW => b_byte b l (UInt8.ofNat (0 : Int).toNat) W hW (by omega) _ hkb
  rw [hV]
  clear hkb
  go_enter Try.func38, Try.ntmps38
  go_wp2_with fail
  refine (hby _ (hbl.later hbel)).mono ?_
  rintro e w1 ⟨rfl, hbl1, hbb1, ht1⟩
  replace hrow := ht1.block _ _ _ _ (by decide) (by decide) hrow
  have hbb : Below b w w1 := (hbel.mono (by omega)).trans hbb1
  have ht : Tame w w1 := (Tame.ofBelow hbel).trans ht1
  clear hbb1 ht1
  have c0 := cell_of_row w1 _ 0 _ _ _ hrow
  have c1 := cell_of_row w1 _ 1 _ _ _ hrow
  have c2 := cell_of_row w1 _ 2 _ _ _ hrow
  have c3 := cell_of_row w1 _ 3 _ _ _ hrow
  have c4 := cell_of_row w1 _ 4 _ _ _ hrow
  have c5 := cell_of_row w1 _ 5 _ _ _ hrow
  go_wp2
  go_end0
  have hT : bytesT (.mk 0 bo n s m f q g) = [UInt8.ofNat (0 : Int).toNat] := by simp [bytesT]
  rw [hT]
  exact ⟨rfl, ⟨_, hbl1, Aft.all _ _, by simp; omega⟩, hbb, ht⟩
set_option maxRecDepth 100000 in
set_option maxHeartbeats 4000000 in
theorem put_1 {bo : Bool} {n : Int} {s : ByteArray} {m : Nat} {f : Nat → Tr} {q : Nat} {g : Nat → ByteArray} {d : Int} (hS : SoundP 1 bo n s m f q g d) (_hsm : s.size ≤ 4096) : PutC (.mk 1 bo n s m f q g) d := by
  intro B w x b l hL hB hbl hl
  have hlim := hL.lims
  replace hlim : -9223372036854775808 ≤ n ∧ n < 9223372036854775808 := hlim.2.1
  have hkb : IntKind.u8.wrap 1 = ((UInt8.ofNat (1 : Int).toNat).toNat : Int) := kindByte (by decide) (by decide)
  have hb0 := hbl.lt
  obtain ⟨pa, pc, na, nc⟩ := x
  have hV : (Tr.mk 1 bo n s m f q g).val ⟨pa, pc, na, nc⟩ = .agg #[.int .i64 1, .bool bo, .int .i64 n, .string s, .slice pa m pc, .slice na q nc] := rfl
  have hbel : Below w.heap.size w (w.alloc (.cells #[.int .i64 1, .bool bo, .int .i64 n, .string s, .slice pa m pc, .slice na q nc] 25)) := (Below.refl _ w).alloc (Nat.le_refl _) _
  have hrow := fresh_row w #[.int .i64 1, .bool bo, .int .i64 n, .string s, .slice pa m pc, .slice na q nc] 25
  have hby := fun W hW => b_byte b l (UInt8.ofNat (1 : Int).toNat) W hW (by omega) _ hkb
  rw [hV]
  clear hkb
  go_enter Try.func38, Try.ntmps38
  go_wp2_with fail
  refine (hby _ (hbl.later hbel)).mono ?_
  rintro e w1 ⟨rfl, hbl1, hbb1, ht1⟩
  replace hrow := ht1.block _ _ _ _ (by decide) (by decide) hrow
  have hbb : Below b w w1 := (hbel.mono (by omega)).trans hbb1
  have ht : Tame w w1 := (Tame.ofBelow hbel).trans ht1
  clear hbb1 ht1
  have c0 := cell_of_row w1 _ 0 _ _ _ hrow
  have c1 := cell_of_row w1 _ 1 _ _ _ hrow
  have c2 := cell_of_row w1 _ 2 _ _ _ hrow
  have c3 := cell_of_row w1 _ 3 _ _ _ hrow
  have c4 := cell_of_row w1 _ 4 _ _ _ hrow
  have c5 := cell_of_row w1 _ 5 _ _ _ hrow
  go_wp2_with fail
  refine (ebool_any bo _).mono ?_
  rintro e w1 ⟨rfl, rfl⟩
  have hlt := lt_of_row hrow
  go_wp2_with fail
  refine (b_text b _ (boolB bo) _ hbl1 (by simp; omega) (by rw [boolB_size]; decide)).mono ?_
  rintro e w3 ⟨rfl, hbl3, hbb3, ht3⟩
  go_wp2
  go_end0
  have hT : bytesT (.mk 1 bo n s m f q g) = [UInt8.ofNat (1 : Int).toNat] ++ [if bo then 1 else 0] := by simp [bytesT]
  rw [hT]
  refine ⟨rfl, ⟨_, hbl3, ?_, ?_⟩, hbb.trans hbb3, ht.trans ht3⟩
  · rw [List.append_assoc]
    rw [show (boolB bo).data.toList = [if bo then 1 else 0] by cases bo <;> rfl]
    exact Aft.all _ _
  · rw [List.length_append, List.length_append, ← Lib.size_eq]
    rw [boolB_size]; simp; omega
set_option maxRecDepth 100000 in
set_option maxHeartbeats 4000000 in
theorem put_2 {bo : Bool} {n : Int} {s : ByteArray} {m : Nat} {f : Nat → Tr} {q : Nat} {g : Nat → ByteArray} {d : Int} (_hS : SoundP 2 bo n s m f q g d) (_hsm : s.size ≤ 4096) : PutC (.mk 2 bo n s m f q g) d := by
  intro B w x b l hL hB hbl hl
  have hlim := hL.lims
  replace hlim : -9223372036854775808 ≤ n ∧ n < 9223372036854775808 := hlim.2.1
  have hkb : IntKind.u8.wrap 2 = ((UInt8.ofNat (2 : Int).toNat).toNat : Int) := kindByte (by decide) (by decide)
  have hb0 := hbl.lt
  obtain ⟨pa, pc, na, nc⟩ := x
  have hV : (Tr.mk 2 bo n s m f q g).val ⟨pa, pc, na, nc⟩ = .agg #[.int .i64 2, .bool bo, .int .i64 n, .string s, .slice pa m pc, .slice na q nc] := rfl
  have hbel : Below w.heap.size w (w.alloc (.cells #[.int .i64 2, .bool bo, .int .i64 n, .string s, .slice pa m pc, .slice na q nc] 25)) := (Below.refl _ w).alloc (Nat.le_refl _) _
  have hrow := fresh_row w #[.int .i64 2, .bool bo, .int .i64 n, .string s, .slice pa m pc, .slice na q nc] 25
  have hby := fun W hW => b_byte b l (UInt8.ofNat (2 : Int).toNat) W hW (by omega) _ hkb
  rw [hV]
  clear hkb
  go_enter Try.func38, Try.ntmps38
  go_wp2_with fail
  refine (hby _ (hbl.later hbel)).mono ?_
  rintro e w1 ⟨rfl, hbl1, hbb1, ht1⟩
  replace hrow := ht1.block _ _ _ _ (by decide) (by decide) hrow
  have hbb : Below b w w1 := (hbel.mono (by omega)).trans hbb1
  have ht : Tame w w1 := (Tame.ofBelow hbel).trans ht1
  clear hbb1 ht1
  have c0 := cell_of_row w1 _ 0 _ _ _ hrow
  have c1 := cell_of_row w1 _ 1 _ _ _ hrow
  have c2 := cell_of_row w1 _ 2 _ _ _ hrow
  have c3 := cell_of_row w1 _ 3 _ _ _ hrow
  have c4 := cell_of_row w1 _ 4 _ _ _ hrow
  have c5 := cell_of_row w1 _ 5 _ _ _ hrow
  go_wp2_with fail
  refine (eint_any n hlim.1 hlim.2 _).mono ?_
  rintro e w2 ⟨rfl, hb2⟩
  have hlt := lt_of_row hrow
  go_wp2_with fail
  refine (b_text b _ ⟨(put (zig n)).toArray⟩ _ (hbl1.later hb2) (by simp; omega) (by rw [put_size]; have := put_len10 (zig_lt hlim.1 hlim.2); omega)).mono ?_
  rintro e w3 ⟨rfl, hbl3, hbb3, ht3⟩
  go_wp2
  go_end0
  have hT : bytesT (.mk 2 bo n s m f q g) = [UInt8.ofNat (2 : Int).toNat] ++ put (zig n) := by simp [bytesT]
  rw [hT]
  refine ⟨rfl, ⟨_, hbl3, ?_, ?_⟩, (hbb.trans (hb2.mono (by omega))).trans hbb3, (ht.trans (Tame.ofBelow hb2)).trans ht3⟩
  · rw [List.append_assoc]
    exact Aft.all _ _
  · rw [List.length_append, List.length_append]
    have := put_len10 (zig_lt hlim.1 hlim.2); simp; omega
set_option maxRecDepth 100000 in
set_option maxHeartbeats 4000000 in
theorem put_3 {bo : Bool} {n : Int} {s : ByteArray} {m : Nat} {f : Nat → Tr} {q : Nat} {g : Nat → ByteArray} {d : Int} (_hS : SoundP 3 bo n s m f q g d) (hsm : s.size ≤ 4096) : PutC (.mk 3 bo n s m f q g) d := by
  intro B w x b l hL hB hbl hl
  have hlim := hL.lims
  replace hlim : -9223372036854775808 ≤ n ∧ n < 9223372036854775808 := hlim.2.1
  have hkb : IntKind.u8.wrap 3 = ((UInt8.ofNat (3 : Int).toNat).toNat : Int) := kindByte (by decide) (by decide)
  have hb0 := hbl.lt
  obtain ⟨pa, pc, na, nc⟩ := x
  have hV : (Tr.mk 3 bo n s m f q g).val ⟨pa, pc, na, nc⟩ = .agg #[.int .i64 3, .bool bo, .int .i64 n, .string s, .slice pa m pc, .slice na q nc] := rfl
  have hbel : Below w.heap.size w (w.alloc (.cells #[.int .i64 3, .bool bo, .int .i64 n, .string s, .slice pa m pc, .slice na q nc] 25)) := (Below.refl _ w).alloc (Nat.le_refl _) _
  have hrow := fresh_row w #[.int .i64 3, .bool bo, .int .i64 n, .string s, .slice pa m pc, .slice na q nc] 25
  have hby := fun W hW => b_byte b l (UInt8.ofNat (3 : Int).toNat) W hW (by omega) _ hkb
  rw [hV]
  clear hkb
  go_enter Try.func38, Try.ntmps38
  go_wp2_with fail
  refine (hby _ (hbl.later hbel)).mono ?_
  rintro e w1 ⟨rfl, hbl1, hbb1, ht1⟩
  replace hrow := ht1.block _ _ _ _ (by decide) (by decide) hrow
  have hbb : Below b w w1 := (hbel.mono (by omega)).trans hbb1
  have ht : Tame w w1 := (Tame.ofBelow hbel).trans ht1
  clear hbb1 ht1
  have c0 := cell_of_row w1 _ 0 _ _ _ hrow
  have c1 := cell_of_row w1 _ 1 _ _ _ hrow
  have c2 := cell_of_row w1 _ 2 _ _ _ hrow
  have c3 := cell_of_row w1 _ 3 _ _ _ hrow
  have c4 := cell_of_row w1 _ 4 _ _ _ hrow
  have c5 := cell_of_row w1 _ 5 _ _ _ hrow
  go_wp2_with fail
  refine (etext_any s (by omega) _).mono ?_
  rintro e w2 ⟨rfl, hb2⟩
  have hlt := lt_of_row hrow
  go_wp2_with fail
  refine (b_text b _ (textB s) _ (hbl1.later hb2) (by simp; omega) (by have := textB_size s hsm; omega)).mono ?_
  rintro e w3 ⟨rfl, hbl3, hbb3, ht3⟩
  go_wp2
  go_end0
  have hT : bytesT (.mk 3 bo n s m f q g) = [UInt8.ofNat (3 : Int).toNat] ++ textL s := by simp [bytesT]
  rw [hT]
  refine ⟨rfl, ⟨_, hbl3, ?_, ?_⟩, (hbb.trans (hb2.mono (by omega))).trans hbb3, (ht.trans (Tame.ofBelow hb2)).trans ht3⟩
  · rw [List.append_assoc]
    rw [textB_list]
    exact Aft.all _ _
  · rw [List.length_append, List.length_append, ← Lib.size_eq]
    have := textB_size s hsm; simp; omega
set_option maxRecDepth 100000 in
set_option maxHeartbeats 4000000 in
theorem put_4 {bo : Bool} {n : Int} {s : ByteArray} {m : Nat} {f : Nat → Tr} {q : Nat} {g : Nat → ByteArray} {d : Int} (_hS : SoundP 4 bo n s m f q g d) (hsm : s.size ≤ 4096) : PutC (.mk 4 bo n s m f q g) d := by
  intro B w x b l hL hB hbl hl
  have hlim := hL.lims
  replace hlim : -9223372036854775808 ≤ n ∧ n < 9223372036854775808 := hlim.2.1
  have hkb : IntKind.u8.wrap 4 = ((UInt8.ofNat (4 : Int).toNat).toNat : Int) := kindByte (by decide) (by decide)
  have hb0 := hbl.lt
  obtain ⟨pa, pc, na, nc⟩ := x
  have hV : (Tr.mk 4 bo n s m f q g).val ⟨pa, pc, na, nc⟩ = .agg #[.int .i64 4, .bool bo, .int .i64 n, .string s, .slice pa m pc, .slice na q nc] := rfl
  have hbel : Below w.heap.size w (w.alloc (.cells #[.int .i64 4, .bool bo, .int .i64 n, .string s, .slice pa m pc, .slice na q nc] 25)) := (Below.refl _ w).alloc (Nat.le_refl _) _
  have hrow := fresh_row w #[.int .i64 4, .bool bo, .int .i64 n, .string s, .slice pa m pc, .slice na q nc] 25
  have hby := fun W hW => b_byte b l (UInt8.ofNat (4 : Int).toNat) W hW (by omega) _ hkb
  rw [hV]
  clear hkb
  go_enter Try.func38, Try.ntmps38
  go_wp2_with fail
  refine (hby _ (hbl.later hbel)).mono ?_
  rintro e w1 ⟨rfl, hbl1, hbb1, ht1⟩
  replace hrow := ht1.block _ _ _ _ (by decide) (by decide) hrow
  have hbb : Below b w w1 := (hbel.mono (by omega)).trans hbb1
  have ht : Tame w w1 := (Tame.ofBelow hbel).trans ht1
  clear hbb1 ht1
  have c0 := cell_of_row w1 _ 0 _ _ _ hrow
  have c1 := cell_of_row w1 _ 1 _ _ _ hrow
  have c2 := cell_of_row w1 _ 2 _ _ _ hrow
  have c3 := cell_of_row w1 _ 3 _ _ _ hrow
  have c4 := cell_of_row w1 _ 4 _ _ _ hrow
  have c5 := cell_of_row w1 _ 5 _ _ _ hrow
  go_wp2_with fail
  refine (etext_any s (by omega) _).mono ?_
  rintro e w2 ⟨rfl, hb2⟩
  have hlt := lt_of_row hrow
  go_wp2_with fail
  refine (b_text b _ (textB s) _ (hbl1.later hb2) (by simp; omega) (by have := textB_size s hsm; omega)).mono ?_
  rintro e w3 ⟨rfl, hbl3, hbb3, ht3⟩
  go_wp2
  go_end0
  have hT : bytesT (.mk 4 bo n s m f q g) = [UInt8.ofNat (4 : Int).toNat] ++ textL s := by simp [bytesT]
  rw [hT]
  refine ⟨rfl, ⟨_, hbl3, ?_, ?_⟩, (hbb.trans (hb2.mono (by omega))).trans hbb3, (ht.trans (Tame.ofBelow hb2)).trans ht3⟩
  · rw [List.append_assoc]
    rw [textB_list]
    exact Aft.all _ _
  · rw [List.length_append, List.length_append, ← Lib.size_eq]
    have := textB_size s hsm; simp; omega
set_option maxRecDepth 100000 in
set_option maxHeartbeats 4000000 in
theorem put_5 {bo : Bool} {n : Int} {s : ByteArray} {m : Nat} {f : Nat → Tr} {q : Nat} {g : Nat → ByteArray} {d : Int} (hS : SoundP 5 bo n s m f q g d) (_hsm : s.size ≤ 4096) (ih : ∀ i, i < m → PutC (f i) (d + 1)) : PutC (.mk 5 bo n s m f q g) d := by
  intro B w x b l hL hB hbl hl
  have hlim := hL.lims
  replace hlim : -9223372036854775808 ≤ n ∧ n < 9223372036854775808 := hlim.2.1
  have hkb : IntKind.u8.wrap 5 = ((UInt8.ofNat (5 : Int).toNat).toNat : Int) := kindByte (by decide) (by decide)
  have hb0 := hbl.lt
  obtain ⟨pa, pc, na, nc⟩ := x
  have hV : (Tr.mk 5 bo n s m f q g).val ⟨pa, pc, na, nc⟩ = .agg #[.int .i64 5, .bool bo, .int .i64 n, .string s, .slice pa m pc, .slice na q nc] := rfl
  have hbel : Below w.heap.size w (w.alloc (.cells #[.int .i64 5, .bool bo, .int .i64 n, .string s, .slice pa m pc, .slice na q nc] 25)) := (Below.refl _ w).alloc (Nat.le_refl _) _
  have hrow := fresh_row w #[.int .i64 5, .bool bo, .int .i64 n, .string s, .slice pa m pc, .slice na q nc] 25
  have hby := fun W hW => b_byte b l (UInt8.ofNat (5 : Int).toNat) W hW (by omega) _ hkb
  rw [hV]
  clear hkb
  go_enter Try.func38, Try.ntmps38
  go_wp2_with fail
  refine (hby _ (hbl.later hbel)).mono ?_
  rintro e w1 ⟨rfl, hbl1, hbb1, ht1⟩
  replace hrow := ht1.block _ _ _ _ (by decide) (by decide) hrow
  have hbb : Below b w w1 := (hbel.mono (by omega)).trans hbb1
  have ht : Tame w w1 := (Tame.ofBelow hbel).trans ht1
  clear hbb1 ht1
  have c0 := cell_of_row w1 _ 0 _ _ _ hrow
  have c1 := cell_of_row w1 _ 1 _ _ _ hrow
  have c2 := cell_of_row w1 _ 2 _ _ _ hrow
  have c3 := cell_of_row w1 _ 3 _ _ _ hrow
  have c4 := cell_of_row w1 _ 4 _ _ _ hrow
  have c5 := cell_of_row w1 _ 5 _ _ _ hrow
  have hpp := parts_5 hS ih (hL.later (hbb.mono hB)) hB hbl1 (by simp; omega)
  rw [hV] at hpp
  go_wp2_with fail
  refine hpp.mono ?_
  rintro e w3 ⟨rfl, ⟨l3, hbl3, haf, hl3⟩, hbb3, ht3⟩
  go_wp2
  go_end0
  have hT : bytesT (.mk 5 bo n s m f q g) = [UInt8.ofNat (5 : Int).toNat] ++ (put m ++ cat m (fun i => (if (5 : Int) = 6 then textL (g i) else []) ++ bytesT (f i))) := by rw [bytesT]; simp
  rw [hT]
  exact ⟨rfl, ⟨l3, hbl3, haf.on, hl3⟩, hbb.trans hbb3, ht.trans ht3⟩
set_option maxRecDepth 100000 in
set_option maxHeartbeats 4000000 in
theorem put_6 {bo : Bool} {n : Int} {s : ByteArray} {m : Nat} {f : Nat → Tr} {q : Nat} {g : Nat → ByteArray} {d : Int} (hS : SoundP 6 bo n s m f q g d) (_hsm : s.size ≤ 4096) (ih : ∀ i, i < m → PutC (f i) (d + 1)) : PutC (.mk 6 bo n s m f q g) d := by
  intro B w x b l hL hB hbl hl
  have hlim := hL.lims
  replace hlim : -9223372036854775808 ≤ n ∧ n < 9223372036854775808 := hlim.2.1
  have hkb : IntKind.u8.wrap 6 = ((UInt8.ofNat (6 : Int).toNat).toNat : Int) := kindByte (by decide) (by decide)
  have hb0 := hbl.lt
  obtain ⟨pa, pc, na, nc⟩ := x
  have hV : (Tr.mk 6 bo n s m f q g).val ⟨pa, pc, na, nc⟩ = .agg #[.int .i64 6, .bool bo, .int .i64 n, .string s, .slice pa m pc, .slice na q nc] := rfl
  have hbel : Below w.heap.size w (w.alloc (.cells #[.int .i64 6, .bool bo, .int .i64 n, .string s, .slice pa m pc, .slice na q nc] 25)) := (Below.refl _ w).alloc (Nat.le_refl _) _
  have hrow := fresh_row w #[.int .i64 6, .bool bo, .int .i64 n, .string s, .slice pa m pc, .slice na q nc] 25
  have hby := fun W hW => b_byte b l (UInt8.ofNat (6 : Int).toNat) W hW (by omega) _ hkb
  rw [hV]
  clear hkb
  go_enter Try.func38, Try.ntmps38
  go_wp2_with fail
  refine (hby _ (hbl.later hbel)).mono ?_
  rintro e w1 ⟨rfl, hbl1, hbb1, ht1⟩
  replace hrow := ht1.block _ _ _ _ (by decide) (by decide) hrow
  have hbb : Below b w w1 := (hbel.mono (by omega)).trans hbb1
  have ht : Tame w w1 := (Tame.ofBelow hbel).trans ht1
  clear hbb1 ht1
  have c0 := cell_of_row w1 _ 0 _ _ _ hrow
  have c1 := cell_of_row w1 _ 1 _ _ _ hrow
  have c2 := cell_of_row w1 _ 2 _ _ _ hrow
  have c3 := cell_of_row w1 _ 3 _ _ _ hrow
  have c4 := cell_of_row w1 _ 4 _ _ _ hrow
  have c5 := cell_of_row w1 _ 5 _ _ _ hrow
  have hpp := parts_6 hS ih (hL.later (hbb.mono hB)) hB hbl1 (by simp; omega)
  rw [hV] at hpp
  go_wp2_with fail
  refine hpp.mono ?_
  rintro e w3 ⟨rfl, ⟨l3, hbl3, haf, hl3⟩, hbb3, ht3⟩
  go_wp2
  go_end0
  have hT : bytesT (.mk 6 bo n s m f q g) = [UInt8.ofNat (6 : Int).toNat] ++ (put m ++ cat m (fun i => (if (6 : Int) = 6 then textL (g i) else []) ++ bytesT (f i))) := by rw [bytesT]; simp
  rw [hT]
  exact ⟨rfl, ⟨l3, hbl3, haf.on, hl3⟩, hbb.trans hbb3, ht.trans ht3⟩
theorem put_all (t : Tr) : ∀ d, soundT t d = 0 → small t → PutC t d := by
  induction t with
  | no => exact fun _ _ _ _ _ _ _ _ hL => hL.no.elim
  | mk k b n s m f q g ih =>
    intro d hS hsm
    have hP := soundP hS
    have hc : ∀ i, i < m → PutC (f i) (d + 1) := fun i hi => ih i (d + 1) (hP.ch i hi) (hsm.2 i hi)
    have h0 := hP.k0
    have h6 := hP.k6
    obtain rfl | rfl | rfl | rfl | rfl | rfl | rfl : k = 0 ∨ k = 1 ∨ k = 2 ∨ k = 3 ∨ k = 4 ∨ k = 5 ∨ k = 6 := by omega
    · exact put_0 hP hsm.1
    · exact put_1 hP hsm.1
    · exact put_2 hP hsm.1
    · exact put_3 hP hsm.1
    · exact put_4 hP hsm.1
    · exact put_5 hP hsm.1 hc
    · exact put_6 hP hsm.1 hc
end Go.Proofs.Ytjmjlijmeahmfaa
namespace Go.Proofs.Ytjmjlijmeahmfaa
open Go.RowKit
def checkT (t : Tr) : Int := if soundT t 1 = 0 then (if 1024 < (bytesT t).length then 3 else 0) else soundT t 1
def encT (t : Tr) : ByteArray := if checkT t = 0 then ⟨(bytesT t).toArray⟩ else ⟨#[]⟩
theorem bytesT_ne (t : Tr) : bytesT t ≠ [] := by cases t <;> rw [bytesT] <;> simp
set_option maxRecDepth 100000 in
set_option maxHeartbeats 4000000 in
theorem encode_any {t : Tr} {B : Nat} {w : World} {x : Ad} (hL : Lies B w t x) (hB : B ≤ w.heap.size) (hsm : small t) :
    Calls Try.prog 14 #[t.val x] w fun e w' => e = .returned (.tuple #[.string (encT t), .int .i64 (checkT t)]) ∧ Below w.heap.size w w' := by
  obtain ⟨C, hC⟩ : ∃ C, checkT t = C := ⟨_, rfl⟩
  obtain ⟨X, hX⟩ : ∃ X, encT t = X := ⟨_, rfl⟩
  rw [hC, hX]
  have HC : Hid (checkT t = C) := hC
  have HX : Hid (encT t = X) := hX
  clear hC hX
  obtain ⟨E, hE⟩ : ∃ E, soundT t 1 = E := ⟨_, rfl⟩
  have hso := fun (W : World) (hb : Below B w W) (hs : B ≤ W.heap.size) => sound_any t B W x 1 (by decide) (by decide) (hL.later hb) hs
  rw [hE] at hso
  have HE : Hid (soundT t 1 = E) := hE
  clear hE
  obtain ⟨bs, hbs⟩ : ∃ bs, bytesT t = bs := ⟨_, rfl⟩
  have HB : Hid (bytesT t = bs) := hbs
  have hne := bytesT_ne t
  rw [hbs] at hne
  clear hbs
  have hpt := put_all t 1
  rw [PutC, HB.out] at hpt
  have hV : t.val x = .agg #[.int .i64 t.k, .bool t.b, .int .i64 t.n, .string t.s, .slice x.pa t.m x.pc, .slice x.na t.q x.nc] := rfl
  rw [hV] at hso ⊢
  have hbel : Below w.heap.size w (w.alloc (.cells #[.int .i64 t.k, .bool t.b, .int .i64 t.n, .string t.s, .slice x.pa t.m x.pc, .slice x.na t.q x.nc] 25)) := (Below.refl _ w).alloc (Nat.le_refl _) _
  have hrow := (heap_alloc_new w (.cells #[.int .i64 t.k, .bool t.b, .int .i64 t.n, .string t.s, .slice x.pa t.m x.pc, .slice x.na t.q x.nc] 25))
  by_cases h0 : E = 0
  · subst h0
    go_enter Try.func14, Try.ntmps14
    go_wp2_with fail
    refine (hso _ (hbel.mono hB) (by simp; omega)).mono ?_
    rintro e w1 ⟨rfl, hb1⟩
    replace hrow := (hb1.block _ (by simp)).trans hrow
    replace hbel := hbel.trans (hb1.mono (by simp))
    clear hb1
    have hlt := lt_of_row hrow
    have hbl := bld_new w1
    have hb2 : Below w1.heap.size w1 (w1.alloc (.cells #[.pointer none, .slice none 0 0] 66)) := (Below.refl _ w1).alloc (Nat.le_refl _) _
    have hrow2 := (hb2.block _ hlt).trans hrow
    have c0 := cell_of_row _ _ 0 _ _ _ hrow2
    have c1 := cell_of_row _ _ 1 _ _ _ hrow2
    have c2 := cell_of_row _ _ 2 _ _ _ hrow2
    have c3 := cell_of_row _ _ 3 _ _ _ hrow2
    have c4 := cell_of_row _ _ 4 _ _ _ hrow2
    have c5 := cell_of_row _ _ 5 _ _ _ hrow2
    have hLx := hL.later ((hbel.trans (hb2.mono (by omega))).mono hB)
    have hBb : B ≤ w1.heap.size := by omega
    go_wp2_with fail
    refine (hpt HE.out hsm B _ x _ [] hLx hBb hbl (by simp)).mono ?_
    rintro e w3 ⟨rfl, ⟨l3, hbl3, haf, hl3⟩, hbb3, ht3⟩
    have hfin : Below w.heap.size w w3 := (hbel.trans (hb2.mono (by omega))).trans (hbb3.mono (by omega))
    clear c0 c1 c2 c3 c4 c5
    go_wp2_with fail
    refine (b_len _ l3 _ hbl3).mono ?_
    rintro e w3 ⟨rfl, rfl⟩
    by_cases hbig : 1024 < l3.length
    · have hbig' : (1024 : Int) < (l3.length : Int) := by omega
      have hx : 1024 < bs.length := by
        rcases Nat.lt_or_ge 1024 bs.length with k | k
        · exact k
        · have := haf.1 (by simpa using k); rw [List.nil_append] at this; rw [this] at hbig; omega
      have hc : checkT t = 3 := by unfold checkT; rw [if_pos HE.out, HB.out, if_pos hx]
      have he : encT t = ⟨#[]⟩ := by unfold encT; rw [hc]; rfl
      obtain rfl := hc.symm.trans HC.out
      obtain rfl := he.symm.trans HX.out
      go_wp2
      go_ret2
      exact ⟨rfl, hfin⟩
    · have hbig' : (l3.length : Int) ≤ 1024 := by omega
      have hx : l3 = bs := by have := haf.exact (by omega); simpa using this
      subst hx
      have hc : checkT t = 0 := by unfold checkT; rw [if_pos HE.out, HB.out, if_neg hbig]
      have he : encT t = ⟨l3.toArray⟩ := by unfold encT; rw [hc, if_pos rfl, HB.out]
      obtain rfl := hc.symm.trans HC.out
      obtain rfl := he.symm.trans HX.out
      go_wp2_with fail
      refine (b_string _ l3 _ hbl3 hne).mono ?_
      rintro e w4 ⟨rfl, hb4⟩
      go_wp2
      go_ret2
      exact ⟨rfl, hfin.trans (hb4.mono (by omega))⟩
  · have hc : checkT t = E := by unfold checkT; rw [HE.out, if_neg h0]
    have he : encT t = ⟨#[]⟩ := by unfold encT; rw [hc, if_neg h0]
    obtain rfl := hc.symm.trans HC.out
    obtain rfl := he.symm.trans HX.out
    clear hpt
    have h0' : (E != 0) = true := by simpa using h0
    go_enter Try.func14, Try.ntmps14
    go_wp2_with fail
    refine (hso _ (hbel.mono hB) (by simp; omega)).mono ?_
    rintro e w1 ⟨rfl, hb1⟩
    go_wp2
    go_ret2
    exact ⟨rfl, hbel.trans (hb1.mono (by simp))⟩
set_option maxRecDepth 100000 in
set_option maxHeartbeats 1000000 in
theorem check_any {t : Tr} {B : Nat} {w : World} {x : Ad} (hL : Lies B w t x) (hB : B ≤ w.heap.size) (hsm : small t) :
    Calls Try.prog 11 #[t.val x] w fun e w' => e = .returned (.int .i64 (checkT t)) ∧ Below w.heap.size w w' := by
  have hen := fun (W : World) (hb : Below B w W) (hs : B ≤ W.heap.size) => encode_any (hL.later hb) hs hsm
  have hV : t.val x = .agg #[.int .i64 t.k, .bool t.b, .int .i64 t.n, .string t.s, .slice x.pa t.m x.pc, .slice x.na t.q x.nc] := rfl
  rw [hV] at hen ⊢
  have hbel : Below w.heap.size w (w.alloc (.cells #[.int .i64 t.k, .bool t.b, .int .i64 t.n, .string t.s, .slice x.pa t.m x.pc, .slice x.na t.q x.nc] 25)) := (Below.refl _ w).alloc (Nat.le_refl _) _
  go_enter Try.func11, Try.ntmps11
  go_wp2_with fail
  refine (hen _ (hbel.mono hB) (by simp; omega)).mono ?_
  rintro e w1 ⟨rfl, hb1⟩
  go_wp2
  go_ret
  exact ⟨rfl, hbel.trans (hb1.mono (by simp))⟩
end Go.Proofs.Ytjmjlijmeahmfaa
