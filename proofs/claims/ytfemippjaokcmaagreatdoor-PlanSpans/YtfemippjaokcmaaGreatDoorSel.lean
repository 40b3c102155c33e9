/- Statements (selection, statement). -/
import Derived.Test.YtfemippjaokcmaaGreatDoorNum
namespace Go.Proofs.YtfemippjaokcmaaGreatDoor
open Go.RowKit Go.Shelf
attribute [local go_sem] Oper.semAt_some fw0 fw1 fw2
def slC (ws : List Wd) (M : Sm) (s : PS) : Sm × PS := colF ws { M with k := 6 } s
def slO (ws : List Wd) (M : Sm) (s : PS) : Sm × PS := srcF ws (slC ws M s).1 (mustQ ws (slC ws M s).2 2 [70, 82, 79, 77])
def slW (ws : List Wd) (M : Sm) (s : PS) : Sm × PS := whrF ws (slO ws M s).1 (slO ws M s).2
def slD (ws : List Wd) (M : Sm) (s : PS) : Sm × PS := ordF ws (slW ws M s).1 (slW ws M s).2
def selF (ws : List Wd) (M : Sm) (s : PS) : Sm × PS :=
  if isP (wAt ws (slD ws M s).2.at') 2 [76, 73, 77, 73, 84] then ({ (slD ws M s).1 with li := (numF ws (takeP (slD ws M s).2)).1 }, (numF ws (takeP (slD ws M s).2)).2) else slD ws M s
def stmF (ws : List Wd) (s : PS) : Sm × PS :=
  if isP (wAt ws s.at') 2 [67, 82, 69, 65, 84, 69] then creF ws Sm.new (takeP s)
  else if isP (wAt ws s.at') 2 [73, 78, 83, 69, 82, 84] then insF ws Sm.new (takeP s)
  else if isP (wAt ws s.at') 2 [85, 80, 68, 65, 84, 69] then updF ws Sm.new (takeP s)
  else if isP (wAt ws s.at') 2 [68, 69, 76, 69, 84, 69] then delF ws Sm.new (takeP s)
  else if isP (wAt ws s.at') 2 [83, 69, 76, 69, 67, 84] then selF ws Sm.new (takeP s)
  else (Sm.new, failP ws s 120)
theorem Sx.ones {w : World} {S : Nat -> Prop} {R : SR} {M : Sm} (h : Sx w S R M) : (stA R).all (·.oneCell') = true := by
  obtain ⟨p1, c1, e1, _⟩ := h.nm
  obtain ⟨p2, c2, K, d, e2, _⟩ := h.ex
  obtain ⟨p3, c3, e3, _⟩ := h.cl
  simp [stA, e1, e2, e3, Value.oneCell']
def GivesS (ws : List Wd) (w : World) (b : Nat) (p : Option Addr) (c : Nat) (X : Sm × PS) (r : Ending) (w' : World) : Prop :=
  ∃ R, r = .returned (.agg (stA R)) /\ Sx w' (fun k => w.heap.size <= k) R X.1 /\ Ps w' b p c ws X.2 /\ Onl b w w' /\ Gd ws X.2
set_option maxRecDepth 100000 in
set_option maxHeartbeats 8000000 in
theorem statement_delete {w : World} {b : Nat} {p : Option Addr} {c : Nat} {ws : List Wd} {s : PS} (H : Ps w b p c ws s) (hz : Wz ws) (hl : Wl ws) (g : Gd ws s) (_ha : Wa ws) (he : Ev w) (_hb2 : 2 < b) (n0 : isP (wAt ws s.at') 2 [67, 82, 69, 65, 84, 69] = false) (n1 : isP (wAt ws s.at') 2 [73, 78, 83, 69, 82, 84] = false) (n2 : isP (wAt ws s.at') 2 [85, 80, 68, 65, 84, 69] = false) (hy : isP (wAt ws s.at') 2 [68, 69, 76, 69, 84, 69] = true) :
    Calls Tryz.prog 54 #[.pointer (some ⟨b, 0, none⟩)] w (GivesS ws w b p c (delF ws Sm.new (takeP s))) := by
  have hold := H.old
  have lb := lt_of_row H.row
  have hlt := H.lt
  obtain ⟨w0, hw0⟩ : ∃ w0, put ((w.alloc (.cells #[.int .i64 0, .string ⟨#[]⟩, .string ⟨#[]⟩, .int .i64 0, .string ⟨#[]⟩, .int .i64 0, .bool false, .int .i64 0, .string ⟨#[]⟩, .slice none 0 0, .slice none 0 0, .slice none 0 0, .slice none 0 0, .slice none 0 0, .slice none 0 0, .int .i64 0, .string ⟨#[]⟩, .int .i64 0, .bool false, .int .i64 0, .string ⟨#[]⟩, .slice none 0 0, .slice none 0 0, .slice none 0 0, .slice none 0 0, .slice none 0 0, .bool false, .bool false, .string ⟨#[]⟩, .bool false, .int .i64 (0)] 62)).alloc (.cells #[.int .i64 0, .string ⟨#[]⟩, .string ⟨#[]⟩, .int .i64 0, .string ⟨#[]⟩, .int .i64 0, .bool false, .int .i64 0, .string ⟨#[]⟩, .slice none 0 0, .slice none 0 0, .slice none 0 0, .slice none 0 0, .slice none 0 0, .slice none 0 0, .int .i64 0, .string ⟨#[]⟩, .int .i64 0, .bool false, .int .i64 0, .string ⟨#[]⟩, .slice none 0 0, .slice none 0 0, .slice none 0 0, .slice none 0 0, .slice none 0 0, .bool false, .bool false, .string ⟨#[]⟩, .bool false, .int .i64 (0)] 62)) (w.heap.size + 1) #[.int .i64 0, .string ⟨#[]⟩, .string ⟨#[]⟩, .int .i64 0, .string ⟨#[]⟩, .int .i64 0, .bool false, .int .i64 0, .string ⟨#[]⟩, .slice none 0 0, .slice none 0 0, .slice none 0 0, .slice none 0 0, .slice none 0 0, .slice none 0 0, .int .i64 0, .string ⟨#[]⟩, .int .i64 0, .bool false, .int .i64 0, .string ⟨#[]⟩, .slice none 0 0, .slice none 0 0, .slice none 0 0, .slice none 0 0, .slice none 0 0, .bool false, .bool false, .string ⟨#[]⟩, .bool false, .int .i64 (-1)] = w0 := ⟨_, rfl⟩
  have ra : ((w.alloc (.cells #[.int .i64 0, .string ⟨#[]⟩, .string ⟨#[]⟩, .int .i64 0, .string ⟨#[]⟩, .int .i64 0, .bool false, .int .i64 0, .string ⟨#[]⟩, .slice none 0 0, .slice none 0 0, .slice none 0 0, .slice none 0 0, .slice none 0 0, .slice none 0 0, .int .i64 0, .string ⟨#[]⟩, .int .i64 0, .bool false, .int .i64 0, .string ⟨#[]⟩, .slice none 0 0, .slice none 0 0, .slice none 0 0, .slice none 0 0, .slice none 0 0, .bool false, .bool false, .string ⟨#[]⟩, .bool false, .int .i64 (0)] 62)).alloc (.cells #[.int .i64 0, .string ⟨#[]⟩, .string ⟨#[]⟩, .int .i64 0, .string ⟨#[]⟩, .int .i64 0, .bool false, .int .i64 0, .string ⟨#[]⟩, .slice none 0 0, .slice none 0 0, .slice none 0 0, .slice none 0 0, .slice none 0 0, .slice none 0 0, .int .i64 0, .string ⟨#[]⟩, .int .i64 0, .bool false, .int .i64 0, .string ⟨#[]⟩, .slice none 0 0, .slice none 0 0, .slice none 0 0, .slice none 0 0, .slice none 0 0, .bool false, .bool false, .string ⟨#[]⟩, .bool false, .int .i64 (0)] 62)).heap[w.heap.size + 1]? = some (.cells #[.int .i64 0, .string ⟨#[]⟩, .string ⟨#[]⟩, .int .i64 0, .string ⟨#[]⟩, .int .i64 0, .bool false, .int .i64 0, .string ⟨#[]⟩, .slice none 0 0, .slice none 0 0, .slice none 0 0, .slice none 0 0, .slice none 0 0, .slice none 0 0, .int .i64 0, .string ⟨#[]⟩, .int .i64 0, .bool false, .int .i64 0, .string ⟨#[]⟩, .slice none 0 0, .slice none 0 0, .slice none 0 0, .slice none 0 0, .slice none 0 0, .bool false, .bool false, .string ⟨#[]⟩, .bool false, .int .i64 (0)] 62 (0, 0)) := two_new _ _ _
  have hb0 : Below w.heap.size w w0 := by rw [<- hw0]; exact put_below (((Below.refl _ w).alloc (Nat.le_refl _) _).alloc (by simp) _) _ (Nat.le_succ _) _
  have hs0 : w0.heap.size = w.heap.size + 1 + 1 := by rw [<- hw0, put_size]; simp
  have rx0 : w0.heap[w.heap.size + 1]? = some (.cells (stA (⟨0, ⟨#[]⟩, ⟨#[]⟩, ⟨0, ⟨#[]⟩, 0, false, 0, ⟨#[]⟩, none, 0, 0, none, 0, 0⟩, .slice none 0 0, .slice none 0 0, ⟨0, ⟨#[]⟩, 0, false, 0, ⟨#[]⟩, none, 0, 0, none, 0, 0⟩, .slice none 0 0, false, false, ⟨#[]⟩, false, -1⟩ : SR)) 62 (0, 0)) := by rw [<- hw0]; exact put_row _ ra rfl
  have rz0 : w0.heap[w.heap.size]? = some (.cells #[.int .i64 0, .string ⟨#[]⟩, .string ⟨#[]⟩, .int .i64 0, .string ⟨#[]⟩, .int .i64 0, .bool false, .int .i64 0, .string ⟨#[]⟩, .slice none 0 0, .slice none 0 0, .slice none 0 0, .slice none 0 0, .slice none 0 0, .slice none 0 0, .int .i64 0, .string ⟨#[]⟩, .int .i64 0, .bool false, .int .i64 0, .string ⟨#[]⟩, .slice none 0 0, .slice none 0 0, .slice none 0 0, .slice none 0 0, .slice none 0 0, .bool false, .bool false, .string ⟨#[]⟩, .bool false, .int .i64 (0)] 62 (0, 0)) := by rw [<- hw0, put_other (by omega), Below.heap_alloc _ _ _ (by simp)]; exact heap_alloc_new _ _
  obtain ⟨S, hS⟩ : ∃ S : Nat -> Prop, S = fun k => w.heap.size + 1 + 1 <= k := ⟨_, rfl⟩
  have B0 : Sb S b p c ws (w.heap.size + 1) w0 w0 Sm.new s := by
    refine ⟨⟨_, rx0, zero_sx w0 S (-1)⟩, H.later hb0, rfl, rfl, rfl, Nat.le_refl _, fun _ _ _ _ => rfl, ⟨by omega, by omega⟩, fun g hg => by have := hold g hg; omega, ?_, ?_⟩
    . rw [hS]; constructor <;> omega
    . rw [hS]; intro k hk; omega
  have HB0 : Hid (Sb S b p c ws (w.heap.size + 1) w0 w0 Sm.new s /\ Below w.heap.size w w0 /\ ((w.alloc (.cells #[.int .i64 0, .string ⟨#[]⟩, .string ⟨#[]⟩, .int .i64 0, .string ⟨#[]⟩, .int .i64 0, .bool false, .int .i64 0, .string ⟨#[]⟩, .slice none 0 0, .slice none 0 0, .slice none 0 0, .slice none 0 0, .slice none 0 0, .slice none 0 0, .int .i64 0, .string ⟨#[]⟩, .int .i64 0, .bool false, .int .i64 0, .string ⟨#[]⟩, .slice none 0 0, .slice none 0 0, .slice none 0 0, .slice none 0 0, .slice none 0 0, .bool false, .bool false, .string ⟨#[]⟩, .bool false, .int .i64 (0)] 62)).alloc (.cells #[.int .i64 0, .string ⟨#[]⟩, .string ⟨#[]⟩, .int .i64 0, .string ⟨#[]⟩, .int .i64 0, .bool false, .int .i64 0, .string ⟨#[]⟩, .slice none 0 0, .slice none 0 0, .slice none 0 0, .slice none 0 0, .slice none 0 0, .slice none 0 0, .int .i64 0, .string ⟨#[]⟩, .int .i64 0, .bool false, .int .i64 0, .string ⟨#[]⟩, .slice none 0 0, .slice none 0 0, .slice none 0 0, .slice none 0 0, .slice none 0 0, .bool false, .bool false, .string ⟨#[]⟩, .bool false, .int .i64 (0)] 62)).heap[w.heap.size + 1]? = some (.cells #[.int .i64 0, .string ⟨#[]⟩, .string ⟨#[]⟩, .int .i64 0, .string ⟨#[]⟩, .int .i64 0, .bool false, .int .i64 0, .string ⟨#[]⟩, .slice none 0 0, .slice none 0 0, .slice none 0 0, .slice none 0 0, .slice none 0 0, .slice none 0 0, .int .i64 0, .string ⟨#[]⟩, .int .i64 0, .bool false, .int .i64 0, .string ⟨#[]⟩, .slice none 0 0, .slice none 0 0, .slice none 0 0, .slice none 0 0, .slice none 0 0, .bool false, .bool false, .string ⟨#[]⟩, .bool false, .int .i64 (0)] 62 (0, 0)) /\ w0.heap[w.heap.size]? = some (.cells #[.int .i64 0, .string ⟨#[]⟩, .string ⟨#[]⟩, .int .i64 0, .string ⟨#[]⟩, .int .i64 0, .bool false, .int .i64 0, .string ⟨#[]⟩, .slice none 0 0, .slice none 0 0, .slice none 0 0, .slice none 0 0, .slice none 0 0, .slice none 0 0, .int .i64 0, .string ⟨#[]⟩, .int .i64 0, .bool false, .int .i64 0, .string ⟨#[]⟩, .slice none 0 0, .slice none 0 0, .slice none 0 0, .slice none 0 0, .slice none 0 0, .bool false, .bool false, .string ⟨#[]⟩, .bool false, .int .i64 (0)] 62 (0, 0)) /\ S = (fun k => w.heap.size + 1 + 1 <= k)) := ⟨B0, hb0, ra, rz0, hS⟩
  have HE : Hid (Ev w0) := he.later hb0
  have HC : Hid (Sb S b p c ws (w.heap.size + 1) w0 w0 Sm.new s) := B0
  have g1 := g.take hz hlt hy (by decide)
  clear H ra hb0 rx0 rz0 B0 he hS
  go_enter Tryz.func54, Tryz.ntmps54
  have k0 := tookKey_no HC.out.ps hz [67, 82, 69, 65, 84, 69] n0
  go_wp2_with (first | (refine wpList_put rfl 62 (.tmp 3) (.tmp 4) rfl rfl rfl rfl HB0.out.2.2.1 rfl info30 (by simp [Value.oneCell']) ?_; rw [hw0]) | fail)
  refine k0.mono ?_
  rintro q w1 ⟨rfl, hP1, hO1⟩
  have HC1 : Hid (Sb S b p c ws (w.heap.size + 1) w0 w1 Sm.new s) := HC.out.calls hO1 hP1
  clear k0 hP1 hO1 HC
  have k1 := tookKey_no HC1.out.ps hz [73, 78, 83, 69, 82, 84] n1
  go_wp2_with fail
  refine k1.mono ?_
  rintro q w2 ⟨rfl, hP2, hO2⟩
  have HC2 : Hid (Sb S b p c ws (w.heap.size + 1) w0 w2 Sm.new s) := HC1.out.calls hO2 hP2
  clear k1 hP2 hO2 HC1
  have k2 := tookKey_no HC2.out.ps hz [85, 80, 68, 65, 84, 69] n2
  go_wp2_with fail
  refine k2.mono ?_
  rintro q w3 ⟨rfl, hP3, hO3⟩
  have HC3 : Hid (Sb S b p c ws (w.heap.size + 1) w0 w3 Sm.new s) := HC2.out.calls hO3 hP3
  clear k2 hP3 hO3 HC2
  have k3 := tookKey_yes HC3.out.ps hz [68, 69, 76, 69, 84, 69] hy
  go_wp2_with fail
  refine k3.mono ?_
  rintro q w4 ⟨rfl, hP4, hO4⟩
  have HC4 : Hid (Sb S b p c ws (w.heap.size + 1) w0 w4 Sm.new (takeP s)) := HC3.out.calls hO4 hP4
  clear k3 hP4 hO4 HC3
  have k4 := deletion_any HC4.out.self hz hl g1
  go_wp2_with fail
  refine k4.mono ?_
  rintro q w5 ⟨rfl, hB5, hG5⟩
  have D := HC4.out.trans hB5
  clear k4 hB5 HC4
  obtain ⟨R, hr, hx⟩ := D.row
  have hzr := (D.block w.heap.size (by omega) (by omega) (by omega)).trans HB0.out.2.2.2.1
  have hsz := D.size
  have HD : Hid (w5.heap[w.heap.size + 1]? = some (.cells (stA R) 62 (0, 0)) /\ w5.heap[w.heap.size]? = some (.cells #[.int .i64 0, .string ⟨#[]⟩, .string ⟨#[]⟩, .int .i64 0, .string ⟨#[]⟩, .int .i64 0, .bool false, .int .i64 0, .string ⟨#[]⟩, .slice none 0 0, .slice none 0 0, .slice none 0 0, .slice none 0 0, .slice none 0 0, .slice none 0 0, .int .i64 0, .string ⟨#[]⟩, .int .i64 0, .bool false, .int .i64 0, .string ⟨#[]⟩, .slice none 0 0, .slice none 0 0, .slice none 0 0, .slice none 0 0, .slice none 0 0, .bool false, .bool false, .string ⟨#[]⟩, .bool false, .int .i64 (0)] 62 (0, 0)) /\ (stA R).all (·.oneCell') = true /\ Sx w5 S R (delF ws Sm.new (takeP s)).1 /\ Sb S b p c ws (w.heap.size + 1) w0 w5 (delF ws Sm.new (takeP s)).1 (delF ws Sm.new (takeP s)).2) := ⟨hr, hzr, hx.ones, hx, D⟩
  obtain ⟨A, hA⟩ : ∃ A, stA R = A := ⟨_, rfl⟩
  have HA : Hid (stA R = A) := hA
  have h31 : Hid (A.size = 31) := by
    have h : A.size = 31 := by rw [<- hA]; rfl
    exact h
  rw [hA] at HD
  clear D hr hx hzr hw0 hA
  go_wp2_with (first | (refine wpList_get rfl 62 (.tmp 3) rfl rfl HD.out.1 Tryz.underlying62 rfl (info30.trans (congrArg some h31.out.symm)) ?_; simp only [Act.put, List.setIfInBounds_toArray, List.set_cons_zero, List.set_cons_succ]) | (refine wpList_put rfl 62 (.tmp 2) (.tmp 32) rfl rfl rfl rfl HD.out.2.1 h31.out (info30.trans (congrArg some h31.out.symm)) HD.out.2.2.1 ?_) | fail)
  obtain ⟨hr, hzr, hon, hx, D⟩ := HD.out
  refine bodyPost_ret (results_cell_row Tryz.results54 _ _ w.heap.size 62 _ (0, 0) _ rfl (put_row A hzr h31.out) Tryz.underlying62 rfl (info30.trans (congrArg some h31.out.symm))) rfl ⟨R, by rw [HA.out], ?_, D.ps.put lb hold A, ?_, hG5⟩
  . rw [HB0.out.2.2.2.2] at hx
    exact (hx.since (Since.put (by omega) _ _)).imp fun k hk _ => by omega
  . have hO : Onl b w w5 := by
      have hb0 := HB0.out.2.1
      exact ⟨D.os.trans hb0.os, D.tape.trans hb0.tape, D.output.trans hb0.output, by omega, fun k hk kb => (D.block k (by omega) kb (by omega)).trans (hb0.block k hk)⟩
    exact hO.put _ (Nat.le_refl _) A
end Go.Proofs.YtfemippjaokcmaaGreatDoor
