/- One more within those that are being parsed (deeper), and back. -/
import Derived.Test.YthgagldpjledgaaGreatDoorWho
namespace Go.Proofs.YthgagldpjledgaaGreatDoor
open Go.RowKit Go.Shelf
attribute [local go_sem] Oper.semAt_some fw0 fw1 fw2
def deepP (ws : List Wd) (s : PS) : PS := if 24 < s.ne + 1 then failP ws { s with ne := s.ne + 1 } 3 else { s with ne := s.ne + 1 }
def backP (s : PS) : PS := { s with ne := s.ne - 1 }
set_option maxRecDepth 100000 in
set_option maxHeartbeats 4000000 in
theorem deeper_any {w : World} {b : Nat} {p : Option Addr} {c : Nat} {ws : List Wd} {s : PS} (H : Ps w b p c ws s) (hne : s.ne ≤ 1000000) :
    Calls Tryz.prog 132 #[.pointer (some ⟨b, 0, none⟩)] w fun r w' => r = .returned (.func (.func 150) #[.pointer (some ⟨b, 0, none⟩)] #[]) ∧ Ps w' b p c ws (deepP ws s) ∧ Onl b w w' := by
  have hmf : ∀ (fn : Fn) (first cap : Array Value) (w : World), (Instr.makeFunc fn first cap).run Tryz.prog w = .ok (.func fn first cap) w := fun _ _ _ _ => rfl
  have r0 := H.row
  unfold psRow at r0
  obtain ⟨x, hx⟩ : ∃ x, s.ne = x := ⟨_, rfl⟩
  rw [hx] at r0 hne
  have c3 := cell_of_row w _ 3 _ _ _ r0
  have f3 := frozen_of_row w _ 3 _ _ r0
  have hw1 : wrap64 ((x : Int) + 1) = (x : Int) + 1 := by unfold wrap64; omega
  obtain ⟨w3, hw3⟩ : ∃ w3, w.setCell ⟨b, 3, none⟩ (.int .i64 ((x : Int) + 1)) = w3 := ⟨_, rfl⟩
  have r3 : w3.heap[b]? = some (.cells #[.slice p ws.length c, .int .i64 (s.at' : Int), .int .i64 (s.ex : Int), .int .i64 ((x : Int) + 1), .int .i64 (s.er : Int), .int .i64 (s.pl : Int)] 54 (0, 0)) := by rw [← hw3]; exact heap_setCell_same _ _ 3 _ _ _ r0
  have ho3 : Onl b w w3 := by rw [← hw3]; exact (Onl.of (Below.refl _ _)).setCell 3 _
  have P3 : Ps w3 b p c ws { s with ne := s.ne + 1 } := H.upd ho3 (by rw [r3]; unfold psRow; rw [hx]; rfl) H.lt
  have d3 := cell_of_row w3 _ 3 _ _ _ r3
  have HP3 : Hid (Ps w3 b p c ws { s with ne := s.ne + 1 }) := P3
  have HO3 : Hid (Onl b w w3) := ho3
  unfold deepP
  rw [hx]
  rw [hx] at HP3
  by_cases hm : 24 < x + 1
  · rw [if_pos hm]
    have hm' : (24 : Int) < (x : Int) + 1 := by omega
    have kf := fail_any HP3.out 3
    clear H P3 ho3 r0 hm
    go_enter Tryz.func132, Tryz.ntmps132
    go_wp2_with fail
    refine kf.mono ?_
    rintro q w4 ⟨rfl, hP4, hO4⟩
    have HP : Hid (Ps w4 b p c ws (failP ws { s with ne := x + 1 } 3) ∧ Onl b w w4) := ⟨hP4, HO3.out.trans hO4⟩
    clear kf hP4 hO4 hw3 r3 d3 c3 f3
    go_wp2
    go_ret
    exact ⟨rfl, HP.out.1, HP.out.2⟩
  · rw [if_neg hm]
    have hm' : ¬ (24 : Int) < (x : Int) + 1 := by omega
    clear H P3 ho3 r0 hm
    go_enter Tryz.func132, Tryz.ntmps132
    go_wp2
    go_ret
    exact ⟨rfl, HP3.out, HO3.out⟩
set_option maxRecDepth 100000 in
set_option maxHeartbeats 4000000 in
theorem back_d {w : World} {b : Nat} {p : Option Addr} {c : Nat} {ws : List Wd} {s : PS} (H : Ps w b p c ws s) (h0 : 0 < s.ne) (hne : s.ne ≤ 1000000) (u : FrameMode) :
    CallsD Tryz.prog 150 #[.pointer (some ⟨b, 0, none⟩)] u w fun e u' w' => u' = u ∧ (e = .returned (.tuple #[]) ∧ Ps w' b p c ws (backP s) ∧ Onl b w w') := by
  have r0 := H.row
  unfold psRow at r0
  obtain ⟨x, hx⟩ : ∃ x, s.ne = x := ⟨_, rfl⟩
  rw [hx] at r0 hne h0
  have c3 := cell_of_row w _ 3 _ _ _ r0
  have f3 := frozen_of_row w _ 3 _ _ r0
  have hw1 : wrap64 ((x : Int) - 1) = (x : Int) - 1 := by unfold wrap64; omega
  obtain ⟨w3, hw3⟩ : ∃ w3, w.setCell ⟨b, 3, none⟩ (.int .i64 ((x : Int) - 1)) = w3 := ⟨_, rfl⟩
  have r3 : w3.heap[b]? = some (.cells #[.slice p ws.length c, .int .i64 (s.at' : Int), .int .i64 (s.ex : Int), .int .i64 ((x : Int) - 1), .int .i64 (s.er : Int), .int .i64 (s.pl : Int)] 54 (0, 0)) := by rw [← hw3]; exact heap_setCell_same _ _ 3 _ _ _ r0
  have ho3 : Onl b w w3 := by rw [← hw3]; exact (Onl.of (Below.refl _ _)).setCell 3 _
  have P3 : Ps w3 b p c ws (backP s) := H.upd ho3 (by rw [r3]; unfold psRow backP; rw [hx]; simp only [Int.natCast_sub (show 1 ≤ x by omega)]; rfl) H.lt
  have HP3 : Hid (Ps w3 b p c ws (backP s)) := P3
  have HO3 : Hid (Onl b w w3) := ho3
  clear H P3 ho3 r0
  go_enter_d Tryz.func150, Tryz.ntmps150
  go_wp2
  go_end0
  exact ⟨rfl, HP3.out, HO3.out⟩
end Go.Proofs.YthgagldpjledgaaGreatDoor
