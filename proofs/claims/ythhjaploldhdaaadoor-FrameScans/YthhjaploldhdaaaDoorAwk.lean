/- A frame there and back (awake): the call returns true, and nothing that was there has changed. -/
import Derived.Test.YthhjaploldhdaaaDoorScn
import Derived.Test.YthhjaploldhdaaaDoorFrm
namespace Go.Proofs.YthhjaploldhdaaaDoor
open Go Go.RowKit
theorem ownsRow_cell {w : World} {base : Nat} {e : TypeId} {size n : Nat} {v : Value} {xs : List Value} (h : w.ownsRow base e size v n xs) (hn : 0 < n) :
    ∃ g cap, v = .slice (some ⟨g, 0, none⟩) n cap ∧ base ≤ g ∧ n ≤ cap ∧ cap ≤ maxLen ∧ ∀ j u, xs[j]? = some u → w.cell? ⟨g, j, none⟩ = some u := by
  rcases h.2 with ⟨_, h0⟩ | ⟨g, cap, cur, rfl, hb, hcur, h1, h2, h3, h4⟩
  · omega
  · refine ⟨g, cap, rfl, hb, h1, h2, fun j u hu => ?_⟩
    have hj : j < n * size := by rw [← h.1]; exact (List.getElem?_eq_some_iff.1 hu).1
    rw [cell_of_row w g j cur e _ hcur]
    rw [← h4, List.getElem?_take_of_lt hj] at hu
    simpa using hu
def tx : List UInt8 := [116, 101, 120, 116]
set_option maxHeartbeats 1000000 in
theorem awake_any (w : World) (hG : GL w) :
    Calls Tryd.prog 7 #[] w fun e w' => e = .returned (.bool true) ∧ Below w.heap.size w w' := by
  have HM := make_any ⟨#[116, 101, 120, 116]⟩ (by decide) w hG
  have hfl : (frameL tx).length = 16 := rfl
  go_enter Tryd.func7, Tryd.ntmps7
  go_wp2_with fail
  refine HM.mono ?_
  rintro e w1 ⟨rfl, hb1⟩
  have hG1 := hG.later rfl hb1
  obtain ⟨f, hf⟩ : ∃ f : ByteArray, (⟨(frameL tx).toArray⟩ : ByteArray) = f := ⟨_, rfl⟩
  have hfs : f.size = 16 := by rw [← hf]; rfl
  have hfd : f.data.toList = frameL tx := by rw [← hf]
  have HS := scan_any f (by omega) w1 hG1
  rw [hfd, scan_one tx (by decide)] at HS
  have HC := fun (w' : World) (h' : GL w') => check_any ⟨#[49, 50, 51, 52, 53, 54, 55, 56, 57]⟩ (by decide) w' h'
  have e9 : n32 (checkB (⟨#[49, 50, 51, 52, 53, 54, 55, 56, 57]⟩ : ByteArray).data.toList) = 3421780262 := by rw [check_nine]; rfl
  rw [e9] at HC
  rw [show (⟨(frameL (⟨#[116, 101, 120, 116]⟩ : ByteArray).data.toList).toArray⟩ : ByteArray) = f from hf]
  clear hf hfd HM e9 hfl
  go_wp2_with fail
  refine HS.mono ?_
  rintro e w2 ⟨v, rfl, hrow, hb2⟩
  obtain ⟨g, cap, rfl, hgb, hcap, hmax, hcell⟩ := ownsRow_cell hrow (by decide)
  have c1 := hcell 1 _ rfl
  have c2 := hcell 2 _ rfl
  have hG2 := hG1.later rfl hb2
  clear HS hrow hcell
  have hl : lastOf [(⟨12, tx, true⟩ : Fr)] = 16 := rfl
  rw [hl]
  have hc1 : 0 < cap := hcap
  go_wp2_with (go_at_call 8; refine (HC _ hG2).mono ?_; rintro e w' ⟨rfl, rfl⟩)
  go_ret
  exact ⟨rfl, hb1.trans (hb2.mono hb1.size)⟩
end Go.Proofs.YthhjaploldhdaaaDoor
