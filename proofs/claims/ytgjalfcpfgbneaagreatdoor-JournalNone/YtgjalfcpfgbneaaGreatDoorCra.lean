/- A loss of power on a disk with one file of 150 bytes of which nothing is sure (Crash). -/
import Derived.Test.YtgjalfcpfgbneaaGreatDoorLse
import Derived.Test.YtgjalfcpfgbneaaGreatDoorUps
namespace Go.Proofs.YtgjalfcpfgbneaaGreatDoor
open Go.RowKit Go.Shelf
set_option maxRecDepth 100000 in
set_option maxHeartbeats 4000000 in
theorem crash_aw {w : World} {d m f g cap : Nat} {cur : Array Value} {sec used ch : Int} {p : Option Addr} {pc : Nat} (n : Int) (hI : I64 n) (h : Dk w d (.map (some m)) sec used ch (.slice p 0 pc) false) (hm : Mp w m 1 (D1 n (.lit (.int .u64 (f : Int))))) (hF : Fl w f (.slice (some ⟨g, 0, none⟩) 150 cap) 0 (.map none)) (hg : w.heap[g]? = some (.cells cur 5 (0, 0))) (hcs : cur.size = cap) (hcap : 150 ≤ cap ∧ cap ≤ maxLen)
    (hfg : f ≠ g) (hdf : d ≠ f) (hdg : d ≠ g) (hdm : d ≠ m) (hmf : m ≠ f) (hmg : m ≠ g) :
    Calls Tryz.prog 13 #[.pointer (some ⟨d, 0, none⟩), .int .u64 4, .int .i64 0] w fun e w' => e = .returned (.tuple #[]) ∧ Dk w' d (.map (some m)) sec 3 ch (.slice p 0 pc) true ∧ Fl w' f (.slice (some ⟨g, 0, none⟩) 150 cap) 150 (.map none) ∧ w'.heap[g]? = some (.cells (zerosC (zerosC cur 0 64) 64 64) 5 (0, 0)) ∧ Mp w' m 1 (D1 n (.lit (.int .u64 (f : Int)))) ∧ Chg (fun k => k = d ∨ k = f ∨ k = g) w w' := by
  have ltd := lt_of_row h
  have ltf := lt_of_row hF
  have ltg := lt_of_row hg
  have ltm := hm.lt
  obtain ⟨w1, hw1⟩ : ∃ w1, w.alloc (.cells #[.int .u64 4, .int .i64 0, .int .i64 0] 90) = w1 := ⟨_, rfl⟩
  have hb1 : Below w.heap.size w w1 := by rw [← hw1]; exact (Below.refl _ w).alloc (Nat.le_refl _) _
  have s1 : w1.heap.size = w.heap.size + 1 := by rw [← hw1]; simp
  have l1 : Ls w1 w.heap.size 4 0 0 := by rw [← hw1]; exact heap_alloc_new _ _
  have h1 : Dk w1 d (.map (some m)) sec used ch (.slice p 0 pc) false := (hb1.block _ ltd).trans h
  obtain ⟨w2, hw2⟩ : ∃ w2, w1.setCell ⟨d, 2, none⟩ (.int .i64 0) = w2 := ⟨_, rfl⟩
  have h2 : Dk w2 d (.map (some m)) sec 0 ch (.slice p 0 pc) false := by rw [← hw2]; exact row_setCell (k := 2) h1 _
  have n2 : ∀ k, k ≠ d → w2.heap[k]? = w1.heap[k]? := fun k hk => by rw [← hw2]; exact Below.heap_setCell _ _ _ _ (by show k ≠ d; exact hk)
  have s2 : w2.heap.size = w.heap.size + 1 := by rw [← hw2]; simp [s1]
  have k2 : ∀ k, k < w.heap.size → k ≠ d → w2.heap[k]? = w.heap[k]? := fun k hk hd => (n2 k hd).trans (hb1.block k hk)
  have m2 : Mp w2 m 1 (D1 n (.lit (.int .u64 (f : Int)))) := mp_kept hm (k2 _ ltm hdm.symm)
  have F2 : Fl w2 f (.slice (some ⟨g, 0, none⟩) 150 cap) 0 (.map none) := (k2 _ ltf hdf.symm).trans hF
  have g2 := (k2 _ ltg hdg.symm).trans hg
  have l2 : Ls w2 w.heap.size 4 0 0 := (n2 _ (by omega)).trans l1
  have kd := dead_any w h
  have kf := files_one n _ h2 m2
  obtain ⟨c0, c1, c2, c3, c4, c5⟩ := h1.cells
  have f2 := h1.fro 2
  have HX : Hid (w.alloc (.cells #[.int .u64 4, .int .i64 0, .int .i64 0] 90) = w1 ∧ w1.setCell ⟨d, 2, none⟩ (.int .i64 0) = w2) := ⟨hw1, hw2⟩
  have C2 : Chg (fun k => k = d ∨ k = f ∨ k = g) w w2 := by
    rw [← hw2]
    exact ⟨hb1.os, hb1.tape, hb1.output, by simp; exact hb1.size, fun k hk hn => by rw [hw2]; exact k2 k hk (fun e => hn (Or.inl e))⟩
  clear hw1 hw2
  go_enter Tryz.func13, Tryz.ntmps13
  go_wp2_with fail
  refine kd.mono ?_
  rintro e wd ⟨rfl, hwd⟩
  rw [hwd]
  clear hwd
  go_wp2_with (first | rw [HX.out.1] | rw [HX.out.2] | fail)
  refine kf.mono ?_
  rintro e w3 ⟨⟨q, c, rfl, hq0, hq, hc1, hc2⟩, hb3⟩
  have h3 : Dk w3 d (.map (some m)) sec 0 ch (.slice p 0 pc) false := (hb3.block _ (lt_of_row h2)).trans h2
  have m3 : Mp w3 m 1 (D1 n (.lit (.int .u64 (f : Int)))) := mp_kept m2 (hb3.block _ m2.lt)
  have F3 : Fl w3 f (.slice (some ⟨g, 0, none⟩) 150 cap) 0 (.map none) := (hb3.block _ (lt_of_row F2)).trans F2
  have g3 := (hb3.block _ (lt_of_row g2)).trans g2
  have l3 : Ls w3 w.heap.size 4 0 0 := (hb3.block _ (lt_of_row l2)).trans l2
  have C3 : Chg (fun k => k = d ∨ k = f ∨ k = g) w w3 := C2.trans (S' := fun _ => False) ⟨hb3.os, hb3.tape, hb3.output, hb3.size, fun k hk _ => hb3.block k hk⟩ (fun k hk => hk.elim)
  clear kd kf c0 c1 c2 c3 c4 c5 f2
  go_wp2
  go_loopw [22] (fun v22 wr => (v22 = .int .i64 0 ∧ wr = w3) ∨ (v22 = .int .i64 1 ∧ Dk wr d (.map (some m)) sec 3 ch (.slice p 0 pc) false ∧ Fl wr f (.slice (some ⟨g, 0, none⟩) 150 cap) 150 (.map none) ∧ wr.heap[g]? = some (.cells (zerosC (zerosC cur 0 64) 64 64) 5 (0, 0)) ∧ Mp wr m 1 (D1 n (.lit (.int .u64 (f : Int)))) ∧ Chg (fun k => k = d ∨ k = f ∨ k = g) w wr)) (fun v22 _ => (1 - intOf v22).toNat)
  case atStart => exact Or.inl ⟨rfl, rfl⟩
  case round =>
    rcases hrel with ⟨rfl, hw⟩ | ⟨rfl, h5, F5, g5, m5, C5⟩
    · rw [hw]
      clear hw
      have hlk := m3.look hI (at_one n _)
      obtain ⟨c0, c1, c2, c3, c4, c5⟩ := h3.cells
      have kl := lose_aw F3 g3 hcs hcap l3 hfg (by omega) (by omega)
      go_wp2_with fail
      refine kl.mono ?_
      rintro e w4 ⟨rfl, F4, g4, C4⟩
      have h4 : Dk w4 d (.map (some m)) sec 0 ch (.slice p 0 pc) false := (C4.block _ (lt_of_row h3) (by omega)).trans h3
      have m4 : Mp w4 m 1 (D1 n (.lit (.int .u64 (f : Int)))) := mp_kept m3 (C4.block _ m3.lt (by omega))
      obtain ⟨d0, d1, d2, d3, d4, d5⟩ := h4.cells
      obtain ⟨e0, e1, e2⟩ := F4.cells
      have f2 := h4.fro 2
      have hsec := fun w => sectors_any 150 (by omega) (by omega) w
      rw [show secN 150 = 3 from by decide] at hsec
      clear kl hlk c0 c1 c2 c3 c4 c5
      go_wp2_with fail
      go_region_law (go_simp; go_at_call 38; refine (hsec _).mono ?_; rintro e w5 ⟨rfl, rfl⟩; dsimp only)
      all_goals
        have hw3 : IntKind.i64.wrap 3 = 3 := by decide
        rw [hw3]
        obtain ⟨w6, hw6⟩ : ∃ w6, (w4.setCell ⟨d, 2, none⟩ (.int .i64 3)).drew = w6 := ⟨_, rfl⟩
        rw [hw6]
        have h6 : Dk w6 d (.map (some m)) sec 3 ch (.slice p 0 pc) false := by rw [← hw6]; exact row_setCell (k := 2) h4 _
        have n6 : ∀ k, k ≠ d → w6.heap[k]? = w4.heap[k]? := fun k hk => by rw [← hw6]; exact Below.heap_setCell _ _ _ _ (by show k ≠ d; exact hk)
        have C6 : Chg (fun k => k = d ∨ k = f ∨ k = g) w w6 := by
          have a1 : Chg (fun k => k = d ∨ k = f ∨ k = g) w w4 := C3.trans C4 (fun k hk => by
            rcases hk with rfl | rfl | rfl
            · exact Or.inl (Or.inr (Or.inl rfl))
            · exact Or.inl (Or.inr (Or.inr rfl))
            · exact Or.inr (Nat.le_refl _))
          refine a1.trans (S' := fun k => k = d) ?_ (fun k hk => Or.inl (Or.inl hk))
          rw [← hw6]
          exact ⟨rfl, rfl, rfl, by simp [World.drew], fun k hk hn => (by rw [hw6]; exact n6 k hn)⟩
        clear hw6 d0 d1 d2 d3 d4 d5 e0 e1 e2 f2
        go_wp2
        go_roundw
        case rel => exact Or.inr ⟨by go_num, h6, (n6 f hdf.symm).trans F4, (n6 g hdg.symm).trans g4, mp_kept m4 (n6 m hdm.symm), C6⟩
        case measure => simp [intOf]
    · obtain ⟨c0, c1, c2, c3, c4, c5⟩ := h5.cells
      have f5 := h5.fro 5
      go_wp2
      refine bodyPost_end (results_none Tryz.results13 _ _ _) rfl ⟨rfl, row_setCell (k := 5) h5 _, (Below.heap_setCell _ _ _ _ (by show f ≠ d; exact hdf.symm)).trans F5, (Below.heap_setCell _ _ _ _ (by show g ≠ d; exact hdg.symm)).trans g5, mp_kept m5 (Below.heap_setCell _ _ _ _ (by show m ≠ d; exact hdm.symm)), ?_⟩
      exact C5.trans (S' := fun k => k = d) ⟨rfl, rfl, rfl, by simp, fun k hk hn => Below.heap_setCell _ _ _ _ (by show k ≠ d; exact hn)⟩ (fun k hk => Or.inl (Or.inl hk))
end Go.Proofs.YtgjalfcpfgbneaaGreatDoor
