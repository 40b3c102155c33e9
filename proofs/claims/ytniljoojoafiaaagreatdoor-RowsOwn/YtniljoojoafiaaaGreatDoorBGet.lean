/- A key's value: get of a node. -/
import Derived.Test.YtniljoojoafiaaaGreatDoorXab
namespace Go.Proofs.YtniljoojoafiaaaGreatDoor.B
open Go.RowKit Go.Shelf
set_option maxRecDepth 100000 in
theorem getT_succ (h : Nat) (t : Nd (h + 1)) (key : ByteArray) : getT (h + 1) t key = if isK t.1 key then ((t.1[posK t.1 key]!).2, true) else getT h (t.2.getD (posK t.1 key) (dflt h)) key := rfl
set_option maxRecDepth 100000 in
theorem below_set2 {B X : Nat} {v w : World} (hb : Below B v w) (h : B ≤ X) (x y : Value) : Below B v ((w.setCell ⟨X, 0, none⟩ x).setCell ⟨X, 1, none⟩ y) :=
  (hb.setCell (p := ⟨X, 0, none⟩) h _).setCell (p := ⟨X, 1, none⟩) h _
set_option maxRecDepth 100000 in
theorem set2_row {w : World} {X : Nat} {x y : Value} {t : TypeId} (h : w.heap[X]? = some (.cells #[x, y] t (0, 0))) (a b : Value) :
    ((w.setCell ⟨X, 0, none⟩ a).setCell ⟨X, 1, none⟩ b).heap[X]? = some (.cells #[a, b] t (0, 0)) := by
  have h1 := heap_setCell_same w X 0 _ t a h
  exact heap_setCell_same _ X 1 _ t b h1
set_option maxRecDepth 100000 in
set_option maxHeartbeats 4000000 in
theorem get_any (h : Nat) (t : Nd h) (ok : Ok h t) (key : ByteArray) (v : Value) (w : World) (hL : Lies w h t v) :
    Calls Tryz.prog 56 #[v, .string key] w fun e w' => e = .returned (.tuple #[.string (getT h t key).1, .bool (getT h t key).2]) ∧ Below w.heap.size w w' := by
  obtain ⟨p, c, q, d, L, rfl, hS, hK⟩ := hL.form
  obtain ⟨G, hG⟩ : ∃ G, getT h t key = G := ⟨_, rfl⟩
  rw [hG]
  have hrow := heap_alloc_new w (.cells #[.slice p (its h t).length c, .slice q (kdn h t) d] 108)
  have hb0 : Below w.heap.size w (w.alloc (.cells #[.slice p (its h t).length c, .slice q (kdn h t) d] 108)) := (Below.refl _ w).alloc (Nat.le_refl _) _
  have HL : Hid (Lies w h t (.agg #[.slice p (its h t).length c, .slice q (kdn h t) d])) := hL
  have HO : Hid (Ok h t) := ok
  have HG : Hid (getT h t key = G) := hG
  clear hL ok hG hS hK
  have HW : Hid ((w.alloc (.cells #[.slice p (its h t).length c, .slice q (kdn h t) d] 108)).heap[w.heap.size]? = some (.cells #[.slice p (its h t).length c, .slice q (kdn h t) d] 108 (0, 0))) := hrow
  clear hrow
  go_enter Tryz.func56, Tryz.ntmps56
  go_wp2
  go_loopg [6, 7] h (fun k _ _ wr => ∃ (t' : Nd k) (p' : Option Addr) (c' : Nat) (q' : Option Addr) (d' : Nat),
    Hid (wr.heap[w.heap.size]? = some (.cells #[.slice p' (its k t').length c', .slice q' (kdn k t') d'] 108 (0, 0))) ∧ Hid (Lies w k t' (.agg #[.slice p' (its k t').length c', .slice q' (kdn k t') d'])) ∧ Hid (Ok k t') ∧ Hid (getT k t' key = G) ∧ Below w.heap.size w wr)
  case atStart => exact ⟨t, p, c, q, d, HW, HL, HO, HG, hb0⟩
  case round =>
    clear HL HO HG HW hb0
    obtain ⟨t', p', c', q', d', HW, HL, HO, HG, hB⟩ := hrel
    obtain ⟨p2, c2, q2, d2, L, e1, hS, hK⟩ := (HL.out.later hB).form
    injection e1 with e1
    obtain ⟨rfl, rfl⟩ : (p' = p2 ∧ c' = c2) := by simp at e1; exact ⟨e1.1.1, e1.1.2⟩
    obtain ⟨rfl, rfl⟩ : (q' = q2 ∧ d' = d2) := by simp at e1; exact e1
    clear e1
    obtain ⟨hr, hn⟩ := HO.out.ris
    have hHs : w.heap.size < wr.heap.size := lt_of_row HW.out
    have kf := find_any _ hr (by omega) key p' c' q' (kdn gk t') d' wr hS
    have kl := fun W => leaf_any p' (its gk t').length c' q' (kdn gk t') d' W
    have z0 := cell_of_row wr w.heap.size 0 _ _ _ HW.out
    have z1 := cell_of_row wr w.heap.size 1 _ _ _ HW.out
    have f0 := frozen_of_row wr w.heap.size 0 _ _ HW.out
    have f1 := frozen_of_row wr w.heap.size 1 _ _ HW.out
    by_cases hh : isK (its gk t') key = true
    · have hg1 : G = (((its gk t')[posK (its gk t') key]!).2, true) := by
        rw [← HG.out]
        cases gk with
        | zero => unfold getT; rw [if_pos hh]
        | succ k => unfold getT; rw [if_pos (show isK t'.1 key = true from hh)]; rfl
      obtain ⟨b, o, rfl, hb, hc⟩ := hS.lies (by have := isK_lt hh; omega)
      obtain ⟨c1, c2⟩ := Sl.get hc (isK_lt hh)
      have hlt := isK_lt hh
      rw [hh] at kf
      obtain ⟨xs, hxs⟩ : ∃ xs, its gk t' = xs := ⟨_, rfl⟩
      obtain ⟨m, hm⟩ : ∃ m, kdn gk t' = m := ⟨_, rfl⟩
      rw [hxs] at kf z0 c1 c2 hlt hg1
      rw [hm] at kf z1
      obtain ⟨i, hi⟩ : ∃ i, posK xs key = i := ⟨_, rfl⟩
      rw [hi] at kf c1 c2 hlt hg1
      obtain ⟨y, hy⟩ : ∃ y, (xs[i]!).2 = y := ⟨_, rfl⟩
      rw [hy] at c2 hg1
      have HG1 : Hid (G = (y, true)) := hg1
      clear hg1 hy c1
      have hlt' : (i : Int) < (xs.length : Int) := by omega
      have hcap := hS.cap
      have hm : maxLen = 9223372036854775807 := rfl
      clear HL HO HG HW hS hK kl hh hxs hr hn hc hi
      go_wp2_with fail
      refine kf.mono ?_
      rintro e w1 ⟨rfl, hb1⟩
      have z0' := (cell_later hb1 hHs).trans z0
      have c2' := (cell_later hb1 hb).trans c2
      go_wp2
      refine bodyPost_ret (results_tmp2 rfl _ _ _) rfl ⟨?_, hB.trans (hb1.mono hB.size)⟩
      rw [HG1.out]
      rfl
    · have hh0 : isK (its gk t') key = false := by simpa using hh
      rw [hh0] at kf
      cases gk with
      | zero =>
        have hg1 : G = (⟨#[]⟩, false) := by rw [← HG.out]; unfold getT; rw [if_neg hh]
        have HG1 : Hid (G = (⟨#[]⟩, false)) := hg1
        clear hg1
        have hm0 : kdn 0 t' = 0 := rfl
        rw [hm0] at kl kf z1
        obtain ⟨xs, hxs⟩ : ∃ xs, its 0 t' = xs := ⟨_, rfl⟩
        rw [hxs] at kf z0 kl
        clear HL HO HG HW hS hK hh hxs hr hn hh0 hm0
        go_wp2_with fail
        refine kf.mono ?_
        rintro e w1 ⟨rfl, hb1⟩
        have z0' := (cell_later hb1 hHs).trans z0
        have z1' := (cell_later hb1 hHs).trans z1
        go_wp2_with fail
        refine (kl _).mono ?_
        rintro e w2 ⟨rfl, hb2⟩
        go_wp2
        refine bodyPost_ret (results_tmp2 rfl _ _ _) rfl ⟨by rw [HG1.out]; rfl, (hB.trans (hb1.mono hB.size)).trans (hb2.mono (Nat.le_trans hB.size hb1.size))⟩
      | succ k =>
        have hg1 : getT k (t'.2.getD (posK t'.1 key) (dflt k)) key = G := by
          rw [← HG.out, getT_succ, if_neg (show ¬ isK t'.1 key = true from hh)]
        obtain ⟨o1, o2, o3, o4⟩ := HO.out
        obtain ⟨p2, c2, q2, d2, L2, e1, hS2, hK20, hL2⟩ := HL.out
        have hK2 := hK20.later hB
        have hpos : posK t'.1 key < t'.2.length := by have := posK_le t'.1 key; omega
        have hm0 : kdn (k + 1) t' = t'.2.length := rfl
        have hlen : its (k + 1) t' = t'.1 := rfl
        rw [hm0, hlen] at kl kf
        rw [hm0] at z1 e1
        rw [hlen] at z0 e1
        injection e1 with e1
        obtain ⟨rfl, rfl⟩ : (p' = p2 ∧ c' = c2) := by simp at e1; exact ⟨e1.1.1, e1.1.2⟩
        obtain ⟨rfl, rfl⟩ : (q' = q2 ∧ d' = d2) := by simp at e1; exact e1
        clear e1
        obtain ⟨b, o, rfl, hb, hc⟩ := hK2.lies (by omega)
        have hL3 := hL2 _ hpos
        have o5 := (o4 _ hpos).1
        have hl2 := hK2.len
        obtain ⟨t2, ht2⟩ : ∃ t2, t'.2.getD (posK t'.1 key) (dflt k) = t2 := ⟨_, rfl⟩
        rw [ht2] at hg1 hL3 o5
        obtain ⟨p3, c3, q3, d3, L3, e3, hS3, hK3⟩ := hL3.form
        have y0 : L2[2 * posK t'.1 key]? = some (.slice p3 (its k t2).length c3) := by
          have : L2.getD (2 * posK t'.1 key) undef = .slice p3 (its k t2).length c3 := by simp at e3; exact e3.1
          rw [← this, List.getD_eq_getElem?_getD, List.getElem?_eq_getElem (by omega)]
          rfl
        have y1 : L2[2 * posK t'.1 key + 1]? = some (.slice q3 (kdn k t2) d3) := by
          have : L2.getD (2 * posK t'.1 key + 1) undef = .slice q3 (kdn k t2) d3 := by simp at e3; exact e3.2
          rw [← this, List.getD_eq_getElem?_getD, List.getElem?_eq_getElem (by omega)]
          rfl
        rw [e3] at hL3
        have x0 := hc _ _ y0
        have x1 := hc _ _ y1
        rw [show o + 2 * posK t'.1 key = o + posK t'.1 key * 2 by omega] at x0
        rw [show o + (2 * posK t'.1 key + 1) = o + posK t'.1 key * 2 + 1 by omega] at x1
        obtain ⟨i, hi⟩ : ∃ i, posK t'.1 key = i := ⟨_, rfl⟩
        rw [hi] at kf x0 x1 hpos
        obtain ⟨n, hn2⟩ : ∃ n, t'.1.length = n := ⟨_, rfl⟩
        obtain ⟨m, hm2⟩ : ∃ n, t'.2.length = n := ⟨_, rfl⟩
        rw [hn2] at z0 kf kl
        rw [hm2] at z1 kf kl hpos
        have hm1 : ¬ m = 0 := by omega
        rw [decide_eq_false hm1] at kl
        have hcap := hK2.cap
        rw [hm2] at hcap
        have hmx : maxLen = 9223372036854775807 := rfl
        have hpos' : (i : Int) < (m : Int) := by omega
        have HL3 : Hid (Lies w k t2 (.agg #[.slice p3 (its k t2).length c3, .slice q3 (kdn k t2) d3])) := hL3
        have HO3 : Hid (Ok k t2) := o5
        have HG3 : Hid (getT k t2 key = G) := hg1
        obtain ⟨n3, hn3⟩ : ∃ n, (its k t2).length = n := ⟨_, rfl⟩
        obtain ⟨m3, hm3⟩ : ∃ n, kdn k t2 = n := ⟨_, rfl⟩
        have HN3 : Hid ((its k t2).length = n3 ∧ kdn k t2 = m3) := ⟨hn3, hm3⟩
        rw [hn3] at x0
        rw [hm3] at x1
        have HWr := HW
        clear HL HO HG hS hK hh hr hn hh0 hm0 hc y0 y1 hS3 hK3 hL3 o5 hg1 hL2 o4 o1 o2 o3 hn2 hm2 hi hlen hl2 hK2 hK20 hS2 e3 ht2 hn3 hm3 HW
        go_wp2_with fail
        refine kf.mono ?_
        rintro e w1 ⟨rfl, hb1⟩
        have z0' := (cell_later hb1 hHs).trans z0
        have z1' := (cell_later hb1 hHs).trans z1
        go_wp2_with fail
        refine (kl _).mono ?_
        rintro e w2 ⟨rfl, hb2⟩
        have hb12 := hb1.trans (hb2.mono hb1.size)
        have z0'' := (cell_later hb12 hHs).trans z0
        have z1'' := (cell_later hb12 hHs).trans z1
        have x0' := (cell_later hb12 hb).trans x0
        have x1' := (cell_later hb12 hb).trans x1
        have hrw2 := (hb12.block _ hHs).trans HWr.out
        have g0 := frozen_of_row w2 w.heap.size 0 _ _ hrw2
        have g1 := frozen_of_row w2 w.heap.size 1 _ _ hrw2
        have HW2 : Hid (w2.heap[w.heap.size]? = some (.cells #[.slice p' (its (k + 1) t').length c', .slice (some ⟨b, o, none⟩) (kdn (k + 1) t') d'] 108 (0, 0))) := hrw2
        clear hrw2 HWr
        go_wp2
        go_roundg k
        case measure => omega
        case rel =>
          refine ⟨t2, p3, c3, q3, d3, ?_, ?_, HO3, HG3, ?_⟩
          · unfold Hid
            rw [HN3.out.1, HN3.out.2]
            exact set2_row HW2.out _ _
          · exact HL3
          · exact below_set2 (hB.trans (hb12.mono hB.size)) (Nat.le_refl _) _ _
end Go.Proofs.YtniljoojoafiaaaGreatDoor.B
