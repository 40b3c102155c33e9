/- The highest key of a node and those below it (last). -/
import Derived.Test.YtiplmlalhmldbaaDlm
import Derived.Test.YtiplmlalhmldbaaGet
namespace Go.Proofs.Ytiplmlalhmldbaa
open Go.RowKit Go.Shelf
set_option maxRecDepth 100000 in
set_option maxHeartbeats 4000000 in
theorem last_any (h : Nat) (t : Nd h) (B : Bal h t) (hn : 0 < (its h t).length) (h50 : (its h t).length ≤ 50) (v : Value) (w : World) (hL : Lies w h t v) :
    Calls Try.prog 35 #[v] w fun e w' => e = .returned (.agg #[.string (lastT h t).1, .string (lastT h t).2]) ∧ Below w.heap.size w w' := by
  obtain ⟨p, c, q, d, L, rfl, hS, hK⟩ := hL.form
  obtain ⟨G, hG⟩ : ∃ G, lastT h t = G := ⟨_, rfl⟩
  rw [hG]
  obtain ⟨w2, hw2⟩ : ∃ w2, (w.alloc (.cells #[.slice p (its h t).length c, .slice q (kdn h t) d] 59)).alloc (.cells #[.string ⟨#[]⟩, .string ⟨#[]⟩] 66) = w2 := ⟨_, rfl⟩
  have hb0 : Below w.heap.size w w2 := by rw [← hw2]; exact ((Below.refl _ w).alloc (Nat.le_refl _) _).alloc (by simp) _
  have r0 : w2.heap[w.heap.size]? = some (.cells #[.slice p (its h t).length c, .slice q (kdn h t) d] 59 (0, 0)) := by
    rw [← hw2, Below.heap_alloc _ _ _ (by simp)]; exact heap_alloc_new _ _
  have r1 : w2.heap[w.heap.size + 1]? = some (.cells #[.string ⟨#[]⟩, .string ⟨#[]⟩] 66 (0, 0)) := by
    rw [← hw2]
    have := heap_alloc_new (w.alloc (.cells #[.slice p (its h t).length c, .slice q (kdn h t) d] 59)) (.cells #[.string ⟨#[]⟩, .string ⟨#[]⟩] 66)
    simpa using this
  have HL : Hid (Lies w h t (.agg #[.slice p (its h t).length c, .slice q (kdn h t) d])) := hL
  have HO : Hid (Bal h t ∧ 0 < (its h t).length ∧ (its h t).length ≤ 50) := ⟨B, hn, h50⟩
  have HG : Hid (lastT h t = G) := hG
  have HW : Hid (w2.heap[w.heap.size]? = some (.cells #[.slice p (its h t).length c, .slice q (kdn h t) d] 59 (0, 0))) := r0
  have HV : Hid (w2.heap[w.heap.size + 1]? = some (.cells #[.string ⟨#[]⟩, .string ⟨#[]⟩] 66 (0, 0))) := r1
  clear hL B hn h50 hG hS hK r0 r1
  go_enter Try.func35, Try.ntmps35
  go_wp2
  go_loopg [3] h (fun k _ wr => ∃ (t' : Nd k) (p' : Option Addr) (c' : Nat) (q' : Option Addr) (d' : Nat),
    Hid (wr.heap[w.heap.size]? = some (.cells #[.slice p' (its k t').length c', .slice q' (kdn k t') d'] 59 (0, 0))) ∧ Hid (wr.heap[w.heap.size + 1]? = some (.cells #[.string ⟨#[]⟩, .string ⟨#[]⟩] 66 (0, 0))) ∧ Hid (Lies w k t' (.agg #[.slice p' (its k t').length c', .slice q' (kdn k t') d'])) ∧ Hid (Bal k t' ∧ 0 < (its k t').length ∧ (its k t').length ≤ 50) ∧ Hid (lastT k t' = G) ∧ Below w.heap.size w wr)
  case atStart => exact ⟨t, p, c, q, d, HW, HV, HL, HO, HG, hb0⟩
  case round =>
    clear HL HO HG HW HV hb0
    obtain ⟨t', p', c', q', d', HW, HV, HL, HO, HG, hB⟩ := hrel
    have hHs : w.heap.size + 1 < wr.heap.size := lt_of_row HV.out
    have kl := fun W => leaf_any p' (its gk t').length c' q' (kdn gk t') d' W
    have z0 := cell_of_row wr w.heap.size 0 _ _ _ HW.out
    have z1 := cell_of_row wr w.heap.size 1 _ _ _ HW.out
    have f0 := frozen_of_row wr w.heap.size 0 _ _ HW.out
    have f1 := frozen_of_row wr w.heap.size 1 _ _ HW.out
    cases gk with
    | zero =>
      obtain ⟨p2, c2, q2, d2, e1, hS2, hK20⟩ := HL.out
      have hm0 : kdn 0 t' = 0 := rfl
      rw [hm0] at kl z1 e1
      injection e1 with e1
      obtain ⟨rfl, rfl⟩ : (p' = p2 ∧ c' = c2) := by simp at e1; exact ⟨e1.1.1, e1.1.2⟩
      obtain ⟨rfl, rfl⟩ : (q' = q2 ∧ d' = d2) := by simp at e1; exact e1
      clear e1
      obtain ⟨-, o1, o2⟩ := HO.out
      obtain ⟨b, o, rfl, hb, hc⟩ := hS2.lies o1
      have hg1 : (its 0 t')[(its 0 t').length - 1]! = G := HG.out
      have hcap := hS2.cap
      obtain ⟨n, hn⟩ : ∃ n, (its 0 t').length = n + 1 := ⟨(its 0 t').length - 1, by omega⟩
      obtain ⟨c1, c2⟩ := itC_at (its 0 t') n (by omega)
      have x1 := (cell_later hB hb).trans (hc _ _ c1)
      have x2 := (cell_later hB hb).trans (hc _ _ c2)
      rw [hn, Nat.add_sub_cancel] at hg1
      rw [hg1] at x1 x2
      rw [hn] at kl z0 hcap
      rw [show o + 2 * n = o + n * 2 by omega] at x1
      rw [show o + (2 * n + 1) = o + n * 2 + 1 by omega] at x2
      have hmx : maxLen = 9223372036854775807 := rfl
      have y0 := cell_of_row wr _ 0 _ _ _ HV.out
      have y1 := cell_of_row wr _ 1 _ _ _ HV.out
      have g0 := frozen_of_row wr _ 0 _ _ HV.out
      have g1 := frozen_of_row wr _ 1 _ _ HV.out
      have hn50 : n ≤ 49 := by omega
      clear HL HO HG HW hS2 hK20 hg1 hm0 hc c1 c2 o1 o2 hn
      go_wp2_with fail
      refine (kl _).mono ?_
      rintro e w3 ⟨rfl, hb3⟩
      have z0' := (cell_later hb3 (by omega)).trans z0
      have x1' := (cell_later hb3 (Nat.lt_of_lt_of_le hb hB.size)).trans x1
      have x2' := (cell_later hb3 (Nat.lt_of_lt_of_le hb hB.size)).trans x2
      have hr3 := (hb3.block _ hHs).trans HV.out
      have y0 := cell_of_row w3 _ 0 _ _ _ hr3
      have y1 := cell_of_row w3 _ 1 _ _ _ hr3
      have g0 := frozen_of_row w3 _ 0 _ _ hr3
      have g1 := frozen_of_row w3 _ 1 _ _ hr3
      have hwn : IntKind.i64.wrap (((n + 1 : Nat) : Int) - 1) = (n : Int) := by rw [IntKind.wrap_i64]; omega
      have hwn2 : wrap64 (((n + 1 : Nat) : Int) - 1) = (n : Int) := by unfold wrap64; omega
      have hB3 := hB.trans (hb3.mono hB.size)
      clear z0 z1 f0 f1 x1 x2 kl
      go_wp2
      exact bodyPost_ret (results_cell_row Try.results35 _ _ (w.heap.size + 1) 66 _ (0, 0) _ rfl (set2_row hr3 _ _) Try.underlying66 rfl (by kernel_rfl)) rfl ⟨rfl, below_set2 hB3 (by omega) _ _⟩
    | succ k =>
      obtain ⟨o1, o2, o3⟩ := HO.out
      obtain ⟨p2, c2, q2, d2, L2, e1, hS2, hK20, hL2⟩ := HL.out
      have hK2 := hK20.later hB
      have hm0 : kdn (k + 1) t' = t'.2.length := rfl
      have hlen : its (k + 1) t' = t'.1 := rfl
      have hts : t'.2.length = t'.1.length + 1 := o1.1
      rw [hm0, hlen] at kl
      rw [hm0] at z1 e1
      rw [hlen] at z0 e1 o2 o3
      injection e1 with e1
      obtain ⟨rfl, rfl⟩ : (p' = p2 ∧ c' = c2) := by simp at e1; exact ⟨e1.1.1, e1.1.2⟩
      obtain ⟨rfl, rfl⟩ : (q' = q2 ∧ d' = d2) := by simp at e1; exact e1
      clear e1
      obtain ⟨b, o, rfl, hb, hc⟩ := hK2.lies (by omega)
      obtain ⟨i, hi⟩ : ∃ i, t'.1.length = i := ⟨_, rfl⟩
      have hL3 := hL2 i (by omega)
      have hg1 : lastT k (t'.2.getD i (dflt k)) = G := by
        rw [← HG.out]
        show _ = lastT k (t'.2.getD (t'.2.length - 1) (dflt k))
        rw [hts, Nat.add_sub_cancel, hi]
      have o5 := o1.2 _ (getD_mem (l := t'.2) (i := i) (by omega) (dflt k))
      have hl2 := hK2.len
      obtain ⟨t2, ht2⟩ : ∃ t2, t'.2.getD i (dflt k) = t2 := ⟨_, rfl⟩
      rw [ht2] at hg1 hL3 o5
      obtain ⟨p3, c3, q3, d3, L3, e3, hS3, hK3⟩ := hL3.form
      have y0 : L2[2 * i]? = some (.slice p3 (its k t2).length c3) := by
        have : L2.getD (2 * i) undef = .slice p3 (its k t2).length c3 := by simp at e3; exact e3.1
        rw [← this, List.getD_eq_getElem?_getD, List.getElem?_eq_getElem (by omega)]
        rfl
      have y1 : L2[2 * i + 1]? = some (.slice q3 (kdn k t2) d3) := by
        have : L2.getD (2 * i + 1) undef = .slice q3 (kdn k t2) d3 := by simp at e3; exact e3.2
        rw [← this, List.getD_eq_getElem?_getD, List.getElem?_eq_getElem (by omega)]
        rfl
      rw [e3] at hL3
      have x0 := hc _ _ y0
      have x1 := hc _ _ y1
      rw [show o + 2 * i = o + i * 2 by omega] at x0
      rw [show o + (2 * i + 1) = o + i * 2 + 1 by omega] at x1
      rw [hi] at z0 kl o3 hts
      have hcap := hK2.cap
      obtain ⟨m, hm2⟩ : ∃ n, t'.2.length = n := ⟨_, rfl⟩
      rw [hm2] at z1 kl hts hcap
      have hm1 : ¬ m = 0 := by omega
      rw [decide_eq_false hm1] at kl
      have hmx : maxLen = 9223372036854775807 := rfl
      have hpos' : (i : Int) < (m : Int) := by omega
      have HL3 : Hid (Lies w k t2 (.agg #[.slice p3 (its k t2).length c3, .slice q3 (kdn k t2) d3])) := hL3
      have HO3 : Hid (Bal k t2 ∧ 0 < (its k t2).length ∧ (its k t2).length ≤ 50) := ⟨o5.1, by omega, by omega⟩
      have HG3 : Hid (lastT k t2 = G) := hg1
      obtain ⟨n3, hn3⟩ : ∃ n, (its k t2).length = n := ⟨_, rfl⟩
      obtain ⟨m3, hm3⟩ : ∃ n, kdn k t2 = n := ⟨_, rfl⟩
      have HN3 : Hid ((its k t2).length = n3 ∧ kdn k t2 = m3) := ⟨hn3, hm3⟩
      rw [hn3] at x0
      rw [hm3] at x1
      have HWr := HW
      have HT : Hid (m = i + 1) := hts
      clear HL HO HG hm0 hc y0 y1 hS3 hK3 hL3 o5 hg1 hL2 o1 o2 o3 hm2 hi hlen hl2 hK2 hK20 hS2 e3 ht2 hn3 hm3 HW hts
      go_wp2_with fail
      refine (kl _).mono ?_
      rintro e w3 ⟨rfl, hb3⟩
      have hH0 : w.heap.size < wr.heap.size := by omega
      have z0' := (cell_later hb3 hH0).trans z0
      have z1' := (cell_later hb3 hH0).trans z1
      have him : i = m - 1 := by have := HT.out; omega
      have x0' := (cell_later hb3 hb).trans x0
      have x1' := (cell_later hb3 hb).trans x1
      rw [him] at x0' x1'
      clear him
      have hrw2 := (hb3.block _ hH0).trans HWr.out
      have g0 := frozen_of_row w3 w.heap.size 0 _ _ hrw2
      have g1 := frozen_of_row w3 w.heap.size 1 _ _ hrw2
      have hv2 := (hb3.block _ hHs).trans HV.out
      have hB3 := hB.trans (hb3.mono hB.size)
      clear z0 z1 x0 x1 f0 f1 kl
      go_wp2
      go_roundg k
      case measure => omega
      case rel =>
        refine ⟨t2, p3, c3, q3, d3, ?_, ?_, HL3, HO3, HG3, ?_⟩
        · unfold Hid
          rw [HN3.out.1, HN3.out.2]
          exact set2_row hrw2 _ _
        · unfold Hid
          rw [set2_other _ _ _ _ _ (by omega)]
          exact hv2
        · exact below_set2 hB3 (Nat.le_refl _) _ _
end Go.Proofs.Ytiplmlalhmldbaa
