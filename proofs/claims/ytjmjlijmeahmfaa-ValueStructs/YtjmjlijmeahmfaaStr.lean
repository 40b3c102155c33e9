/- A struct of names and parts (Struct), of up to 13 of each. -/
import Derived.Test.YtjmjlijmeahmfaaStrt
import Derived.Deep.CutRange
namespace Go.Proofs.Ytjmjlijmeahmfaa
open Go.RowKit
set_option maxRecDepth 100000 in
set_option maxHeartbeats 8000000 in
theorem struct_any {B : Nat} {w : World} {q nc nb no : Nat} {g : Nat → ByteArray} {m pc pb po : Nat} {f : Nat → Tr} {A : Nat → Ad} (n : Nat) (hn12 : n + 1 ≤ 13) (hqm : n + 1 = min q m) (hB : B ≤ w.heap.size)
    (hnb : nb < B) (hnc : ∀ i, i < q → w.cell? ⟨nb, no + i, none⟩ = some (.string (g i))) (hgs : ∀ i, i < q → (g i).size ≤ maxLen)
    (hpb : pb < B) (hat : ∀ i, i < m → At6 w pb (po + i * 6) (f i) (A i)) (hr : ∀ i, i < m → Lies B w (f i) (A i)) (hsl : ∀ i, i < m → slimq (f i)) :
    Calls Try.prog 21 #[.slice (some ⟨nb, no, none⟩) q nc, .slice (some ⟨pb, po, none⟩) m pc] w fun e w' => ∃ A', e = .returned ((structT g f (osF g n) (n + 1)).val A') ∧ LiesS (fun k => w.heap.size ≤ k ∧ k < w'.heap.size) w' (structT g f (osF g n) (n + 1)) A' ∧ Below w.heap.size w w' := by
  obtain ⟨N, hN⟩ : ∃ N : Nat, n + 1 = N := ⟨_, rfl⟩
  have hNq : N ≤ q := by omega
  have hNm : N ≤ m := by omega
  have hmin : min (q : Int) (m : Int) = (N : Int) := by omega
  obtain ⟨i3, hi3, hx0, hx1, hx2⟩ := info_parts info3
  have hmk : ∀ W : World, (Instr.makeSlice 87 (.int .i64 (N : Int)) (.int .i64 (N : Int))).run Try.prog W = .ok (.slice (some ⟨W.heap.size, 0, none⟩) N N) (W.alloc (.cells (madeCells (Value.cells (.int .i64 0)) (N * 1)) 3)) := fun W => by
    have := run_makeSlice (P := Try.prog) W 87 3 i3 _ Try.underlying87 hi3 hx0 .i64 .i64 (N : Int) (N : Int) (by omega) (by omega) (by rw [hx1]; simp; omega) (by rw [hx2]; omega) (by omega)
    rw [hx1] at this
    simpa using this
  obtain ⟨zs, hzs⟩ : ∃ zs, madeCells (Value.cells (.int .i64 0)) (N * 1) = zs := ⟨_, rfl⟩
  have hzn : zs.size = N := by rw [← hzs, size_madeCells]; omega
  rw [hzs] at hmk
  have HZ : Hid (zs.size = N) := hzn
  have HNC : Hid (∀ i, i < q → w.cell? ⟨nb, no + i, none⟩ = some (.string (g i))) := hnc
  have HGS : Hid (∀ i, i < q → (g i).size ≤ maxLen) := hgs
  have HAT : Hid (∀ i, i < m → At6 w pb (po + i * 6) (f i) (A i)) := hat
  have HR : Hid (∀ i, i < m → Lies B w (f i) (A i)) := hr
  have HSL : Hid (∀ i, i < m → slimq (f i)) := hsl
  have HNN : Hid (n + 1 = N) := hN
  clear hzn hzs hi3 hx0 hx1 hx2 hnc hgs hat hr hsl hqm
  go_enter Try.func21, Try.ntmps21
  go_wp2_with fail
  obtain ⟨W2, hW2⟩ : ∃ W2, (w.alloc (.cells #[.slice (some ⟨nb, no, none⟩) q nc] 23)).alloc (.cells #[.int .i64 0, .bool false, .int .i64 0, .string ⟨#[]⟩, .slice none 0 0, .slice none 0 0] 25) = W2 := ⟨_, rfl⟩
  have hb2 : Below w.heap.size w W2 := by rw [← hW2]; exact ((Below.refl _ w).alloc (Nat.le_refl _) _).alloc (by simp) _
  have hs2 : W2.heap.size = w.heap.size + 1 + 1 := by rw [← hW2]; simp
  have r0 : W2.heap[w.heap.size]? = some (.cells #[.slice (some ⟨nb, no, none⟩) q nc] 23 (0, 0)) := by
    rw [← hW2, Below.heap_alloc _ _ _ (by simp)]; exact heap_alloc_new _ _
  have r1 : W2.heap[w.heap.size + 1]? = some (.cells #[.int .i64 0, .bool false, .int .i64 0, .string ⟨#[]⟩, .slice none 0 0, .slice none 0 0] 25 (0, 0)) := by
    rw [← hW2]; have := heap_alloc_new (w.alloc (.cells #[.slice (some ⟨nb, no, none⟩) q nc] 23)) (.cells #[.int .i64 0, .bool false, .int .i64 0, .string ⟨#[]⟩, .slice none 0 0, .slice none 0 0] 25); simpa using this
  have r2 : (W2.alloc (.cells zs 3)).heap[w.heap.size + 1 + 1]? = some (.cells zs 3 (0, 0)) := by rw [← hs2]; exact heap_alloc_new _ _
  rw [hW2]
  clear hW2
  go_loopw [18] (fun c18 wr => ∃ (i : Nat) (cur : Array Value), i ≤ N ∧ c18 = .int .i64 (i : Int) ∧ wr.heap[w.heap.size + 1 + 1]? = some (.cells cur 3 (0, 0)) ∧ cur.size = N ∧ (∀ j, j < i → cur[j]? = some (.int .i64 (j : Int))) ∧ Below (w.heap.size + 1 + 1) W2 wr ∧ wr.heap.size = w.heap.size + 1 + 1 + 1) (fun c18 _ => N - (intOf c18).toNat)
  case atStart => exact ⟨0, zs, by omega, rfl, r2, HZ.out, fun j hj => by omega, (Below.refl _ _).alloc (by omega) _, by simp; omega⟩
  case round =>
    clear r2
    obtain ⟨i, cur, hi', rfl, hrow, hcn, hcs, hbw, hsz⟩ := hrel
    by_cases hiN : i < N
    · have hiN' : (i : Int) < (N : Int) := by omega
      have e0 : wr.cell? ⟨w.heap.size + 1 + 1, i, none⟩ = some cur[i] := by rw [cell_of_row wr _ _ _ _ _ hrow]; exact Array.getElem?_eq_getElem (by omega)
      have z0 := frozen_of_row wr _ i _ _ hrow
      go_wp2
      go_roundw
      case rel =>
        refine ⟨i + 1, cur.setIfInBounds i (.int .i64 (i : Int)), by omega, by go_num, row_setCell (k := i) hrow _, by simpa using hcn, fun j hj => ?_, hbw.setCell (p := ⟨w.heap.size + 1 + 1, i, none⟩) (Nat.le_refl _) _, by simpa using hsz⟩
        rw [Array.getElem?_setIfInBounds]
        by_cases hji : i = j
        · subst hji; rw [if_pos rfl, if_pos (by omega)]
        · rw [if_neg hji]; exact hcs j (by omega)
      case measure => simp [intOf]; omega
    · obtain rfl : i = N := by omega
      have hBw : Below B w wr := (hb2.mono hB).trans (hbw.mono (by omega))
      have hcon := sort_ints (g := g) hn12 (by omega) hrow (fun j hj => hcs j (by omega)) (cell_of_row wr _ 0 _ _ _ ((hbw.block w.heap.size (by omega)).trans r0)) (fun i hi => cell_later (HNC.out i hi) hnb hBw) (by omega) (by omega)
      rw [HNN.out] at hcon
      have hos : ∀ p, p < i → osF g n p < i := fun p hp => by rw [← HNN.out]; exact osF_lt g n p
      obtain ⟨os, hos2⟩ : ∃ os, osF g n = os := ⟨_, rfl⟩
      rw [hos2] at hcon hos
      have HOS : Hid (osF g n = os) := hos2
      clear hos2
      go_wp2_with fail
      refine hcon.mono ?_
      rintro e w4 ⟨rfl, hc4, hk4, hb4, hs4⟩
      go_wp2_with fail
      obtain ⟨V, hVl⟩ : ∃ V, w.heap.size + 1 + 1 + 1 = V := ⟨_, rfl⟩
      have hVn : V = w.heap.size + 1 + 1 + 1 := by omega
      have hV : w4.heap.size = V := by omega
      have hb04 : Below w.heap.size w w4 := hb2.trans ((hbw.mono (by omega)).trans (hb4.mono (by omega)))
      have r04 : w4.heap[w.heap.size]? = some (.cells #[.slice (some ⟨nb, no, none⟩) q nc] 23 (0, 0)) := (hk4 _ (by omega)).trans ((hbw.block _ (by omega)).trans r0)
      have r14 : w4.heap[w.heap.size + 1]? = some (.cells #[.int .i64 0, .bool false, .int .i64 0, .string ⟨#[]⟩, .slice none 0 0, .slice none 0 0] 25 (0, 0)) := (hk4 _ (by omega)).trans ((hbw.block _ (by omega)).trans r1)
      have rv : (w4.alloc (.cells #[.int .i64 6, .bool false, .int .i64 0, .string ⟨#[]⟩, .slice none 0 0, .slice none 0 0] 25)).heap[V]? = some (.cells #[.int .i64 6, .bool false, .int .i64 0, .string ⟨#[]⟩, .slice none 0 0, .slice none 0 0] 25 (0, 0)) := by rw [← hV]; exact heap_alloc_new _ _
      have hbv : Below V w4 (w4.alloc (.cells #[.int .i64 6, .bool false, .int .i64 0, .string ⟨#[]⟩, .slice none 0 0, .slice none 0 0] 25)) := (Below.refl _ _).alloc (by omega) _
      have hsv : (w4.alloc (.cells #[.int .i64 6, .bool false, .int .i64 0, .string ⟨#[]⟩, .slice none 0 0, .slice none 0 0] 25)).heap.size = V + 1 := by simp; omega
      rw [hVl]
      clear hVl
      have HV : Hid (w4.heap.size = V) := hV
      have HVN : Hid (V = w.heap.size + 1 + 1 + 1) := hVn
      have HC4 : Hid (∀ p, p < i → w4.cell? ⟨w.heap.size + 1 + 1, p, none⟩ = some (.int .i64 (os p : Int))) := hc4
      obtain ⟨T, hT⟩ : ∃ T : Nat → Tr, T = fun j => f ((keptP g os i i).getD j 0) := ⟨_, rfl⟩
      have HT : Hid (∀ j, T j = f ((keptP g os i i).getD j 0)) := fun j => by rw [hT]
      clear hV hVn hc4 hk4 hb4 hs4 hT hcon hbw hsz hrow hcs hcn hBw hb2 r0 r1 hs2
      obtain ⟨i0, hi, hz0, hz1, hz2⟩ := info_parts info25
      obtain ⟨j0, hj, hy0, hy1, hy2⟩ := info_parts info9
      go_loopw [32] (fun c32 wr => ∃ (k : Nat) (v u : Value) (l : List ByteArray) (c : Nat) (A' : Nat → Ad), k ≤ i ∧ c32 = .int .i64 (k : Int) ∧ wr.heap[V]? = some (.cells #[.int .i64 6, .bool false, .int .i64 0, .string ⟨#[]⟩, v, u] 25 (0, 0)) ∧ Below V w4 wr ∧ V + 1 ≤ wr.heap.size ∧ l = (keptP g os i k).map g ∧ c = (keptP g os i k).length ∧ Twin u.ownBlock (V + 1) wr v c T A' ∧ Nms (V + 1) wr u l) (fun c32 _ => i - (intOf c32).toNat)
      case atStart => exact ⟨0, .slice none 0 0, .slice none 0 0, [], 0, A, by omega, rfl, rv, hbv, by omega, rfl, rfl, Twin.start _ _ _ _ _, Nms.start _ _⟩
      case round =>
        clear rv hbv hsv
        obtain ⟨k, v, u, l, c, A', hk', rfl, hrow, hbw, hszr, hl, hc, htw, hnm⟩ := hrel
        have hV3 := HVN.out
        have hV4 := HV.out
        by_cases hkN : k < i
        · have hkN' : (k : Int) < (i : Int) := by omega
          have hBw : Below B w wr := (hb04.mono hB).trans (hbw.mono (by omega))
          have eo := cell_later (HC4.out k hkN) (show w.heap.size + 1 + 1 < V by omega) hbw
          have ez := cell_of_row wr _ 0 _ _ _ ((hbw.block w.heap.size (by omega)).trans r04)
          have hoq := hos k hkN
          have hlt4 := lt_of_row hrow
          obtain ⟨a0, ha0⟩ : ∃ a0, os k = a0 := ⟨_, rfl⟩
          rw [ha0] at eo hoq
          have en := cell_later (HNC.out a0 (by omega)) hnb hBw
          have hoq' : (a0 : Int) < (q : Int) := by omega
          have hom' : (a0 : Int) < (m : Int) := by omega
          have HA0 : Hid (os k = a0) := ha0
          have hcl : c ≤ 13 := by rw [hc]; have := kept_len g os i k; omega
          have hll : l.length ≤ 13 := by rw [hl, List.length_map]; have := kept_len g os i k; omega
          have HL : Hid (l = (keptP g os i k).map g) := hl
          have HCC : Hid (c = (keptP g os i k).length) := hc
          have hO3 : w.heap.size + 1 + 1 < V := by omega
          have hO4 : w4.heap.size ≤ V := by omega
          clear ha0 hl hc hV3 hV4
          have hwk : IntKind.i64.wrap ((k : Int) + 1) = (k : Int) + 1 := by rw [IntKind.wrap_i64]; omega
          by_cases hlast : k + 1 < i
          · have hlast' : (k : Int) + 1 < (i : Int) := by omega
            have eo1 := cell_later (HC4.out (k + 1) hlast) hO3 hbw
            have hoq1 := hos (k + 1) hlast
            obtain ⟨a1, ha1⟩ : ∃ a1, os (k + 1) = a1 := ⟨_, rfl⟩
            rw [ha1] at eo1 hoq1
            have en1 := cell_later (HNC.out a1 (by omega)) hnb hBw
            have hoq1' : (a1 : Int) < (q : Int) := by omega
            have HA1 : Hid (os (k + 1) = a1) := ha1
            clear ha1
            obtain ⟨eqb, heq⟩ : ∃ eqb, ((g a1).toList == (g a0).toList) = eqb := ⟨_, rfl⟩
            cases eqb with
            | true =>
              have HEQ : Hid (((g a1).toList == (g a0).toList) = true) := heq
              go_wp2_with fail
              go_quiet (fail)
              go_wp2_with fail
              go_roundw
              case rel =>
                have hkk : keptP g os i (k + 1) = keptP g os i k := by
                  show (if keepP g os i k then _ else _) = _
                  rw [if_neg (by unfold keepP; rw [HA1.out, HA0.out, HEQ.out, decide_eq_true hlast]; decide)]
                refine ⟨k + 1, v, u, l, c, A', by omega, by go_num, hrow, ⟨hbw.os, hbw.tape, hbw.output, hbw.size, hbw.block⟩, hszr, by rw [hkk]; exact HL.out, by rw [hkk]; exact HCC.out, htw.kept (w' := wr.drewN nq) (Nat.le_refl _) (fun _ _ _ => rfl), hnm.kept (w' := wr.drewN nq) (fun _ _ _ => rfl)⟩
              case measure => simp [intOf]; omega
            | false =>
              have HEQ : Hid (((g a1).toList == (g a0).toList) = false) := heq
              go_wp2_with fail
              go_quiet (fail)
              go_wp2_with fail
              obtain ⟨wx, hwx⟩ : ∃ wx, wr.drewN nq = wx := ⟨_, rfl⟩
              have xrow : wx.heap[V]? = some (.cells #[.int .i64 6, .bool false, .int .i64 0, .string ⟨#[]⟩, v, u] 25 (0, 0)) := by rw [← hwx]; exact hrow
              have xbw : Below V w4 wx := by rw [← hwx]; exact ⟨hbw.os, hbw.tape, hbw.output, hbw.size, hbw.block⟩
              have xsz : V + 1 ≤ wx.heap.size := by rw [← hwx]; exact hszr
              have xtw : Twin u.ownBlock (V + 1) wx v c T A' := by rw [← hwx]; exact htw.kept (w' := wr.drewN nq) (Nat.le_refl _) (fun _ _ _ => rfl)
              have xnm : Nms (V + 1) wx u l := by rw [← hwx]; exact hnm.kept (w' := wr.drewN nq) (fun _ _ _ => rfl)
              rw [hwx]
              clear hwx hrow hbw hszr htw hnm en ez eo hBw
              have hBx : Below B w wx := (hb04.mono hB).trans (xbw.mono (by omega))
              have ez := cell_of_row wx _ 0 _ _ _ ((xbw.block w.heap.size (by omega)).trans r04)
              have en := cell_later (HNC.out a0 (by omega)) hnb hBx
              have e5 := cell_of_row wx _ 5 _ _ _ xrow
              have xnd : Nms (V + 1) wx.drew u l := xnm.kept (w' := wx.drew) (fun _ _ _ => rfl)
              have ezd : wx.drew.cell? ⟨w.heap.size, 0, none⟩ = some (.slice (some ⟨nb, no, none⟩) q nc) := ez
              have xrd : wx.drew.heap[V]? = some (.cells #[.int .i64 6, .bool false, .int .i64 0, .string ⟨#[]⟩, v, u] 25 (0, 0)) := xrow
              have e5a : ∀ o, (wx.alloc o).cell? ⟨V, 5, none⟩ = some u := fun o => cell_kept e5 (Below.heap_alloc wx o _ (block_lt e5))
              go_cut [32] from 32 to 76 (fun c32 w5 => c32 = .int .i64 (k : Int) ∧ ∃ u', w5.heap[V]? = some (.cells #[.int .i64 6, .bool false, .int .i64 0, .string ⟨#[]⟩, v, u'] 25 (0, 0)) ∧ Below V w4 w5 ∧ V + 1 ≤ w5.heap.size ∧ Twin u'.ownBlock (V + 1) w5 v c T A' ∧ Nms (V + 1) w5 u' (l ++ [g a0]))
              case first =>
                go_region_law (first | (refine step_append_lies _ (by rfl) (.tmp 58) (.tmp 63) 23 (by rfl) (V + 1) 9 j0 _ 1 16 Try.underlying23 hj hy0 hy1 hy2 (by rfl) (by decide) u l.length _ (by rfl) (xnd.alloc _) ⟨wx.heap.size, 0, none⟩ 1 1 [.string (g a0)] (by rfl) (by rfl) (World.news_of_block (heap_alloc_new wx.drew _)) (fun u hu => by simp at hu; subst hu; rfl) (by decide) (by unfold maxLen; omega) (by omega) (by simp; omega) (wx.heap.size + 1) (by simp) ?_; intro g3 cap3 w3 hown3 hgr3' hat3 hlt3; have hgr3 : (wx.alloc (.cells #[.string (g a0)] 9)).grownBy w3 u.ownBlock := ⟨hgr3'.os, hgr3'.tape, hgr3'.output, hgr3'.size, hgr3'.block⟩; clear hgr3'; have hrow3 := far_row (base := V + 1) hgr3 (fun k1 hk1 => (own_lt xnd k1 hk1).1) xrow (Nat.lt_succ_self V); have f53 := frozen_of_row w3 _ 5 _ _ hrow3; have e53 := cell_of_row w3 _ 5 _ _ _ hrow3))
                all_goals
                  have htwa := xtw.kept (w' := wx.alloc (.cells #[.string (g a0)] 9)) (by simp) (fun k1 _ h2 => Below.heap_alloc wx _ k1 h2)
                  have hna := xnm.kept (w' := wx.alloc (.cells #[.string (g a0)] 9)) (fun k1 _ h2 => Below.heap_alloc wx _ k1 h2)
                  have htw3 := Twin.named (c := l.length + 1) (cap := cap3) htwa hna hgr3 (by simpa using hat3)
                  have hset : ∀ k1, k1 ≠ V → (w3.setCell ⟨V, 5, none⟩ (.slice (some ⟨g3, 0, none⟩) (l.length + 1) cap3)).heap[k1]? = w3.heap[k1]? := fun k1 hk1 => Below.heap_setCell _ _ _ k1 hk1
                  have htw5 := htw3.kept (w' := w3.setCell ⟨V, 5, none⟩ (.slice (some ⟨g3, 0, none⟩) (l.length + 1) cap3)) (by simp) (fun k1 h1 _ => hset k1 (by omega))
                  have hn3 : Nms (V + 1) w3 (.slice (some ⟨g3, 0, none⟩) (l.length + 1) cap3) (l ++ [g a0]) := by
                    have : strs (l ++ [g a0]) = strs l ++ [.string (g a0)] := by simp [strs]
                    unfold Nms
                    rw [this, List.length_append]
                    exact hown3
                  have hn5 := hn3.kept (w' := w3.setCell ⟨V, 5, none⟩ (.slice (some ⟨g3, 0, none⟩) (l.length + 1) cap3)) (fun k1 h1 _ => hset k1 (by omega))
                  have hrow5 := row_setCell (k := 5) hrow3 (.slice (some ⟨g3, 0, none⟩) (l.length + 1) cap3)
                  have hbz := ((xbw.alloc (by omega) (.cells #[.string (g a0)] 9)).grown hgr3 (by simp; omega) (fun k1 hk1 => by have := (own_lt xnm k1 hk1).1; omega)).setCell (p := ⟨V, 5, none⟩) (Nat.le_refl _) (.slice (some ⟨g3, 0, none⟩) (l.length + 1) cap3)
                  have hsz5 : V + 1 ≤ (w3.setCell ⟨V, 5, none⟩ (.slice (some ⟨g3, 0, none⟩) (l.length + 1) cap3)).heap.size := by have := hgr3.size; simp at this; simp; omega
                  go_wp2_with fail
                  go_meet
                  case rel => exact ⟨rfl, _, hrow5, hbz, hsz5, htw5, hn5⟩
              case rest =>
                obtain ⟨rfl, u', crow, cbw, csz, ctw, cnm⟩ := hcut
                have crow' : wc.heap[V]? = some (.cells #[.int .i64 6, .bool false, .int .i64 0, .string ⟨#[]⟩, v, u'] 25 (0, 0)) := crow
                have clt := lt_of_row crow'
                have p4 := cell_of_row wc _ 4 _ _ _ crow'
                have hBc : Below B w wc := (hb04.mono hB).trans (cbw.mono (by omega))
                have h6a := (HAT.out a0 (by omega)).later hpb hBc
                have d0 := h6a.c0
                have d1 := h6a.c1
                have d2 := h6a.c2
                have d3 := h6a.c3
                have d4 := h6a.c4
                have d5 := h6a.c5
                have hLc : Lies B wc.drew (f a0) (A a0) := LiesS.kept (w := wc) (w' := wc.drew) (fun _ _ => rfl) ((HR.out a0 (by omega)).later hBc)
                have hTc : T c = f a0 := by rw [HT.out, HCC.out, kept_at g os i k hkN (by unfold keepP; rw [HA1.out, HA0.out, HEQ.out]; simp), HA0.out]
                obtain ⟨t, ht⟩ : ∃ t, f a0 = t := ⟨_, rfl⟩
                have hslt : slimq t := by rw [← ht]; exact HSL.out a0 (by omega)
                rw [ht] at d0 d1 d2 d3 d4 d5 hLc hTc
                obtain ⟨ad, had⟩ : ∃ ad, A a0 = ad := ⟨_, rfl⟩
                rw [had] at d4 d5 hLc
                have hcall : Calls Try.prog 30 #[.agg #[.int .i64 t.k, .bool t.b, .int .i64 t.n, .string t.s, .slice ad.pa t.m ad.pc, .slice ad.na t.q ad.nc]] wc.drew fun r w' => ∃ A1 : Ad, r = .returned (.agg #[.int .i64 t.k, .bool t.b, .int .i64 t.n, .string t.s, .slice A1.pa t.m A1.pc, .slice A1.na t.q A1.nc]) ∧ LiesS (fun k => wc.heap.size ≤ k ∧ k < w'.heap.size) w' t A1 ∧ Below wc.heap.size wc w' := by
                  refine (clone_all t hslt B wc.drew ad hLc (by show B ≤ wc.heap.size; omega)).mono ?_
                  rintro e1 w' ⟨A1, h1, h2, h3⟩
                  exact ⟨A1, h1, h2, (Below.refl _ wc).drew.trans h3⟩
                have HTC : Hid (T c = t) := hTc
                clear h6a hLc hBc hTc ht had hslt crow
                go_wp2_with fail
                go_region_law ((first | (go_simp; go_at_call 30; refine hcall.mono ?_; rintro e w6 ⟨A1, rfl, hL6, hb6⟩; have hrow6 := (hb6.block _ clt).trans crow'; have p46 := cell_of_row w6 _ 4 _ _ _ hrow6; have p4a : ∀ o, (w6.alloc o).cell? ⟨V, 4, none⟩ = some v := fun o => cell_kept p46 (Below.heap_alloc w6 o _ (block_lt p46)); have htw6 := ctw.kept (w' := w6) hb6.size (fun k1 h1 h2 => hb6.block k1 h2); dsimp only) | (refine step_append_lies _ (by rfl) (.tmp 67) (.tmp 73) 22 (by rfl) (V + 1) 25 i0 _ 6 88 Try.underlying22 hi hz0 hz1 hz2 (by rfl) (by decide) v c _ (by rfl) (htw6.own.alloc _) ⟨w6.heap.size, 0, none⟩ 1 1 (t.cs A1) (by rfl) (by rfl) (World.news_of_block (heap_alloc_new w6 _)) (cs_one t A1) (by decide) (by unfold maxLen; omega) (by omega) (by have := hb6.size; simp; omega) (w6.heap.size + 1) (by simp) ?_; intro g7 cap7 w7 hown7 hgr7 hat7 hlt7; have hrow7 := far_row (base := V + 1) hgr7 (fun k1 hk1 => (own_lt htw6.own k1 hk1).1) hrow6 (Nat.lt_succ_self V); have f47 := frozen_of_row w7 _ 4 _ _ hrow7; have p47 := cell_of_row w7 _ 4 _ _ _ hrow7)))
                all_goals
                  have hsz6 := hb6.size
                  have htwa := htw6.kept (w' := w6.alloc (.cells #[.int .i64 t.k, .bool t.b, .int .i64 t.n, .string t.s, .slice A1.pa t.m A1.pc, .slice A1.na t.q A1.nc] 25)) (by simp) (fun k1 _ h2 => Below.heap_alloc w6 _ k1 h2)
                  have hn6 := cnm.kept (w' := w6) (fun k1 h1 h2 => hb6.block k1 h2)
                  have hna := hn6.kept (w' := w6.alloc (.cells #[.int .i64 t.k, .bool t.b, .int .i64 t.n, .string t.s, .slice A1.pa t.m A1.pc, .slice A1.na t.q A1.nc] 25)) (fun k1 _ h2 => Below.heap_alloc w6 _ k1 h2)
                  have hLa := lies_alloc hL6 (fun k1 hk1 => hk1.2) (.cells #[.int .i64 t.k, .bool t.b, .int .i64 t.n, .string t.s, .slice A1.pa t.m A1.pc, .slice A1.na t.q A1.nc] 25)
                  have htw7 := Twin.step (wr := wc) (a := A1) (cap := cap7) htwa (by simp; omega) csz (fun k1 hk1 => (own_lt ctw.own k1 hk1).2.1) (fun k1 hk1 => (own_lt cnm k1 hk1).2.1) (by rw [HTC.out]; exact hLa.up (fun k1 hk1 => ⟨hk1.1, by simp; omega⟩)) (by rw [HTC.out]; exact hown7) hgr7 (by simpa using hat7)
                  have hn7 := hna.parts htwa.own hgr7
                  have hset : ∀ k1, k1 ≠ V → (w7.setCell ⟨V, 4, none⟩ (.slice (some ⟨g7, 0, none⟩) (c + 1) cap7)).heap[k1]? = w7.heap[k1]? := fun k1 hk1 => Below.heap_setCell _ _ _ k1 hk1
                  have htw8 := htw7.kept (w' := w7.setCell ⟨V, 4, none⟩ (.slice (some ⟨g7, 0, none⟩) (c + 1) cap7)) (by simp) (fun k1 h1 _ => hset k1 (by omega))
                  have hn8 := hn7.kept (w' := w7.setCell ⟨V, 4, none⟩ (.slice (some ⟨g7, 0, none⟩) (c + 1) cap7)) (fun k1 h1 _ => hset k1 (by omega))
                  have hrow8 := row_setCell (k := 4) hrow7 (.slice (some ⟨g7, 0, none⟩) (c + 1) cap7)
                  have hbz := ((((cbw.trans (hb6.mono (by omega))).alloc (by omega) (.cells #[.int .i64 t.k, .bool t.b, .int .i64 t.n, .string t.s, .slice A1.pa t.m A1.pc, .slice A1.na t.q A1.nc] 25)).grown hgr7 (by simp; omega) (fun k1 hk1 => by have := (own_lt htw6.own k1 hk1).1; omega))).setCell (p := ⟨V, 4, none⟩) (Nat.le_refl _) (.slice (some ⟨g7, 0, none⟩) (c + 1) cap7)
                  have hsz8 : V + 1 ≤ (w7.setCell ⟨V, 4, none⟩ (.slice (some ⟨g7, 0, none⟩) (c + 1) cap7)).heap.size := by have := hgr7.size; simp at this; simp; omega
                  clear hset htw7 htwa hna hLa hn6 hgr7 hown7 hat7 hlt7 hrow7 f47 p47 hrow6 p46 p4a hb6 hsz6 hL6 hn7 htw6
                  go_wp2
                  go_roundw
                  case rel =>
                    have hkk : keptP g os i (k + 1) = keptP g os i k ++ [a0] := by
                      show (if keepP g os i k then _ else _) = _
                      rw [if_pos (by unfold keepP; rw [HA1.out, HA0.out, HEQ.out]; simp), HA0.out]
                    refine ⟨k + 1, _, _, l ++ [g a0], c + 1, _, by omega, by go_num, hrow8, hbz, hsz8, ?_, ?_, htw8, hn8⟩
                    · rw [hkk, HL.out, List.map_append]; rfl
                    · rw [hkk, List.length_append, HCC.out]; rfl
                  case measure => simp [intOf]; omega
          · have hlast' : ¬ ((k : Int) + 1 < (i : Int)) := by omega
            have hdec : decide ((k : Int) + 1 < (i : Int)) = false := by simp; omega
            go_wp2_with fail
            go_region
            go_wp2_with fail
            obtain ⟨wx, hwx⟩ : ∃ wx, wr.drew = wx := ⟨_, rfl⟩
            have xrow : wx.heap[V]? = some (.cells #[.int .i64 6, .bool false, .int .i64 0, .string ⟨#[]⟩, v, u] 25 (0, 0)) := by rw [← hwx]; exact hrow
            have xbw : Below V w4 wx := by rw [← hwx]; exact ⟨hbw.os, hbw.tape, hbw.output, hbw.size, hbw.block⟩
            have xsz : V + 1 ≤ wx.heap.size := by rw [← hwx]; exact hszr
            have xtw : Twin u.ownBlock (V + 1) wx v c T A' := by rw [← hwx]; exact htw.kept (w' := wr.drew) (Nat.le_refl _) (fun _ _ _ => rfl)
            have xnm : Nms (V + 1) wx u l := by rw [← hwx]; exact hnm.kept (w' := wr.drew) (fun _ _ _ => rfl)
            rw [hwx]
            clear hwx hrow hbw hszr htw hnm en ez eo hBw
            have hBx : Below B w wx := (hb04.mono hB).trans (xbw.mono (by omega))
            have ez := cell_of_row wx _ 0 _ _ _ ((xbw.block w.heap.size (by omega)).trans r04)
            have en := cell_later (HNC.out a0 (by omega)) hnb hBx
            have e5 := cell_of_row wx _ 5 _ _ _ xrow
            have xnd : Nms (V + 1) wx.drew u l := xnm.kept (w' := wx.drew) (fun _ _ _ => rfl)
            have ezd : wx.drew.cell? ⟨w.heap.size, 0, none⟩ = some (.slice (some ⟨nb, no, none⟩) q nc) := ez
            have xrd : wx.drew.heap[V]? = some (.cells #[.int .i64 6, .bool false, .int .i64 0, .string ⟨#[]⟩, v, u] 25 (0, 0)) := xrow
            have e5a : ∀ o, (wx.alloc o).cell? ⟨V, 5, none⟩ = some u := fun o => cell_kept e5 (Below.heap_alloc wx o _ (block_lt e5))
            go_cut [32] from 32 to 76 (fun c32 w5 => c32 = .int .i64 (k : Int) ∧ ∃ u', w5.heap[V]? = some (.cells #[.int .i64 6, .bool false, .int .i64 0, .string ⟨#[]⟩, v, u'] 25 (0, 0)) ∧ Below V w4 w5 ∧ V + 1 ≤ w5.heap.size ∧ Twin u'.ownBlock (V + 1) w5 v c T A' ∧ Nms (V + 1) w5 u' (l ++ [g a0]))
            case first =>
              go_region_law (first | (refine step_append_lies _ (by rfl) (.tmp 58) (.tmp 63) 23 (by rfl) (V + 1) 9 j0 _ 1 16 Try.underlying23 hj hy0 hy1 hy2 (by rfl) (by decide) u l.length _ (by rfl) (xnd.alloc _) ⟨wx.heap.size, 0, none⟩ 1 1 [.string (g a0)] (by rfl) (by rfl) (World.news_of_block (heap_alloc_new wx.drew _)) (fun u hu => by simp at hu; subst hu; rfl) (by decide) (by unfold maxLen; omega) (by omega) (by simp; omega) (wx.heap.size + 1) (by simp) ?_; intro g3 cap3 w3 hown3 hgr3' hat3 hlt3; have hgr3 : (wx.alloc (.cells #[.string (g a0)] 9)).grownBy w3 u.ownBlock := ⟨hgr3'.os, hgr3'.tape, hgr3'.output, hgr3'.size, hgr3'.block⟩; clear hgr3'; have hrow3 := far_row (base := V + 1) hgr3 (fun k1 hk1 => (own_lt xnd k1 hk1).1) xrow (Nat.lt_succ_self V); have f53 := frozen_of_row w3 _ 5 _ _ hrow3; have e53 := cell_of_row w3 _ 5 _ _ _ hrow3))
              all_goals
                have htwa := xtw.kept (w' := wx.alloc (.cells #[.string (g a0)] 9)) (by simp) (fun k1 _ h2 => Below.heap_alloc wx _ k1 h2)
                have hna := xnm.kept (w' := wx.alloc (.cells #[.string (g a0)] 9)) (fun k1 _ h2 => Below.heap_alloc wx _ k1 h2)
                have htw3 := Twin.named (c := l.length + 1) (cap := cap3) htwa hna hgr3 (by simpa using hat3)
                have hset : ∀ k1, k1 ≠ V → (w3.setCell ⟨V, 5, none⟩ (.slice (some ⟨g3, 0, none⟩) (l.length + 1) cap3)).heap[k1]? = w3.heap[k1]? := fun k1 hk1 => Below.heap_setCell _ _ _ k1 hk1
                have htw5 := htw3.kept (w' := w3.setCell ⟨V, 5, none⟩ (.slice (some ⟨g3, 0, none⟩) (l.length + 1) cap3)) (by simp) (fun k1 h1 _ => hset k1 (by omega))
                have hn3 : Nms (V + 1) w3 (.slice (some ⟨g3, 0, none⟩) (l.length + 1) cap3) (l ++ [g a0]) := by
                  have : strs (l ++ [g a0]) = strs l ++ [.string (g a0)] := by simp [strs]
                  unfold Nms
                  rw [this, List.length_append]
                  exact hown3
                have hn5 := hn3.kept (w' := w3.setCell ⟨V, 5, none⟩ (.slice (some ⟨g3, 0, none⟩) (l.length + 1) cap3)) (fun k1 h1 _ => hset k1 (by omega))
                have hrow5 := row_setCell (k := 5) hrow3 (.slice (some ⟨g3, 0, none⟩) (l.length + 1) cap3)
                have hbz := ((xbw.alloc (by omega) (.cells #[.string (g a0)] 9)).grown hgr3 (by simp; omega) (fun k1 hk1 => by have := (own_lt xnm k1 hk1).1; omega)).setCell (p := ⟨V, 5, none⟩) (Nat.le_refl _) (.slice (some ⟨g3, 0, none⟩) (l.length + 1) cap3)
                have hsz5 : V + 1 ≤ (w3.setCell ⟨V, 5, none⟩ (.slice (some ⟨g3, 0, none⟩) (l.length + 1) cap3)).heap.size := by have := hgr3.size; simp at this; simp; omega
                go_wp2_with fail
                go_meet
                case rel => exact ⟨rfl, _, hrow5, hbz, hsz5, htw5, hn5⟩
            case rest =>
              obtain ⟨rfl, u', crow, cbw, csz, ctw, cnm⟩ := hcut
              have crow' : wc.heap[V]? = some (.cells #[.int .i64 6, .bool false, .int .i64 0, .string ⟨#[]⟩, v, u'] 25 (0, 0)) := crow
              have clt := lt_of_row crow'
              have p4 := cell_of_row wc _ 4 _ _ _ crow'
              have hBc : Below B w wc := (hb04.mono hB).trans (cbw.mono (by omega))
              have h6a := (HAT.out a0 (by omega)).later hpb hBc
              have d0 := h6a.c0
              have d1 := h6a.c1
              have d2 := h6a.c2
              have d3 := h6a.c3
              have d4 := h6a.c4
              have d5 := h6a.c5
              have hLc : Lies B wc.drew (f a0) (A a0) := LiesS.kept (w := wc) (w' := wc.drew) (fun _ _ => rfl) ((HR.out a0 (by omega)).later hBc)
              have hTc : T c = f a0 := by rw [HT.out, HCC.out, kept_at g os i k hkN (by unfold keepP; rw [decide_eq_false hlast]; rfl), HA0.out]
              obtain ⟨t, ht⟩ : ∃ t, f a0 = t := ⟨_, rfl⟩
              have hslt : slimq t := by rw [← ht]; exact HSL.out a0 (by omega)
              rw [ht] at d0 d1 d2 d3 d4 d5 hLc hTc
              obtain ⟨ad, had⟩ : ∃ ad, A a0 = ad := ⟨_, rfl⟩
              rw [had] at d4 d5 hLc
              have hcall : Calls Try.prog 30 #[.agg #[.int .i64 t.k, .bool t.b, .int .i64 t.n, .string t.s, .slice ad.pa t.m ad.pc, .slice ad.na t.q ad.nc]] wc.drew fun r w' => ∃ A1 : Ad, r = .returned (.agg #[.int .i64 t.k, .bool t.b, .int .i64 t.n, .string t.s, .slice A1.pa t.m A1.pc, .slice A1.na t.q A1.nc]) ∧ LiesS (fun k => wc.heap.size ≤ k ∧ k < w'.heap.size) w' t A1 ∧ Below wc.heap.size wc w' := by
                refine (clone_all t hslt B wc.drew ad hLc (by show B ≤ wc.heap.size; omega)).mono ?_
                rintro e1 w' ⟨A1, h1, h2, h3⟩
                exact ⟨A1, h1, h2, (Below.refl _ wc).drew.trans h3⟩
              have HTC : Hid (T c = t) := hTc
              clear h6a hLc hBc hTc ht had hslt crow
              go_wp2_with fail
              go_region_law ((first | (go_simp; go_at_call 30; refine hcall.mono ?_; rintro e w6 ⟨A1, rfl, hL6, hb6⟩; have hrow6 := (hb6.block _ clt).trans crow'; have p46 := cell_of_row w6 _ 4 _ _ _ hrow6; have p4a : ∀ o, (w6.alloc o).cell? ⟨V, 4, none⟩ = some v := fun o => cell_kept p46 (Below.heap_alloc w6 o _ (block_lt p46)); have htw6 := ctw.kept (w' := w6) hb6.size (fun k1 h1 h2 => hb6.block k1 h2); dsimp only) | (refine step_append_lies _ (by rfl) (.tmp 67) (.tmp 73) 22 (by rfl) (V + 1) 25 i0 _ 6 88 Try.underlying22 hi hz0 hz1 hz2 (by rfl) (by decide) v c _ (by rfl) (htw6.own.alloc _) ⟨w6.heap.size, 0, none⟩ 1 1 (t.cs A1) (by rfl) (by rfl) (World.news_of_block (heap_alloc_new w6 _)) (cs_one t A1) (by decide) (by unfold maxLen; omega) (by omega) (by have := hb6.size; simp; omega) (w6.heap.size + 1) (by simp) ?_; intro g7 cap7 w7 hown7 hgr7 hat7 hlt7; have hrow7 := far_row (base := V + 1) hgr7 (fun k1 hk1 => (own_lt htw6.own k1 hk1).1) hrow6 (Nat.lt_succ_self V); have f47 := frozen_of_row w7 _ 4 _ _ hrow7; have p47 := cell_of_row w7 _ 4 _ _ _ hrow7)))
              all_goals
                have hsz6 := hb6.size
                have htwa := htw6.kept (w' := w6.alloc (.cells #[.int .i64 t.k, .bool t.b, .int .i64 t.n, .string t.s, .slice A1.pa t.m A1.pc, .slice A1.na t.q A1.nc] 25)) (by simp) (fun k1 _ h2 => Below.heap_alloc w6 _ k1 h2)
                have hn6 := cnm.kept (w' := w6) (fun k1 h1 h2 => hb6.block k1 h2)
                have hna := hn6.kept (w' := w6.alloc (.cells #[.int .i64 t.k, .bool t.b, .int .i64 t.n, .string t.s, .slice A1.pa t.m A1.pc, .slice A1.na t.q A1.nc] 25)) (fun k1 _ h2 => Below.heap_alloc w6 _ k1 h2)
                have hLa := lies_alloc hL6 (fun k1 hk1 => hk1.2) (.cells #[.int .i64 t.k, .bool t.b, .int .i64 t.n, .string t.s, .slice A1.pa t.m A1.pc, .slice A1.na t.q A1.nc] 25)
                have htw7 := Twin.step (wr := wc) (a := A1) (cap := cap7) htwa (by simp; omega) csz (fun k1 hk1 => (own_lt ctw.own k1 hk1).2.1) (fun k1 hk1 => (own_lt cnm k1 hk1).2.1) (by rw [HTC.out]; exact hLa.up (fun k1 hk1 => ⟨hk1.1, by simp; omega⟩)) (by rw [HTC.out]; exact hown7) hgr7 (by simpa using hat7)
                have hn7 := hna.parts htwa.own hgr7
                have hset : ∀ k1, k1 ≠ V → (w7.setCell ⟨V, 4, none⟩ (.slice (some ⟨g7, 0, none⟩) (c + 1) cap7)).heap[k1]? = w7.heap[k1]? := fun k1 hk1 => Below.heap_setCell _ _ _ k1 hk1
                have htw8 := htw7.kept (w' := w7.setCell ⟨V, 4, none⟩ (.slice (some ⟨g7, 0, none⟩) (c + 1) cap7)) (by simp) (fun k1 h1 _ => hset k1 (by omega))
                have hn8 := hn7.kept (w' := w7.setCell ⟨V, 4, none⟩ (.slice (some ⟨g7, 0, none⟩) (c + 1) cap7)) (fun k1 h1 _ => hset k1 (by omega))
                have hrow8 := row_setCell (k := 4) hrow7 (.slice (some ⟨g7, 0, none⟩) (c + 1) cap7)
                have hbz := ((((cbw.trans (hb6.mono (by omega))).alloc (by omega) (.cells #[.int .i64 t.k, .bool t.b, .int .i64 t.n, .string t.s, .slice A1.pa t.m A1.pc, .slice A1.na t.q A1.nc] 25)).grown hgr7 (by simp; omega) (fun k1 hk1 => by have := (own_lt htw6.own k1 hk1).1; omega))).setCell (p := ⟨V, 4, none⟩) (Nat.le_refl _) (.slice (some ⟨g7, 0, none⟩) (c + 1) cap7)
                have hsz8 : V + 1 ≤ (w7.setCell ⟨V, 4, none⟩ (.slice (some ⟨g7, 0, none⟩) (c + 1) cap7)).heap.size := by have := hgr7.size; simp at this; simp; omega
                clear hset htw7 htwa hna hLa hn6 hgr7 hown7 hat7 hlt7 hrow7 f47 p47 hrow6 p46 p4a hb6 hsz6 hL6 hn7 htw6
                go_wp2
                go_roundw
                case rel =>
                  have hkk : keptP g os i (k + 1) = keptP g os i k ++ [a0] := by
                    show (if keepP g os i k then _ else _) = _
                    rw [if_pos (by unfold keepP; rw [decide_eq_false hlast]; rfl), HA0.out]
                  refine ⟨k + 1, _, _, l ++ [g a0], c + 1, _, by omega, by go_num, hrow8, hbz, hsz8, ?_, ?_, htw8, hn8⟩
                  · rw [hkk, HL.out, List.map_append]; rfl
                  · rw [hkk, List.length_append, HCC.out]; rfl
                case measure => simp [intOf]; omega
        · obtain rfl : k = i := by omega
          have hzero := (hbw.block (w.heap.size + 1) (by omega)).trans r14
          have hbf : Below w.heap.size w wr := hb04.trans (hbw.mono (by omega))
          clear hV3 hV4
          have a0 := cell_of_row wr _ 0 _ _ _ hzero
          have a1 := cell_of_row wr _ 1 _ _ _ hzero
          have a2 := cell_of_row wr _ 2 _ _ _ hzero
          have a3 := cell_of_row wr _ 3 _ _ _ hzero
          have a4 := cell_of_row wr _ 4 _ _ _ hzero
          have a5 := cell_of_row wr _ 5 _ _ _ hzero
          have b0 := frozen_of_row wr _ 0 _ _ hzero
          have b1 := frozen_of_row wr _ 1 _ _ hzero
          have b2 := frozen_of_row wr _ 2 _ _ hzero
          have b3 := frozen_of_row wr _ 3 _ _ hzero
          have b4 := frozen_of_row wr _ 4 _ _ hzero
          have b5 := frozen_of_row wr _ 5 _ _ hzero
          have hnsz : ∀ s ∈ l, s.size ≤ maxLen := fun s hs => by
            rw [hl] at hs
            simp only [List.mem_map] at hs
            obtain ⟨a, ha, rfl⟩ := hs
            exact HGS.out a (kept_lt g os k q (fun p hp => by have := hos p hp; omega) k (Nat.le_refl _) a ha)
          obtain ⟨pa', pc', rfl, hpc, hpp, hll⟩ := htw.done (S := fun k => V + 1 ≤ k ∧ k < wr.heap.size) (fun k h1 h2 => ⟨h1, h2⟩)
          obtain ⟨na', nc', rfl, hnk⟩ := hnm.done (S := fun k => V + 1 ≤ k ∧ k < wr.heap.size) hnsz (fun k h1 h2 => ⟨h1, h2⟩)
          have hlc : l.length = c := by rw [hl, List.length_map, hc]
          rw [hlc] at hnk hrow
          have e0 := cell_of_row wr _ 0 _ _ _ hrow
          have e1 := cell_of_row wr _ 1 _ _ _ hrow
          have e2 := cell_of_row wr _ 2 _ _ _ hrow
          have e3 := cell_of_row wr _ 3 _ _ _ hrow
          have e4 := cell_of_row wr _ 4 _ _ _ hrow
          have e5 := cell_of_row wr _ 5 _ _ _ hrow
          have HL : Hid (l = (keptP g os k k).map g) := hl
          have HCC : Hid (c = (keptP g os k k).length) := hc
          have HNK : Hid (NamesS (fun k => V + 1 ≤ k ∧ k < wr.heap.size) wr c (fun i => l.getD i ⟨#[]⟩) na' nc') := hnk
          have HPP : Hid (0 < c → ∃ b o, pa' = some ⟨b, o, none⟩ ∧ (V + 1 ≤ b ∧ b < wr.heap.size) ∧ ∀ i, i < c → At6 wr b (o + i * 6) (T i) (A' i)) := hpp
          have HLL : Hid (∀ i, i < c → LiesS (fun k => V + 1 ≤ k ∧ k < wr.heap.size) wr (T i) (A' i)) := hll
          clear htw hnm hnsz hl hc hnk hpp hll hlc
          go_wp2
          change bodyPost _ _ _ _ _ (set6 wr (w.heap.size + 1) (.int .i64 6) (.bool false) (.int .i64 0) (.string ⟨#[]⟩) (.slice pa' c pc') (.slice na' c nc'))
          have hro := set6_row hzero (.int .i64 6) (.bool false) (.int .i64 0) (.string ⟨#[]⟩) (.slice pa' c pc') (.slice na' c nc')
          have hkeep : ∀ k1, k1 ≠ w.heap.size + 1 → (set6 wr (w.heap.size + 1) (.int .i64 6) (.bool false) (.int .i64 0) (.string ⟨#[]⟩) (.slice pa' c pc') (.slice na' c nc')).heap[k1]? = wr.heap[k1]? := fun k1 h1 => set6_block _ _ _ _ _ _ _ _ k1 h1
          have hsz := set6_size wr (w.heap.size + 1) (.int .i64 6) (.bool false) (.int .i64 0) (.string ⟨#[]⟩) (.slice pa' c pc') (.slice na' c nc')
          have hof := set6_below hbf (w.heap.size + 1) (by omega) (.int .i64 6) (.bool false) (.int .i64 0) (.string ⟨#[]⟩) (.slice pa' c pc') (.slice na' c nc')
          obtain ⟨wf, hwf⟩ : ∃ wf, set6 wr (w.heap.size + 1) (.int .i64 6) (.bool false) (.int .i64 0) (.string ⟨#[]⟩) (.slice pa' c pc') (.slice na' c nc') = wf := ⟨_, rfl⟩
          rw [hwf] at hro hkeep hsz hof ⊢
          clear hwf
          have o0 := cell_of_row wf _ 0 _ _ _ hro
          have o1 := cell_of_row wf _ 1 _ _ _ hro
          have o2 := cell_of_row wf _ 2 _ _ _ hro
          have o3 := cell_of_row wf _ 3 _ _ _ hro
          have o4 := cell_of_row wf _ 4 _ _ _ hro
          have o5 := cell_of_row wf _ 5 _ _ _ hro
          have hst : structT g f (osF g n) (n + 1) = .mk 6 false 0 ⟨#[]⟩ c T c (fun j => l.getD j ⟨#[]⟩) := by
            rw [HNN.out, HOS.out, structT, HCC.out, HL.out]
            congr 1
            funext j
            exact (HT.out j).symm
          rw [hst]
          refine bodyPost_ret (v := .agg #[.int .i64 6, .bool false, .int .i64 0, .string ⟨#[]⟩, .slice pa' c pc', .slice na' c nc']) (by simp [results, Try.results21, go_sem, o0, o1, o2, o3, o4, o5]) rfl ⟨⟨pa', pc', na', nc'⟩, rfl, ?_, hof⟩
          have hfin : LiesS (fun k => V + 1 ≤ k ∧ k < wr.heap.size) wr (.mk 6 false 0 ⟨#[]⟩ c T c (fun j => l.getD j ⟨#[]⟩)) ⟨pa', pc', na', nc'⟩ := .mk A' (by decide) (by decide) (Nat.zero_le _) hpc HPP.out HLL.out HNK.out
          have hV3 := HVN.out
          exact (hfin.kept (fun k1 hk => hkeep k1 (by omega))).up (fun k1 hk => ⟨by omega, by omega⟩)
end Go.Proofs.Ytjmjlijmeahmfaa
