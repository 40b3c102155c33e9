/- A struct of names and parts (Struct), of up to 12 of each. Calls of the library at this program (strings.Join, strconv.Atoi): its own contracts, laid by its command in plain words. -/
import Derived.Test.YtnnclhmhbmbkfaaGreatDoorXan
import Derived.Deep.CutRange
import Derived.Shelf.Strings.Builder1
import Derived.Shelf.Strings.Builder2
import Derived.Shelf.Strings.OnBuilder
import Derived.Shelf.Small.Bits
import Derived.Shelf.Small.Strs
import Derived.Shelf.Strconv.Atoi
import Derived.Shelf.Strconv.Itoa0
import Derived.Shelf.Strconv.Itoa1
import Derived.Shelf.LaysM
import Derived.Shelf.Strconv.Itoa2
import Derived.Shelf.Strconv.Itoa3
import Derived.Shelf.Strconv.AtoiErrFast
import Derived.Shelf.Strconv.ParseIntEmpty
import Derived.Shelf.Strconv.AtoiFail
import Derived.Shelf.Strconv.Clone
import Derived.Shelf.Strconv.SyntaxError
import Derived.Shelf.LaysC
import Derived.Shelf.Strconv.ToError
import Derived.Shelf.Strconv.AtoiErr
import Derived.Shelf.Strconv.ErrVar
import Derived.Shelf.Strconv.Lower
import Derived.Shelf.Strconv.ParseUint10
import Derived.Shelf.Strconv.ParseUint10Empty
import Derived.Shelf.Strconv.ParseUint10Any
import Derived.Shelf.Strconv.ParseInt10
import Derived.Shelf.Strconv.AtoiLong
import Derived.Shelf.Strconv.AtoiInnerAll
import Derived.Shelf.Strconv.RangeError
import Derived.Shelf.Strconv.ToErrorRange
import Derived.Shelf.Strconv.AtoiAll
import Derived.Shelf.Strconv.ErrVarAll
import Derived.Shelf.Strconv.ParseUintEmpty
import Derived.Shelf.Strconv.ParseUint10b64
import Derived.Shelf.Strconv.ParseUint10b32
import Derived.Shelf.Strconv.ParseUint10b16
import Derived.Shelf.Strconv.ParseUint10b8
import Derived.Shelf.Strconv.ParseUint10At
import Derived.Shelf.Strconv.ParseInt10At64
import Derived.Shelf.Strconv.ParseInt10At32
import Derived.Shelf.Strconv.ParseInt10At16
import Derived.Shelf.Strconv.ParseInt10At8
import Derived.Shelf.Strconv.ParseInt10All
import Derived.Shelf.Strconv.ParseIntPublic10
import Derived.Shelf.Strconv.ErrVarParseInt
import Derived.Shelf.Strings.Search1
import Derived.Shelf.Strings.Prefix
import Derived.Ground.Names2Prog
import Derived.Test.YtnnclhmhbmbkfaaGreatDoorProg
namespace Go.Proofs.YtnnclhmhbmbkfaaGreatDoor.V
open Go.RowKit
set_option maxRecDepth 100000 in
set_option maxHeartbeats 8000000 in
theorem struct_any {B : Nat} {w : World} {q nc nb no : Nat} {g : Nat → ByteArray} {m pc pb po : Nat} {f : Nat → Tr} {A : Nat → Ad} (n : Nat) (hn12 : n + 1 ≤ 12) (hqm : n + 1 = min q m) (hB : B ≤ w.heap.size)
    (hnb : nb < B) (hnc : ∀ i, i < q → w.cell? ⟨nb, no + i, none⟩ = some (.string (g i))) (hgs : ∀ i, i < q → (g i).size ≤ maxLen)
    (hpb : pb < B) (hat : ∀ i, i < m → At6 w pb (po + i * 6) (f i) (A i)) (hr : ∀ i, i < m → Lies B w (f i) (A i)) (hsl : ∀ i, i < m → slimq (f i)) :
    Calls Tryz.prog 20 #[.slice (some ⟨nb, no, none⟩) q nc, .slice (some ⟨pb, po, none⟩) m pc] w fun e w' => ∃ A', e = .returned ((structT g f (osF g n) (n + 1)).val A') ∧ LiesS (fun k => w.heap.size ≤ k ∧ k < w'.heap.size) w' (structT g f (osF g n) (n + 1)) A' ∧ Below w.heap.size w w' := by
  obtain ⟨N, hN⟩ : ∃ N : Nat, n + 1 = N := ⟨_, rfl⟩
  have hNq : N ≤ q := by omega
  have hNm : N ≤ m := by omega
  have hmin : min (q : Int) (m : Int) = (N : Int) := by omega
  obtain ⟨i3, hi3, hx0, hx1, hx2⟩ := info_parts info3
  have hmk : ∀ W : World, (Instr.makeSlice 52 (.int .i64 (N : Int)) (.int .i64 (N : Int))).run Tryz.prog W = .ok (.slice (some ⟨W.heap.size, 0, none⟩) N N) (W.alloc (.cells (madeCells (Value.cells (.int .i64 0)) (N * 1)) 3)) := fun W => by
    have := run_makeSlice (P := Tryz.prog) W 52 3 i3 _ Tryz.underlying52 hi3 hx0 .i64 .i64 (N : Int) (N : Int) (by omega) (by omega) (by rw [hx1]; simp; omega) (by rw [hx2]; omega) (by omega)
    rw [hx1] at this
    simpa using this
  obtain ⟨zs, hzs⟩ : ∃ zs, madeCells (Value.cells (.int .i64 0)) (N * 1) = zs := ⟨_, rfl⟩
  have hzn : zs.size = N := by rw [← hzs, size_madeCells]; omega
  rw [hzs] at hmk
  have HZ : Hid (zs.size = N) := hzn
  have HNC : Hid (∀ i, i < q → w.cell? ⟨nb, no + i, none⟩ = some (.string (g i))) := hnc
  have HGS : Hid (∀ i, i < q → (g i).size ≤ maxLen) := hgs
  have HAT : Hid (∀ i, i < m → At6 w pb (po + i * 6) (f i) (A i)) := hat
  have HR : Hid (∀ i, i < m → Lies B w (f i) (A i)) := hr
  have HSL : Hid (∀ i, i < m → slimq (f i)) := hsl
  have HNN : Hid (n + 1 = N) := hN
  clear hzn hzs hi3 hx0 hx1 hx2 hnc hgs hat hr hsl hqm
  go_enter Tryz.func20, Tryz.ntmps20
  go_wp2_with fail
  obtain ⟨W2, hW2⟩ : ∃ W2, (w.alloc (.cells #[.slice (some ⟨nb, no, none⟩) q nc] 23)).alloc (.cells #[.int .i64 0, .bool false, .int .i64 0, .string ⟨#[]⟩, .slice none 0 0, .slice none 0 0] 25) = W2 := ⟨_, rfl⟩
  have hb2 : Below w.heap.size w W2 := by rw [← hW2]; exact ((Below.refl _ w).alloc (Nat.le_refl _) _).alloc (by simp) _
  have hs2 : W2.heap.size = w.heap.size + 1 + 1 := by rw [← hW2]; simp
  have r0 : W2.heap[w.heap.size]? = some (.cells #[.slice (some ⟨nb, no, none⟩) q nc] 23 (0, 0)) := by
    rw [← hW2, Below.heap_alloc _ _ _ (by simp)]; exact heap_alloc_new _ _
  have r1 : W2.heap[w.heap.size + 1]? = some (.cells #[.int .i64 0, .bool false, .int .i64 0, .string ⟨#[]⟩, .slice none 0 0, .slice none 0 0] 25 (0, 0)) := by
    rw [← hW2]; have := heap_alloc_new (w.alloc (.cells #[.slice (some ⟨nb, no, none⟩) q nc] 23)) (.cells #[.int .i64 0, .bool false, .int .i64 0, .string ⟨#[]⟩, .slice none 0 0, .slice none 0 0] 25); simpa using this
  have r2 : (W2.alloc (.cells zs 3)).heap[w.heap.size + 1 + 1]? = some (.cells zs 3 (0, 0)) := by rw [← hs2]; exact heap_alloc_new _ _
  rw [hW2]
  clear hW2
  go_loopw [18] (fun c18 wr => ∃ (i : Nat) (cur : Array Value), i ≤ N ∧ c18 = .int .i64 (i : Int) ∧ wr.heap[w.heap.size + 1 + 1]? = some (.cells cur 3 (0, 0)) ∧ cur.size = N ∧ (∀ j, j < i → cur[j]? = some (.int .i64 (j : Int))) ∧ Below (w.heap.size + 1 + 1) W2 wr ∧ wr.heap.size = w.heap.size + 1 + 1 + 1) (fun c18 _ => N - (intOf c18).toNat)
  case atStart => exact ⟨0, zs, by omega, rfl, r2, HZ.out, fun j hj => by omega, (Below.refl _ _).alloc (by omega) _, by simp; omega⟩
  case round =>
    clear r2
    obtain ⟨i, cur, hi', rfl, hrow, hcn, hcs, hbw, hsz⟩ := hrel
    by_cases hiN : i < N
    · have hiN' : (i : Int) < (N : Int) := by omega
      have e0 : wr.cell? ⟨w.heap.size + 1 + 1, i, none⟩ = some cur[i] := by rw [cell_of_row wr _ _ _ _ _ hrow]; exact Array.getElem?_eq_getElem (by omega)
      have z0 := frozen_of_row wr _ i _ _ hrow
      go_wp2
      go_roundw
      case rel =>
        refine ⟨i + 1, cur.setIfInBounds i (.int .i64 (i : Int)), by omega, by go_num, row_setCell (k := i) hrow _, by simpa using hcn, fun j hj => ?_, hbw.setCell (p := ⟨w.heap.size + 1 + 1, i, none⟩) (Nat.le_refl _) _, by simpa using hsz⟩
        rw [Array.getElem?_setIfInBounds]
        by_cases hji : i = j
        · subst hji; rw [if_pos rfl, if_pos (by omega)]
        · rw [if_neg hji]; exact hcs j (by omega)
      case measure => simp [intOf]; omega
    · obtain rfl : i = N := by omega
      have hBw : Below B w wr := (hb2.mono hB).trans (hbw.mono (by omega))
      have hcon := sort_ints (g := g) hn12 (by omega) hrow (fun j hj => hcs j (by omega)) (cell_of_row wr _ 0 _ _ _ ((hbw.block w.heap.size (by omega)).trans r0)) (fun i hi => cell_later (HNC.out i hi) hnb hBw) (by omega) (by omega)
      rw [HNN.out] at hcon
      have hos : ∀ p, p < i → osF g n p < i := fun p hp => by rw [← HNN.out]; exact osF_lt g n p
      obtain ⟨os, hos2⟩ : ∃ os, osF g n = os := ⟨_, rfl⟩
      rw [hos2] at hcon hos
      have HOS : Hid (osF g n = os) := hos2
      clear hos2
      go_wp2_with fail
      refine hcon.mono ?_
      rintro e w4 ⟨rfl, hc4, hk4, hb4, hs4⟩
      go_wp2_with fail
      obtain ⟨V, hVl⟩ : ∃ V, w.heap.size + 1 + 1 + 1 = V := ⟨_, rfl⟩
      have hVn : V = w.heap.size + 1 + 1 + 1 := by omega
      have hV : w4.heap.size = V := by omega
      have hb04 : Below w.heap.size w w4 := hb2.trans ((hbw.mono (by omega)).trans (hb4.mono (by omega)))
      have r04 : w4.heap[w.heap.size]? = some (.cells #[.slice (some ⟨nb, no, none⟩) q nc] 23 (0, 0)) := (hk4 _ (by omega)).trans ((hbw.block _ (by omega)).trans r0)
      have r14 : w4.heap[w.heap.size + 1]? = some (.cells #[.int .i64 0, .bool false, .int .i64 0, .string ⟨#[]⟩, .slice none 0 0, .slice none 0 0] 25 (0, 0)) := (hk4 _ (by omega)).trans ((hbw.block _ (by omega)).trans r1)
      have rv : (w4.alloc (.cells #[.int .i64 6, .bool false, .int .i64 0, .string ⟨#[]⟩, .slice none 0 0, .slice none 0 0] 25)).heap[V]? = some (.cells #[.int .i64 6, .bool false, .int .i64 0, .string ⟨#[]⟩, .slice none 0 0, .slice none 0 0] 25 (0, 0)) := by rw [← hV]; exact heap_alloc_new _ _
      have hbv : Below V w4 (w4.alloc (.cells #[.int .i64 6, .bool false, .int .i64 0, .string ⟨#[]⟩, .slice none 0 0, .slice none 0 0] 25)) := (Below.refl _ _).alloc (by omega) _
      have hsv : (w4.alloc (.cells #[.int .i64 6, .bool false, .int .i64 0, .string ⟨#[]⟩, .slice none 0 0, .slice none 0 0] 25)).heap.size = V + 1 := by simp; omega
      rw [hVl]
      clear hVl
      have HV : Hid (w4.heap.size = V) := hV
      have HVN : Hid (V = w.heap.size + 1 + 1 + 1) := hVn
      have HC4 : Hid (∀ p, p < i → w4.cell? ⟨w.heap.size + 1 + 1, p, none⟩ = some (.int .i64 (os p : Int))) := hc4
      obtain ⟨T, hT⟩ : ∃ T : Nat → Tr, T = fun j => f ((keptP g os i i).getD j 0) := ⟨_, rfl⟩
      have HT : Hid (∀ j, T j = f ((keptP g os i i).getD j 0)) := fun j => by rw [hT]
      clear hV hVn hc4 hk4 hb4 hs4 hT hcon hbw hsz hrow hcs hcn hBw hb2 r0 r1 hs2
      obtain ⟨i0, hi, hz0, hz1, hz2⟩ := info_parts info25
      obtain ⟨j0, hj, hy0, hy1, hy2⟩ := info_parts info9
      go_loopw [32] (fun c32 wr => ∃ (k : Nat) (v u : Value) (l : List ByteArray) (c : Nat) (A' : Nat → Ad), k ≤ i ∧ c32 = .int .i64 (k : Int) ∧ wr.heap[V]? = some (.cells #[.int .i64 6, .bool false, .int .i64 0, .string ⟨#[]⟩, v, u] 25 (0, 0)) ∧ Below V w4 wr ∧ V + 1 ≤ wr.heap.size ∧ l = (keptP g os i k).map g ∧ c = (keptP g os i k).length ∧ Twin u.ownBlock (V + 1) wr v c T A' ∧ Nms (V + 1) wr u l) (fun c32 _ => i - (intOf c32).toNat)
      case atStart => exact ⟨0, .slice none 0 0, .slice none 0 0, [], 0, A, by omega, rfl, rv, hbv, by omega, rfl, rfl, Twin.start _ _ _ _ _, Nms.start _ _⟩
      case round =>
        clear rv hbv hsv
        obtain ⟨k, v, u, l, c, A', hk', rfl, hrow, hbw, hszr, hl, hc, htw, hnm⟩ := hrel
        have hV3 := HVN.out
        have hV4 := HV.out
        by_cases hkN : k < i
        · have hkN' : (k : Int) < (i : Int) := by omega
          have hBw : Below B w wr := (hb04.mono hB).trans (hbw.mono (by omega))
          have eo := cell_later (HC4.out k hkN) (show w.heap.size + 1 + 1 < V by omega) hbw
          have ez := cell_of_row wr _ 0 _ _ _ ((hbw.block w.heap.size (by omega)).trans r04)
          have hoq := hos k hkN
          have hlt4 := lt_of_row hrow
          obtain ⟨a0, ha0⟩ : ∃ a0, os k = a0 := ⟨_, rfl⟩
          rw [ha0] at eo hoq
          have en := cell_later (HNC.out a0 (by omega)) hnb hBw
          have hoq' : (a0 : Int) < (q : Int) := by omega
          have hom' : (a0 : Int) < (m : Int) := by omega
          have HA0 : Hid (os k = a0) := ha0
          have hcl : c ≤ 12 := by rw [hc]; have := kept_len g os i k; omega
          have hll : l.length ≤ 12 := by rw [hl, List.length_map]; have := kept_len g os i k; omega
          have HL : Hid (l = (keptP g os i k).map g) := hl
          have HCC : Hid (c = (keptP g os i k).length) := hc
          have hO3 : w.heap.size + 1 + 1 < V := by omega
          have hO4 : w4.heap.size ≤ V := by omega
          clear ha0 hl hc hV3 hV4
          have hwk : IntKind.i64.wrap ((k : Int) + 1) = (k : Int) + 1 := by rw [IntKind.wrap_i64]; omega
          by_cases hlast : k + 1 < i
          · have hlast' : (k : Int) + 1 < (i : Int) := by omega
            have eo1 := cell_later (HC4.out (k + 1) hlast) hO3 hbw
            have hoq1 := hos (k + 1) hlast
            obtain ⟨a1, ha1⟩ : ∃ a1, os (k + 1) = a1 := ⟨_, rfl⟩
            rw [ha1] at eo1 hoq1
            have en1 := cell_later (HNC.out a1 (by omega)) hnb hBw
            have hoq1' : (a1 : Int) < (q : Int) := by omega
            have HA1 : Hid (os (k + 1) = a1) := ha1
            clear ha1
            obtain ⟨eqb, heq⟩ : ∃ eqb, ((g a1).toList == (g a0).toList) = eqb := ⟨_, rfl⟩
            cases eqb with
            | true =>
              have HEQ : Hid (((g a1).toList == (g a0).toList) = true) := heq
              go_wp2_with fail
              go_quiet (fail)
              go_wp2_with fail
              go_roundw
              case rel =>
                have hkk : keptP g os i (k + 1) = keptP g os i k := by
                  show (if keepP g os i k then _ else _) = _
                  rw [if_neg (by unfold keepP; rw [HA1.out, HA0.out, HEQ.out, decide_eq_true hlast]; decide)]
                refine ⟨k + 1, v, u, l, c, A', by omega, by go_num, hrow, ⟨hbw.os, hbw.tape, hbw.output, hbw.size, hbw.block⟩, hszr, by rw [hkk]; exact HL.out, by rw [hkk]; exact HCC.out, htw.kept (w' := wr.drewN nq) (Nat.le_refl _) (fun _ _ _ => rfl), hnm.kept (w' := wr.drewN nq) (fun _ _ _ => rfl)⟩
              case measure => simp [intOf]; omega
            | false =>
              have HEQ : Hid (((g a1).toList == (g a0).toList) = false) := heq
              go_wp2_with fail
              go_quiet (fail)
              go_wp2_with fail
              obtain ⟨wx, hwx⟩ : ∃ wx, wr.drewN nq = wx := ⟨_, rfl⟩
              have xrow : wx.heap[V]? = some (.cells #[.int .i64 6, .bool false, .int .i64 0, .string ⟨#[]⟩, v, u] 25 (0, 0)) := by rw [← hwx]; exact hrow
              have xbw : Below V w4 wx := by rw [← hwx]; exact ⟨hbw.os, hbw.tape, hbw.output, hbw.size, hbw.block⟩
              have xsz : V + 1 ≤ wx.heap.size := by rw [← hwx]; exact hszr
              have xtw : Twin u.ownBlock (V + 1) wx v c T A' := by rw [← hwx]; exact htw.kept (w' := wr.drewN nq) (Nat.le_refl _) (fun _ _ _ => rfl)
              have xnm : Nms (V + 1) wx u l := by rw [← hwx]; exact hnm.kept (w' := wr.drewN nq) (fun _ _ _ => rfl)
              rw [hwx]
              clear hwx hrow hbw hszr htw hnm en ez eo hBw
              have hBx : Below B w wx := (hb04.mono hB).trans (xbw.mono (by omega))
              have ez := cell_of_row wx _ 0 _ _ _ ((xbw.block w.heap.size (by omega)).trans r04)
              have en := cell_later (HNC.out a0 (by omega)) hnb hBx
              have e5 := cell_of_row wx _ 5 _ _ _ xrow
              have xnd : Nms (V + 1) wx.drew u l := xnm.kept (w' := wx.drew) (fun _ _ _ => rfl)
              have ezd : wx.drew.cell? ⟨w.heap.size, 0, none⟩ = some (.slice (some ⟨nb, no, none⟩) q nc) := ez
              have xrd : wx.drew.heap[V]? = some (.cells #[.int .i64 6, .bool false, .int .i64 0, .string ⟨#[]⟩, v, u] 25 (0, 0)) := xrow
              have e5a : ∀ o, (wx.alloc o).cell? ⟨V, 5, none⟩ = some u := fun o => cell_kept e5 (Below.heap_alloc wx o _ (block_lt e5))
              go_cut [32] from 32 to 76 (fun c32 w5 => c32 = .int .i64 (k : Int) ∧ ∃ u', w5.heap[V]? = some (.cells #[.int .i64 6, .bool false, .int .i64 0, .string ⟨#[]⟩, v, u'] 25 (0, 0)) ∧ Below V w4 w5 ∧ V + 1 ≤ w5.heap.size ∧ Twin u'.ownBlock (V + 1) w5 v c T A' ∧ Nms (V + 1) w5 u' (l ++ [g a0]))
              case first =>
                go_region_law (first | (refine step_append_lies _ (by rfl) (.tmp 58) (.tmp 63) 23 (by rfl) (V + 1) 9 j0 _ 1 16 Tryz.underlying23 hj hy0 hy1 hy2 (by rfl) (by decide) u l.length _ (by rfl) (xnd.alloc _) ⟨wx.heap.size, 0, none⟩ 1 1 [.string (g a0)] (by rfl) (by rfl) (World.news_of_block (heap_alloc_new wx.drew _)) (fun u hu => by simp at hu; subst hu; rfl) (by decide) (by unfold maxLen; omega) (by omega) (by simp; omega) (wx.heap.size + 1) (by simp) ?_; intro g3 cap3 w3 hown3 hgr3' hat3 hlt3; have hgr3 : (wx.alloc (.cells #[.string (g a0)] 9)).grownBy w3 u.ownBlock := ⟨hgr3'.os, hgr3'.tape, hgr3'.output, hgr3'.size, hgr3'.block⟩; clear hgr3'; have hrow3 := far_row (base := V + 1) hgr3 (fun k1 hk1 => (own_lt xnd k1 hk1).1) xrow (Nat.lt_succ_self V); have f53 := frozen_of_row w3 _ 5 _ _ hrow3; have e53 := cell_of_row w3 _ 5 _ _ _ hrow3))
                all_goals
                  have htwa := xtw.kept (w' := wx.alloc (.cells #[.string (g a0)] 9)) (by simp) (fun k1 _ h2 => Below.heap_alloc wx _ k1 h2)
                  have hna := xnm.kept (w' := wx.alloc (.cells #[.string (g a0)] 9)) (fun k1 _ h2 => Below.heap_alloc wx _ k1 h2)
                  have htw3 := Twin.named (c := l.length + 1) (cap := cap3) htwa hna hgr3 (by simpa using hat3)
                  have hset : ∀ k1, k1 ≠ V → (w3.setCell ⟨V, 5, none⟩ (.slice (some ⟨g3, 0, none⟩) (l.length + 1) cap3)).heap[k1]? = w3.heap[k1]? := fun k1 hk1 => Below.heap_setCell _ _ _ k1 hk1
                  have htw5 := htw3.kept (w' := w3.setCell ⟨V, 5, none⟩ (.slice (some ⟨g3, 0, none⟩) (l.length + 1) cap3)) (by simp) (fun k1 h1 _ => hset k1 (by omega))
                  have hn3 : Nms (V + 1) w3 (.slice (some ⟨g3, 0, none⟩) (l.length + 1) cap3) (l ++ [g a0]) := by
                    have : strs (l ++ [g a0]) = strs l ++ [.string (g a0)] := by simp [strs]
                    unfold Nms
                    rw [this, List.length_append]
                    exact hown3
                  have hn5 := hn3.kept (w' := w3.setCell ⟨V, 5, none⟩ (.slice (some ⟨g3, 0, none⟩) (l.length + 1) cap3)) (fun k1 h1 _ => hset k1 (by omega))
                  have hrow5 := row_setCell (k := 5) hrow3 (.slice (some ⟨g3, 0, none⟩) (l.length + 1) cap3)
                  have hbz := ((xbw.alloc (by omega) (.cells #[.string (g a0)] 9)).grown hgr3 (by simp; omega) (fun k1 hk1 => by have := (own_lt xnm k1 hk1).1; omega)).setCell (p := ⟨V, 5, none⟩) (Nat.le_refl _) (.slice (some ⟨g3, 0, none⟩) (l.length + 1) cap3)
                  have hsz5 : V + 1 ≤ (w3.setCell ⟨V, 5, none⟩ (.slice (some ⟨g3, 0, none⟩) (l.length + 1) cap3)).heap.size := by have := hgr3.size; simp at this; simp; omega
                  go_wp2_with fail
                  go_meet
                  case rel => exact ⟨rfl, _, hrow5, hbz, hsz5, htw5, hn5⟩
              case rest =>
                obtain ⟨rfl, u', crow, cbw, csz, ctw, cnm⟩ := hcut
                have crow' : wc.heap[V]? = some (.cells #[.int .i64 6, .bool false, .int .i64 0, .string ⟨#[]⟩, v, u'] 25 (0, 0)) := crow
                have clt := lt_of_row crow'
                have p4 := cell_of_row wc _ 4 _ _ _ crow'
                have hBc : Below B w wc := (hb04.mono hB).trans (cbw.mono (by omega))
                have h6a := (HAT.out a0 (by omega)).later hpb hBc
                have d0 := h6a.c0
                have d1 := h6a.c1
                have d2 := h6a.c2
                have d3 := h6a.c3
                have d4 := h6a.c4
                have d5 := h6a.c5
                have hLc : Lies B wc.drew (f a0) (A a0) := LiesS.kept (w := wc) (w' := wc.drew) (fun _ _ => rfl) ((HR.out a0 (by omega)).later hBc)
                have hTc : T c = f a0 := by rw [HT.out, HCC.out, kept_at g os i k hkN (by unfold keepP; rw [HA1.out, HA0.out, HEQ.out]; simp), HA0.out]
                obtain ⟨t, ht⟩ : ∃ t, f a0 = t := ⟨_, rfl⟩
                have hslt : slimq t := by rw [← ht]; exact HSL.out a0 (by omega)
                rw [ht] at d0 d1 d2 d3 d4 d5 hLc hTc
                obtain ⟨ad, had⟩ : ∃ ad, A a0 = ad := ⟨_, rfl⟩
                rw [had] at d4 d5 hLc
                have hcall : Calls Tryz.prog 22 #[.agg #[.int .i64 t.k, .bool t.b, .int .i64 t.n, .string t.s, .slice ad.pa t.m ad.pc, .slice ad.na t.q ad.nc]] wc.drew fun r w' => ∃ A1 : Ad, r = .returned (.agg #[.int .i64 t.k, .bool t.b, .int .i64 t.n, .string t.s, .slice A1.pa t.m A1.pc, .slice A1.na t.q A1.nc]) ∧ LiesS (fun k => wc.heap.size ≤ k ∧ k < w'.heap.size) w' t A1 ∧ Below wc.heap.size wc w' := by
                  refine (clone_all t hslt B wc.drew ad hLc (by show B ≤ wc.heap.size; omega)).mono ?_
                  rintro e1 w' ⟨A1, h1, h2, h3⟩
                  exact ⟨A1, h1, h2, (Below.refl _ wc).drew.trans h3⟩
                have HTC : Hid (T c = t) := hTc
                clear h6a hLc hBc hTc ht had hslt crow
                go_wp2_with fail
                go_region_law ((first | (go_simp; go_at_call 22; refine hcall.mono ?_; rintro e w6 ⟨A1, rfl, hL6, hb6⟩; have hrow6 := (hb6.block _ clt).trans crow'; have p46 := cell_of_row w6 _ 4 _ _ _ hrow6; have p4a : ∀ o, (w6.alloc o).cell? ⟨V, 4, none⟩ = some v := fun o => cell_kept p46 (Below.heap_alloc w6 o _ (block_lt p46)); have htw6 := ctw.kept (w' := w6) hb6.size (fun k1 h1 h2 => hb6.block k1 h2); dsimp only) | (refine step_append_lies _ (by rfl) (.tmp 67) (.tmp 73) 22 (by rfl) (V + 1) 25 i0 _ 6 88 Tryz.underlying22 hi hz0 hz1 hz2 (by rfl) (by decide) v c _ (by rfl) (htw6.own.alloc _) ⟨w6.heap.size, 0, none⟩ 1 1 (t.cs A1) (by rfl) (by rfl) (World.news_of_block (heap_alloc_new w6 _)) (cs_one t A1) (by decide) (by unfold maxLen; omega) (by omega) (by have := hb6.size; simp; omega) (w6.heap.size + 1) (by simp) ?_; intro g7 cap7 w7 hown7 hgr7 hat7 hlt7; have hrow7 := far_row (base := V + 1) hgr7 (fun k1 hk1 => (own_lt htw6.own k1 hk1).1) hrow6 (Nat.lt_succ_self V); have f47 := frozen_of_row w7 _ 4 _ _ hrow7; have p47 := cell_of_row w7 _ 4 _ _ _ hrow7)))
                all_goals
                  have hsz6 := hb6.size
                  have htwa := htw6.kept (w' := w6.alloc (.cells #[.int .i64 t.k, .bool t.b, .int .i64 t.n, .string t.s, .slice A1.pa t.m A1.pc, .slice A1.na t.q A1.nc] 25)) (by simp) (fun k1 _ h2 => Below.heap_alloc w6 _ k1 h2)
                  have hn6 := cnm.kept (w' := w6) (fun k1 h1 h2 => hb6.block k1 h2)
                  have hna := hn6.kept (w' := w6.alloc (.cells #[.int .i64 t.k, .bool t.b, .int .i64 t.n, .string t.s, .slice A1.pa t.m A1.pc, .slice A1.na t.q A1.nc] 25)) (fun k1 _ h2 => Below.heap_alloc w6 _ k1 h2)
                  have hLa := lies_alloc hL6 (fun k1 hk1 => hk1.2) (.cells #[.int .i64 t.k, .bool t.b, .int .i64 t.n, .string t.s, .slice A1.pa t.m A1.pc, .slice A1.na t.q A1.nc] 25)
                  have htw7 := Twin.step (wr := wc) (a := A1) (cap := cap7) htwa (by simp; omega) csz (fun k1 hk1 => (own_lt ctw.own k1 hk1).2.1) (fun k1 hk1 => (own_lt cnm k1 hk1).2.1) (by rw [HTC.out]; exact hLa.up (fun k1 hk1 => ⟨hk1.1, by simp; omega⟩)) (by rw [HTC.out]; exact hown7) hgr7 (by simpa using hat7)
                  have hn7 := hna.parts htwa.own hgr7
                  have hset : ∀ k1, k1 ≠ V → (w7.setCell ⟨V, 4, none⟩ (.slice (some ⟨g7, 0, none⟩) (c + 1) cap7)).heap[k1]? = w7.heap[k1]? := fun k1 hk1 => Below.heap_setCell _ _ _ k1 hk1
                  have htw8 := htw7.kept (w' := w7.setCell ⟨V, 4, none⟩ (.slice (some ⟨g7, 0, none⟩) (c + 1) cap7)) (by simp) (fun k1 h1 _ => hset k1 (by omega))
                  have hn8 := hn7.kept (w' := w7.setCell ⟨V, 4, none⟩ (.slice (some ⟨g7, 0, none⟩) (c + 1) cap7)) (fun k1 h1 _ => hset k1 (by omega))
                  have hrow8 := row_setCell (k := 4) hrow7 (.slice (some ⟨g7, 0, none⟩) (c + 1) cap7)
                  have hbz := ((((cbw.trans (hb6.mono (by omega))).alloc (by omega) (.cells #[.int .i64 t.k, .bool t.b, .int .i64 t.n, .string t.s, .slice A1.pa t.m A1.pc, .slice A1.na t.q A1.nc] 25)).grown hgr7 (by simp; omega) (fun k1 hk1 => by have := (own_lt htw6.own k1 hk1).1; omega))).setCell (p := ⟨V, 4, none⟩) (Nat.le_refl _) (.slice (some ⟨g7, 0, none⟩) (c + 1) cap7)
                  have hsz8 : V + 1 ≤ (w7.setCell ⟨V, 4, none⟩ (.slice (some ⟨g7, 0, none⟩) (c + 1) cap7)).heap.size := by have := hgr7.size; simp at this; simp; omega
                  clear hset htw7 htwa hna hLa hn6 hgr7 hown7 hat7 hlt7 hrow7 f47 p47 hrow6 p46 p4a hb6 hsz6 hL6 hn7 htw6
                  go_wp2
                  go_roundw
                  case rel =>
                    have hkk : keptP g os i (k + 1) = keptP g os i k ++ [a0] := by
                      show (if keepP g os i k then _ else _) = _
                      rw [if_pos (by unfold keepP; rw [HA1.out, HA0.out, HEQ.out]; simp), HA0.out]
                    refine ⟨k + 1, _, _, l ++ [g a0], c + 1, _, by omega, by go_num, hrow8, hbz, hsz8, ?_, ?_, htw8, hn8⟩
                    · rw [hkk, HL.out, List.map_append]; rfl
                    · rw [hkk, List.length_append, HCC.out]; rfl
                  case measure => simp [intOf]; omega
          · have hlast' : ¬ ((k : Int) + 1 < (i : Int)) := by omega
            have hdec : decide ((k : Int) + 1 < (i : Int)) = false := by simp; omega
            go_wp2_with fail
            go_region
            go_wp2_with fail
            obtain ⟨wx, hwx⟩ : ∃ wx, wr.drew = wx := ⟨_, rfl⟩
            have xrow : wx.heap[V]? = some (.cells #[.int .i64 6, .bool false, .int .i64 0, .string ⟨#[]⟩, v, u] 25 (0, 0)) := by rw [← hwx]; exact hrow
            have xbw : Below V w4 wx := by rw [← hwx]; exact ⟨hbw.os, hbw.tape, hbw.output, hbw.size, hbw.block⟩
            have xsz : V + 1 ≤ wx.heap.size := by rw [← hwx]; exact hszr
            have xtw : Twin u.ownBlock (V + 1) wx v c T A' := by rw [← hwx]; exact htw.kept (w' := wr.drew) (Nat.le_refl _) (fun _ _ _ => rfl)
            have xnm : Nms (V + 1) wx u l := by rw [← hwx]; exact hnm.kept (w' := wr.drew) (fun _ _ _ => rfl)
            rw [hwx]
            clear hwx hrow hbw hszr htw hnm en ez eo hBw
            have hBx : Below B w wx := (hb04.mono hB).trans (xbw.mono (by omega))
            have ez := cell_of_row wx _ 0 _ _ _ ((xbw.block w.heap.size (by omega)).trans r04)
            have en := cell_later (HNC.out a0 (by omega)) hnb hBx
            have e5 := cell_of_row wx _ 5 _ _ _ xrow
            have xnd : Nms (V + 1) wx.drew u l := xnm.kept (w' := wx.drew) (fun _ _ _ => rfl)
            have ezd : wx.drew.cell? ⟨w.heap.size, 0, none⟩ = some (.slice (some ⟨nb, no, none⟩) q nc) := ez
            have xrd : wx.drew.heap[V]? = some (.cells #[.int .i64 6, .bool false, .int .i64 0, .string ⟨#[]⟩, v, u] 25 (0, 0)) := xrow
            have e5a : ∀ o, (wx.alloc o).cell? ⟨V, 5, none⟩ = some u := fun o => cell_kept e5 (Below.heap_alloc wx o _ (block_lt e5))
            go_cut [32] from 32 to 76 (fun c32 w5 => c32 = .int .i64 (k : Int) ∧ ∃ u', w5.heap[V]? = some (.cells #[.int .i64 6, .bool false, .int .i64 0, .string ⟨#[]⟩, v, u'] 25 (0, 0)) ∧ Below V w4 w5 ∧ V + 1 ≤ w5.heap.size ∧ Twin u'.ownBlock (V + 1) w5 v c T A' ∧ Nms (V + 1) w5 u' (l ++ [g a0]))
            case first =>
              go_region_law (first | (refine step_append_lies _ (by rfl) (.tmp 58) (.tmp 63) 23 (by rfl) (V + 1) 9 j0 _ 1 16 Tryz.underlying23 hj hy0 hy1 hy2 (by rfl) (by decide) u l.length _ (by rfl) (xnd.alloc _) ⟨wx.heap.size, 0, none⟩ 1 1 [.string (g a0)] (by rfl) (by rfl) (World.news_of_block (heap_alloc_new wx.drew _)) (fun u hu => by simp at hu; subst hu; rfl) (by decide) (by unfold maxLen; omega) (by omega) (by simp; omega) (wx.heap.size + 1) (by simp) ?_; intro g3 cap3 w3 hown3 hgr3' hat3 hlt3; have hgr3 : (wx.alloc (.cells #[.string (g a0)] 9)).grownBy w3 u.ownBlock := ⟨hgr3'.os, hgr3'.tape, hgr3'.output, hgr3'.size, hgr3'.block⟩; clear hgr3'; have hrow3 := far_row (base := V + 1) hgr3 (fun k1 hk1 => (own_lt xnd k1 hk1).1) xrow (Nat.lt_succ_self V); have f53 := frozen_of_row w3 _ 5 _ _ hrow3; have e53 := cell_of_row w3 _ 5 _ _ _ hrow3))
              all_goals
                have htwa := xtw.kept (w' := wx.alloc (.cells #[.string (g a0)] 9)) (by simp) (fun k1 _ h2 => Below.heap_alloc wx _ k1 h2)
                have hna := xnm.kept (w' := wx.alloc (.cells #[.string (g a0)] 9)) (fun k1 _ h2 => Below.heap_alloc wx _ k1 h2)
                have htw3 := Twin.named (c := l.length + 1) (cap := cap3) htwa hna hgr3 (by simpa using hat3)
                have hset : ∀ k1, k1 ≠ V → (w3.setCell ⟨V, 5, none⟩ (.slice (some ⟨g3, 0, none⟩) (l.length + 1) cap3)).heap[k1]? = w3.heap[k1]? := fun k1 hk1 => Below.heap_setCell _ _ _ k1 hk1
                have htw5 := htw3.kept (w' := w3.setCell ⟨V, 5, none⟩ (.slice (some ⟨g3, 0, none⟩) (l.length + 1) cap3)) (by simp) (fun k1 h1 _ => hset k1 (by omega))
                have hn3 : Nms (V + 1) w3 (.slice (some ⟨g3, 0, none⟩) (l.length + 1) cap3) (l ++ [g a0]) := by
                  have : strs (l ++ [g a0]) = strs l ++ [.string (g a0)] := by simp [strs]
                  unfold Nms
                  rw [this, List.length_append]
                  exact hown3
                have hn5 := hn3.kept (w' := w3.setCell ⟨V, 5, none⟩ (.slice (some ⟨g3, 0, none⟩) (l.length + 1) cap3)) (fun k1 h1 _ => hset k1 (by omega))
                have hrow5 := row_setCell (k := 5) hrow3 (.slice (some ⟨g3, 0, none⟩) (l.length + 1) cap3)
                have hbz := ((xbw.alloc (by omega) (.cells #[.string (g a0)] 9)).grown hgr3 (by simp; omega) (fun k1 hk1 => by have := (own_lt xnm k1 hk1).1; omega)).setCell (p := ⟨V, 5, none⟩) (Nat.le_refl _) (.slice (some ⟨g3, 0, none⟩) (l.length + 1) cap3)
                have hsz5 : V + 1 ≤ (w3.setCell ⟨V, 5, none⟩ (.slice (some ⟨g3, 0, none⟩) (l.length + 1) cap3)).heap.size := by have := hgr3.size; simp at this; simp; omega
                go_wp2_with fail
                go_meet
                case rel => exact ⟨rfl, _, hrow5, hbz, hsz5, htw5, hn5⟩
            case rest =>
              obtain ⟨rfl, u', crow, cbw, csz, ctw, cnm⟩ := hcut
              have crow' : wc.heap[V]? = some (.cells #[.int .i64 6, .bool false, .int .i64 0, .string ⟨#[]⟩, v, u'] 25 (0, 0)) := crow
              have clt := lt_of_row crow'
              have p4 := cell_of_row wc _ 4 _ _ _ crow'
              have hBc : Below B w wc := (hb04.mono hB).trans (cbw.mono (by omega))
              have h6a := (HAT.out a0 (by omega)).later hpb hBc
              have d0 := h6a.c0
              have d1 := h6a.c1
              have d2 := h6a.c2
              have d3 := h6a.c3
              have d4 := h6a.c4
              have d5 := h6a.c5
              have hLc : Lies B wc.drew (f a0) (A a0) := LiesS.kept (w := wc) (w' := wc.drew) (fun _ _ => rfl) ((HR.out a0 (by omega)).later hBc)
              have hTc : T c = f a0 := by rw [HT.out, HCC.out, kept_at g os i k hkN (by unfold keepP; rw [decide_eq_false hlast]; rfl), HA0.out]
              obtain ⟨t, ht⟩ : ∃ t, f a0 = t := ⟨_, rfl⟩
              have hslt : slimq t := by rw [← ht]; exact HSL.out a0 (by omega)
              rw [ht] at d0 d1 d2 d3 d4 d5 hLc hTc
              obtain ⟨ad, had⟩ : ∃ ad, A a0 = ad := ⟨_, rfl⟩
              rw [had] at d4 d5 hLc
              have hcall : Calls Tryz.prog 22 #[.agg #[.int .i64 t.k, .bool t.b, .int .i64 t.n, .string t.s, .slice ad.pa t.m ad.pc, .slice ad.na t.q ad.nc]] wc.drew fun r w' => ∃ A1 : Ad, r = .returned (.agg #[.int .i64 t.k, .bool t.b, .int .i64 t.n, .string t.s, .slice A1.pa t.m A1.pc, .slice A1.na t.q A1.nc]) ∧ LiesS (fun k => wc.heap.size ≤ k ∧ k < w'.heap.size) w' t A1 ∧ Below wc.heap.size wc w' := by
                refine (clone_all t hslt B wc.drew ad hLc (by show B ≤ wc.heap.size; omega)).mono ?_
                rintro e1 w' ⟨A1, h1, h2, h3⟩
                exact ⟨A1, h1, h2, (Below.refl _ wc).drew.trans h3⟩
              have HTC : Hid (T c = t) := hTc
              clear h6a hLc hBc hTc ht had hslt crow
              go_wp2_with fail
              go_region_law ((first | (go_simp; go_at_call 22; refine hcall.mono ?_; rintro e w6 ⟨A1, rfl, hL6, hb6⟩; have hrow6 := (hb6.block _ clt).trans crow'; have p46 := cell_of_row w6 _ 4 _ _ _ hrow6; have p4a : ∀ o, (w6.alloc o).cell? ⟨V, 4, none⟩ = some v := fun o => cell_kept p46 (Below.heap_alloc w6 o _ (block_lt p46)); have htw6 := ctw.kept (w' := w6) hb6.size (fun k1 h1 h2 => hb6.block k1 h2); dsimp only) | (refine step_append_lies _ (by rfl) (.tmp 67) (.tmp 73) 22 (by rfl) (V + 1) 25 i0 _ 6 88 Tryz.underlying22 hi hz0 hz1 hz2 (by rfl) (by decide) v c _ (by rfl) (htw6.own.alloc _) ⟨w6.heap.size, 0, none⟩ 1 1 (t.cs A1) (by rfl) (by rfl) (World.news_of_block (heap_alloc_new w6 _)) (cs_one t A1) (by decide) (by unfold maxLen; omega) (by omega) (by have := hb6.size; simp; omega) (w6.heap.size + 1) (by simp) ?_; intro g7 cap7 w7 hown7 hgr7 hat7 hlt7; have hrow7 := far_row (base := V + 1) hgr7 (fun k1 hk1 => (own_lt htw6.own k1 hk1).1) hrow6 (Nat.lt_succ_self V); have f47 := frozen_of_row w7 _ 4 _ _ hrow7; have p47 := cell_of_row w7 _ 4 _ _ _ hrow7)))
              all_goals
                have hsz6 := hb6.size
                have htwa := htw6.kept (w' := w6.alloc (.cells #[.int .i64 t.k, .bool t.b, .int .i64 t.n, .string t.s, .slice A1.pa t.m A1.pc, .slice A1.na t.q A1.nc] 25)) (by simp) (fun k1 _ h2 => Below.heap_alloc w6 _ k1 h2)
                have hn6 := cnm.kept (w' := w6) (fun k1 h1 h2 => hb6.block k1 h2)
                have hna := hn6.kept (w' := w6.alloc (.cells #[.int .i64 t.k, .bool t.b, .int .i64 t.n, .string t.s, .slice A1.pa t.m A1.pc, .slice A1.na t.q A1.nc] 25)) (fun k1 _ h2 => Below.heap_alloc w6 _ k1 h2)
                have hLa := lies_alloc hL6 (fun k1 hk1 => hk1.2) (.cells #[.int .i64 t.k, .bool t.b, .int .i64 t.n, .string t.s, .slice A1.pa t.m A1.pc, .slice A1.na t.q A1.nc] 25)
                have htw7 := Twin.step (wr := wc) (a := A1) (cap := cap7) htwa (by simp; omega) csz (fun k1 hk1 => (own_lt ctw.own k1 hk1).2.1) (fun k1 hk1 => (own_lt cnm k1 hk1).2.1) (by rw [HTC.out]; exact hLa.up (fun k1 hk1 => ⟨hk1.1, by simp; omega⟩)) (by rw [HTC.out]; exact hown7) hgr7 (by simpa using hat7)
                have hn7 := hna.parts htwa.own hgr7
                have hset : ∀ k1, k1 ≠ V → (w7.setCell ⟨V, 4, none⟩ (.slice (some ⟨g7, 0, none⟩) (c + 1) cap7)).heap[k1]? = w7.heap[k1]? := fun k1 hk1 => Below.heap_setCell _ _ _ k1 hk1
                have htw8 := htw7.kept (w' := w7.setCell ⟨V, 4, none⟩ (.slice (some ⟨g7, 0, none⟩) (c + 1) cap7)) (by simp) (fun k1 h1 _ => hset k1 (by omega))
                have hn8 := hn7.kept (w' := w7.setCell ⟨V, 4, none⟩ (.slice (some ⟨g7, 0, none⟩) (c + 1) cap7)) (fun k1 h1 _ => hset k1 (by omega))
                have hrow8 := row_setCell (k := 4) hrow7 (.slice (some ⟨g7, 0, none⟩) (c + 1) cap7)
                have hbz := ((((cbw.trans (hb6.mono (by omega))).alloc (by omega) (.cells #[.int .i64 t.k, .bool t.b, .int .i64 t.n, .string t.s, .slice A1.pa t.m A1.pc, .slice A1.na t.q A1.nc] 25)).grown hgr7 (by simp; omega) (fun k1 hk1 => by have := (own_lt htw6.own k1 hk1).1; omega))).setCell (p := ⟨V, 4, none⟩) (Nat.le_refl _) (.slice (some ⟨g7, 0, none⟩) (c + 1) cap7)
                have hsz8 : V + 1 ≤ (w7.setCell ⟨V, 4, none⟩ (.slice (some ⟨g7, 0, none⟩) (c + 1) cap7)).heap.size := by have := hgr7.size; simp at this; simp; omega
                clear hset htw7 htwa hna hLa hn6 hgr7 hown7 hat7 hlt7 hrow7 f47 p47 hrow6 p46 p4a hb6 hsz6 hL6 hn7 htw6
                go_wp2
                go_roundw
                case rel =>
                  have hkk : keptP g os i (k + 1) = keptP g os i k ++ [a0] := by
                    show (if keepP g os i k then _ else _) = _
                    rw [if_pos (by unfold keepP; rw [decide_eq_false hlast]; rfl), HA0.out]
                  refine ⟨k + 1, _, _, l ++ [g a0], c + 1, _, by omega, by go_num, hrow8, hbz, hsz8, ?_, ?_, htw8, hn8⟩
                  · rw [hkk, HL.out, List.map_append]; rfl
                  · rw [hkk, List.length_append, HCC.out]; rfl
                case measure => simp [intOf]; omega
        · obtain rfl : k = i := by omega
          have hzero := (hbw.block (w.heap.size + 1) (by omega)).trans r14
          have hbf : Below w.heap.size w wr := hb04.trans (hbw.mono (by omega))
          clear hV3 hV4
          have a0 := cell_of_row wr _ 0 _ _ _ hzero
          have a1 := cell_of_row wr _ 1 _ _ _ hzero
          have a2 := cell_of_row wr _ 2 _ _ _ hzero
          have a3 := cell_of_row wr _ 3 _ _ _ hzero
          have a4 := cell_of_row wr _ 4 _ _ _ hzero
          have a5 := cell_of_row wr _ 5 _ _ _ hzero
          have b0 := frozen_of_row wr _ 0 _ _ hzero
          have b1 := frozen_of_row wr _ 1 _ _ hzero
          have b2 := frozen_of_row wr _ 2 _ _ hzero
          have b3 := frozen_of_row wr _ 3 _ _ hzero
          have b4 := frozen_of_row wr _ 4 _ _ hzero
          have b5 := frozen_of_row wr _ 5 _ _ hzero
          have hnsz : ∀ s ∈ l, s.size ≤ maxLen := fun s hs => by
            rw [hl] at hs
            simp only [List.mem_map] at hs
            obtain ⟨a, ha, rfl⟩ := hs
            exact HGS.out a (kept_lt g os k q (fun p hp => by have := hos p hp; omega) k (Nat.le_refl _) a ha)
          obtain ⟨pa', pc', rfl, hpc, hpp, hll⟩ := htw.done (S := fun k => V + 1 ≤ k ∧ k < wr.heap.size) (fun k h1 h2 => ⟨h1, h2⟩)
          obtain ⟨na', nc', rfl, hnk⟩ := hnm.done (S := fun k => V + 1 ≤ k ∧ k < wr.heap.size) hnsz (fun k h1 h2 => ⟨h1, h2⟩)
          have hlc : l.length = c := by rw [hl, List.length_map, hc]
          rw [hlc] at hnk hrow
          have e0 := cell_of_row wr _ 0 _ _ _ hrow
          have e1 := cell_of_row wr _ 1 _ _ _ hrow
          have e2 := cell_of_row wr _ 2 _ _ _ hrow
          have e3 := cell_of_row wr _ 3 _ _ _ hrow
          have e4 := cell_of_row wr _ 4 _ _ _ hrow
          have e5 := cell_of_row wr _ 5 _ _ _ hrow
          have HL : Hid (l = (keptP g os k k).map g) := hl
          have HCC : Hid (c = (keptP g os k k).length) := hc
          have HNK : Hid (NamesS (fun k => V + 1 ≤ k ∧ k < wr.heap.size) wr c (fun i => l.getD i ⟨#[]⟩) na' nc') := hnk
          have HPP : Hid (0 < c → ∃ b o, pa' = some ⟨b, o, none⟩ ∧ (V + 1 ≤ b ∧ b < wr.heap.size) ∧ ∀ i, i < c → At6 wr b (o + i * 6) (T i) (A' i)) := hpp
          have HLL : Hid (∀ i, i < c → LiesS (fun k => V + 1 ≤ k ∧ k < wr.heap.size) wr (T i) (A' i)) := hll
          clear htw hnm hnsz hl hc hnk hpp hll hlc
          go_wp2
          change bodyPost _ _ _ _ _ (set6 wr (w.heap.size + 1) (.int .i64 6) (.bool false) (.int .i64 0) (.string ⟨#[]⟩) (.slice pa' c pc') (.slice na' c nc'))
          have hro := set6_row hzero (.int .i64 6) (.bool false) (.int .i64 0) (.string ⟨#[]⟩) (.slice pa' c pc') (.slice na' c nc')
          have hkeep : ∀ k1, k1 ≠ w.heap.size + 1 → (set6 wr (w.heap.size + 1) (.int .i64 6) (.bool false) (.int .i64 0) (.string ⟨#[]⟩) (.slice pa' c pc') (.slice na' c nc')).heap[k1]? = wr.heap[k1]? := fun k1 h1 => set6_block _ _ _ _ _ _ _ _ k1 h1
          have hsz := set6_size wr (w.heap.size + 1) (.int .i64 6) (.bool false) (.int .i64 0) (.string ⟨#[]⟩) (.slice pa' c pc') (.slice na' c nc')
          have hof := set6_below hbf (w.heap.size + 1) (by omega) (.int .i64 6) (.bool false) (.int .i64 0) (.string ⟨#[]⟩) (.slice pa' c pc') (.slice na' c nc')
          obtain ⟨wf, hwf⟩ : ∃ wf, set6 wr (w.heap.size + 1) (.int .i64 6) (.bool false) (.int .i64 0) (.string ⟨#[]⟩) (.slice pa' c pc') (.slice na' c nc') = wf := ⟨_, rfl⟩
          rw [hwf] at hro hkeep hsz hof ⊢
          clear hwf
          have o0 := cell_of_row wf _ 0 _ _ _ hro
          have o1 := cell_of_row wf _ 1 _ _ _ hro
          have o2 := cell_of_row wf _ 2 _ _ _ hro
          have o3 := cell_of_row wf _ 3 _ _ _ hro
          have o4 := cell_of_row wf _ 4 _ _ _ hro
          have o5 := cell_of_row wf _ 5 _ _ _ hro
          have hst : structT g f (osF g n) (n + 1) = .mk 6 false 0 ⟨#[]⟩ c T c (fun j => l.getD j ⟨#[]⟩) := by
            rw [HNN.out, HOS.out, structT, HCC.out, HL.out]
            congr 1
            funext j
            exact (HT.out j).symm
          rw [hst]
          refine bodyPost_ret (v := .agg #[.int .i64 6, .bool false, .int .i64 0, .string ⟨#[]⟩, .slice pa' c pc', .slice na' c nc']) (by simp [results, Tryz.results20, go_sem, o0, o1, o2, o3, o4, o5]) rfl ⟨⟨pa', pc', na', nc'⟩, rfl, ?_, hof⟩
          have hfin : LiesS (fun k => V + 1 ≤ k ∧ k < wr.heap.size) wr (.mk 6 false 0 ⟨#[]⟩ c T c (fun j => l.getD j ⟨#[]⟩)) ⟨pa', pc', na', nc'⟩ := .mk A' (by decide) (by decide) (Nat.zero_le _) hpc HPP.out HLL.out HNK.out
          have hV3 := HVN.out
          exact (hfin.kept (fun k1 hk => hkeep k1 (by omega))).up (fun k1 hk => ⟨by omega, by omega⟩)
end Go.Proofs.YtnnclhmhbmbkfaaGreatDoor.V
/-
  DERIVED: THE SHELF's CONTRACTS AT THIS DUMP, IN PLAIN WORDS (tools/lay-plain.mjs out of 'TryzShelfT.lean', which tools/lay-shelf.mjs wrote): THE SAME DECLARATIONS UNDER THE SAME NAMES: 'import', 'namespace', 'open', 'def', 'theorem' AND NOTHING ELSE: no command of the shelf's: FOR A HAND-IN. Each laying: the table of numbers ('.._ren') and one theorem, a field a fact of the dump's own or the kernel's comparison; each contract: ONE APPLICATION.
-/
namespace Go.Proofs
open Go.Shelf
def Tryz.lays156_ren : Go.Shelf.Ren := ⟨fun | 156 => 137 | 165 => 160 | 166 => 161 | 169 => 125 | 240 => 144 | 241 => 177 | 276 => 166 | 277 => 183 | n => n, fun | 31 => 23 | 9 => 9 | 3 => 3 | 4 => 4 | 0 => 0 | 20 => 20 | 72 => 155 | 76 => 146 | 70 => 152 | 37 => 153 | 75 => 141 | 127 => 164 | 164 => 176 | 5 => 5 | 80 => 117 | n => n, fun | n => n⟩
theorem Tryz.lays156 : Go.Proofs.Lays.n156 Tryz.prog Tryz.lays156_ren := {
  mixed := by kernel_rfl
  f156 := Tryz.func137.trans (congrArg some (by kernel_rfl))
  f165 := Tryz.func160.trans (congrArg some (by kernel_rfl))
  f166 := Tryz.func161.trans (congrArg some (by kernel_rfl))
  f169 := Tryz.func125.trans (congrArg some (by kernel_rfl))
  f240 := Tryz.func144.trans (congrArg some (by kernel_rfl))
  f241 := Tryz.func177.trans (congrArg some (by kernel_rfl))
  f276 := Tryz.func166.trans (congrArg some (by kernel_rfl))
  f277 := Tryz.func183.trans (congrArg some (by kernel_rfl))
  t0 := Tryz.underlying0
  a0 := Tryz.isAgg0
  z0 := Tryz.sizeOf0
  v0 := Tryz.zeroValue0
  t3 := Tryz.underlying3
  a3 := Tryz.isAgg3
  z3 := Tryz.sizeOf3
  v3 := Tryz.zeroValue3
  t4 := Tryz.underlying4
  a4 := Tryz.isAgg4
  z4 := Tryz.sizeOf4
  v4 := Tryz.zeroValue4
  t9 := Tryz.underlying9
  a9 := Tryz.isAgg9
  z9 := Tryz.sizeOf9
  v9 := Tryz.zeroValue9
  t20 := Tryz.underlying20
  a20 := Tryz.isAgg20
  z20 := Tryz.sizeOf20
  v20 := Tryz.zeroValue20
  t31 := Tryz.underlying23
  a31 := Tryz.isAgg23
  z31 := Tryz.sizeOf23
  v31 := Tryz.zeroValue23
  t37 := Tryz.underlying153
  a37 := Tryz.isAgg153
  z37 := Tryz.sizeOf153
  v37 := Tryz.zeroValue153
  t70 := Tryz.underlying152
  a70 := Tryz.isAgg152
  z70 := Tryz.sizeOf152
  v70 := Tryz.zeroValue152
  t72 := Tryz.underlying155
  a72 := Tryz.isAgg155
  z72 := Tryz.sizeOf155
  v72 := Tryz.zeroValue155
  t75 := Tryz.underlying141
  a75 := Tryz.isAgg141
  z75 := Tryz.sizeOf141
  v75 := Tryz.zeroValue141
  t76 := Tryz.underlying146
  a76 := Tryz.isAgg146
  z76 := Tryz.sizeOf146
  v76 := Tryz.zeroValue146
  t127 := Tryz.underlying164
  a127 := Tryz.isAgg164
  z127 := Tryz.sizeOf164
  v127 := Tryz.zeroValue164
  t164 := Tryz.underlying176
  a164 := Tryz.isAgg176
  z164 := Tryz.sizeOf176
  v164 := Tryz.zeroValue176 }
theorem Tryz.Builder_Extra_156 : Builder.Extra Tryz.prog Tryz.lays156_ren := {
  sizeBuilder := by kernel_rfl
  liesBuilder := by kernel_rfl
  t5 := Tryz.underlying5
  a5 := Tryz.isAgg5
  z5 := Tryz.sizeOf5
  v5 := Tryz.zeroValue5
  infoByte := by kernel_rfl
  cellsByte := by kernel_rfl
  sizeByte := by kernel_rfl
  neB5 := by decide }
open Go.RowKit in
/-- No element: the empty string; the world is as it was. (Whatever the slice's address and capacity: a nil slice too.) (LAID: no walk: one application.) -/
theorem Tryz.strings_Join_none (a : Option Addr) (c : Nat) (sep : ByteArray) (w : World) :
    Calls Tryz.prog 137 #[.slice a 0 c, .string sep] w fun e w' => e = .returned (.string ⟨#[]⟩) ∧ w' = w := Any.strings_Join_none Tryz.lays156 Tryz.Builder_Extra_156 a c sep w
open Go.RowKit in
/-- strings.Join: "Join concatenates the elements of its first argument to create a single string. The separator string sep is placed between elements in the resulting string.": HOWEVER MANY ELEMENTS. Below the heap's end the world is as it was. (LAID: no walk: one application.) -/
theorem Tryz.strings_Join (bk o c : Nat) (xs : List ByteArray) (sep : ByteArray) (w : World) (hcells : ∀ (j : Nat) x, xs[j]? = some x → w.cell? ⟨bk, o + j, none⟩ = some (.string x)) (hbk : bk < w.heap.size) (hN : xs.length ≤ 140737488355328) (hcap : xs.length ≤ c) (hlen : (Lib.join (xs.map (·.data.toList)) sep.data.toList).length ≤ 140737488355328) :
    Calls Tryz.prog 137 #[.slice (some ⟨bk, o, none⟩) xs.length c, .string sep] w fun e w' => e = .returned (.string ⟨(Lib.join (xs.map (·.data.toList)) sep.data.toList).toArray⟩) ∧ Below w.heap.size w w' := Any.strings_Join Tryz.lays156 Tryz.Builder_Extra_156 bk o c xs sep w hcells hbk hN hcap hlen
def Tryz.laysC172_ren : Go.Shelf.Ren := ⟨fun | 172 => 118 | 244 => 138 | 245 => 131 | 247 => 130 | 279 => 147 | 280 => 148 | 281 => 149 | 282 => 150 | 287 => 146 | 316 => 170 | 171 => 172 | 205 => 171 | 321 => 168 | 322 => 169 | 243 => 179 | 246 => 184 | 283 => 185 | 284 => 186 | 285 => 187 | 286 => 188 | 129 => 190 | 317 => 189 | 318 => 191 | 319 => 192 | 320 => 193 | 337 => 194 | 338 => 195 | n => n, fun | 9 => 9 | 3 => 3 | 75 => 141 | 76 => 146 | 4 => 4 | 5 => 5 | 167 => 165 | 37 => 153 | 0 => 0 | 85 => 142 | 2 => 2 | 168 => 168 | 53 => 111 | 175 => 166 | 46 => 148 | 210 => 181 | 127 => 164 | 145 => 196 | 143 => 194 | 21 => 21 | 171 => 201 | 173 => 204 | 212 => 207 | 51 => 191 | 20 => 20 | 213 => 208 | 232 => 211 | 233 => 212 | 80 => 117 | n => n, fun | 15 => 1 | 16 => 2 | 17 => 5 | 18 => 6 | 19 => 7 | n => n⟩
theorem Tryz.laysC172 : Go.Proofs.LaysC.n172 Tryz.prog Tryz.laysC172_ren := {
  mixed := by kernel_rfl
  f129 := Tryz.func190.trans (congrArg some (by kernel_rfl))
  f171 := Tryz.func172.trans (congrArg some (by kernel_rfl))
  f172 := Tryz.func118.trans (congrArg some (by kernel_rfl))
  f205 := Tryz.func171.trans (congrArg some (by kernel_rfl))
  f243 := Tryz.func179.trans (congrArg some (by kernel_rfl))
  f244 := Tryz.func138.trans (congrArg some (by kernel_rfl))
  f245 := Tryz.func131.trans (congrArg some (by kernel_rfl))
  f246 := Tryz.func184.trans (congrArg some (by kernel_rfl))
  f247 := Tryz.func130.trans (congrArg some (by kernel_rfl))
  f279 := Tryz.func147.trans (congrArg some (by kernel_rfl))
  f280 := Tryz.func148.trans (congrArg some (by kernel_rfl))
  f281 := Tryz.func149.trans (congrArg some (by kernel_rfl))
  f282 := Tryz.func150.trans (congrArg some (by kernel_rfl))
  f283 := Tryz.func185.trans (congrArg some (by kernel_rfl))
  f284 := Tryz.func186.trans (congrArg some (by kernel_rfl))
  f285 := Tryz.func187.trans (congrArg some (by kernel_rfl))
  f286 := Tryz.func188.trans (congrArg some (by kernel_rfl))
  f287 := Tryz.func146.trans (congrArg some (by kernel_rfl))
  f316 := Tryz.func170.trans (congrArg some (by kernel_rfl))
  f317 := Tryz.func189.trans (congrArg some (by kernel_rfl))
  f318 := Tryz.func191.trans (congrArg some (by kernel_rfl))
  f319 := Tryz.func192.trans (congrArg some (by kernel_rfl))
  f320 := Tryz.func193.trans (congrArg some (by kernel_rfl))
  f321 := Tryz.func168.trans (congrArg some (by kernel_rfl))
  f322 := Tryz.func169.trans (congrArg some (by kernel_rfl))
  f337 := Tryz.func194.trans (congrArg some (by kernel_rfl))
  f338 := Tryz.func195.trans (congrArg some (by kernel_rfl))
  t0 := Tryz.underlying0
  a0 := Tryz.isAgg0
  z0 := Tryz.sizeOf0
  v0 := Tryz.zeroValue0
  t2 := Tryz.underlying2
  a2 := Tryz.isAgg2
  z2 := Tryz.sizeOf2
  v2 := Tryz.zeroValue2
  t3 := Tryz.underlying3
  a3 := Tryz.isAgg3
  z3 := Tryz.sizeOf3
  v3 := Tryz.zeroValue3
  t4 := Tryz.underlying4
  a4 := Tryz.isAgg4
  z4 := Tryz.sizeOf4
  v4 := Tryz.zeroValue4
  t5 := Tryz.underlying5
  a5 := Tryz.isAgg5
  z5 := Tryz.sizeOf5
  v5 := Tryz.zeroValue5
  t9 := Tryz.underlying9
  a9 := Tryz.isAgg9
  z9 := Tryz.sizeOf9
  v9 := Tryz.zeroValue9
  t20 := Tryz.underlying20
  a20 := Tryz.isAgg20
  z20 := Tryz.sizeOf20
  v20 := Tryz.zeroValue20
  t21 := Tryz.underlying21
  a21 := Tryz.isAgg21
  z21 := Tryz.sizeOf21
  v21 := Tryz.zeroValue21
  t37 := Tryz.underlying153
  a37 := Tryz.isAgg153
  z37 := Tryz.sizeOf153
  v37 := Tryz.zeroValue153
  t46 := Tryz.underlying148
  a46 := Tryz.isAgg148
  z46 := Tryz.sizeOf148
  v46 := Tryz.zeroValue148
  t51 := Tryz.underlying191
  a51 := Tryz.isAgg191
  z51 := Tryz.sizeOf191
  v51 := Tryz.zeroValue191
  t53 := Tryz.underlying111
  a53 := Tryz.isAgg111
  z53 := Tryz.sizeOf111
  v53 := Tryz.zeroValue111
  t75 := Tryz.underlying141
  a75 := Tryz.isAgg141
  z75 := Tryz.sizeOf141
  v75 := Tryz.zeroValue141
  t76 := Tryz.underlying146
  a76 := Tryz.isAgg146
  z76 := Tryz.sizeOf146
  v76 := Tryz.zeroValue146
  t85 := Tryz.underlying142
  a85 := Tryz.isAgg142
  z85 := Tryz.sizeOf142
  v85 := Tryz.zeroValue142
  t127 := Tryz.underlying164
  a127 := Tryz.isAgg164
  z127 := Tryz.sizeOf164
  v127 := Tryz.zeroValue164
  t143 := Tryz.underlying194
  a143 := Tryz.isAgg194
  z143 := Tryz.sizeOf194
  v143 := Tryz.zeroValue194
  t145 := Tryz.underlying196
  a145 := Tryz.isAgg196
  z145 := Tryz.sizeOf196
  v145 := Tryz.zeroValue196
  t167 := Tryz.underlying165
  a167 := Tryz.isAgg165
  z167 := Tryz.sizeOf165
  v167 := Tryz.zeroValue165
  t168 := Tryz.underlying168
  a168 := Tryz.isAgg168
  z168 := Tryz.sizeOf168
  v168 := Tryz.zeroValue168
  t171 := Tryz.underlying201
  a171 := Tryz.isAgg201
  z171 := Tryz.sizeOf201
  v171 := Tryz.zeroValue201
  t173 := Tryz.underlying204
  a173 := Tryz.isAgg204
  z173 := Tryz.sizeOf204
  v173 := Tryz.zeroValue204
  t175 := Tryz.underlying166
  a175 := Tryz.isAgg166
  z175 := Tryz.sizeOf166
  v175 := Tryz.zeroValue166
  t210 := Tryz.underlying181
  a210 := Tryz.isAgg181
  z210 := Tryz.sizeOf181
  v210 := Tryz.zeroValue181
  t212 := Tryz.underlying207
  a212 := Tryz.isAgg207
  z212 := Tryz.sizeOf207
  v212 := Tryz.zeroValue207
  t213 := Tryz.underlying208
  a213 := Tryz.isAgg208
  z213 := Tryz.sizeOf208
  t232 := Tryz.underlying211
  a232 := Tryz.isAgg211
  z232 := Tryz.sizeOf211
  v232 := Tryz.zeroValue211
  t233 := Tryz.underlying212
  a233 := Tryz.isAgg212
  z233 := Tryz.sizeOf212
  v233 := Tryz.zeroValue212
  g15 := by kernel_rfl
  g16 := by kernel_rfl
  g17 := by kernel_rfl
  g18 := by kernel_rfl
  g19 := by kernel_rfl
  t80 := Tryz.underlying117
  a80 := Tryz.isAgg117
  z80 := Tryz.sizeOf117
  v80 := Tryz.zeroValue117
  i0 := by kernel_rfl
  i2 := by kernel_rfl
  i3 := by kernel_rfl
  i4 := by kernel_rfl
  i5 := by kernel_rfl
  i9 := by kernel_rfl
  i20 := by kernel_rfl
  i21 := by kernel_rfl
  i37 := by kernel_rfl
  i46 := by kernel_rfl
  i51 := by kernel_rfl
  i53 := by kernel_rfl
  i75 := by kernel_rfl
  i76 := by kernel_rfl
  i80 := by kernel_rfl
  i85 := by kernel_rfl
  i127 := by kernel_rfl
  i143 := by kernel_rfl
  i145 := by kernel_rfl
  i167 := by kernel_rfl
  i168 := by kernel_rfl
  i171 := by kernel_rfl
  i173 := by kernel_rfl
  i175 := by kernel_rfl
  i210 := by kernel_rfl
  i212 := by kernel_rfl
  i232 := by kernel_rfl
  i233 := by kernel_rfl
  m15 := by kernel_rfl
  m16 := by kernel_rfl
  m17 := by kernel_rfl
  m18 := by kernel_rfl
  m19 := by kernel_rfl
  c0 := by kernel_rfl
  c2 := by kernel_rfl
  c3 := by kernel_rfl
  c4 := by kernel_rfl
  c5 := by kernel_rfl
  c9 := by kernel_rfl
  c20 := by kernel_rfl
  c21 := by kernel_rfl
  c37 := by kernel_rfl
  c46 := by kernel_rfl
  c51 := by kernel_rfl
  c53 := by kernel_rfl
  c75 := by kernel_rfl
  c76 := by kernel_rfl
  c80 := by kernel_rfl
  c85 := by kernel_rfl
  c127 := by kernel_rfl
  c143 := by kernel_rfl
  c145 := by kernel_rfl
  c167 := by kernel_rfl
  c168 := by kernel_rfl
  c171 := by kernel_rfl
  c173 := by kernel_rfl
  c175 := by kernel_rfl
  c210 := by kernel_rfl
  c212 := by kernel_rfl
  c213 := by kernel_rfl
  c232 := by kernel_rfl
  c233 := by kernel_rfl }
open Go.RowKit in
/-- strconv.Atoi, AT EVERY STRING THAT SPELLS AN int ('Lib.atoiAll .. = .ok v'; of whatever length: leading zeros count): v, AND NO ERROR. The world: as it was, or with the one new row that '[]byte(..)' lays. (LAID: no walk: one application.) -/
theorem Tryz.strconv_Atoi_ok (s : ByteArray) (hmax : s.size ≤ 9223372036854775806) (v : Int) (h : Lib.atoiAll s.data.toList = .ok v) (w : World) :
    Calls Tryz.prog 118 #[.string s] w fun e w' => e = .returned (.tuple #[.int .i64 v, .nilIface]) ∧ (w' = w ∨ ∃ t, w' = Lib.bytesWorld w 5 t) := Any.strconv_Atoi_ok Tryz.laysC172 s hmax v h w
open Go.RowKit in
/-- strconv.Atoi, AT EVERY STRING THAT IS NO DECIMAL NUMERAL ('.syntax'): 0, AND AN ERROR THAT IS NOT nil: a *NumError in a new block N: {Func: "Atoi", Num: s's bytes, Err: what the variable ErrSyntax holds}. Of what was there nothing has turned. (LAID: no walk: one application.) -/
theorem Tryz.strconv_Atoi_syntax (s : ByteArray) (hlim : s.size ≤ 281474976710656) (h : Lib.atoiAll s.data.toList = .«syntax») (ev : Value) (w : World) (hv : w.cell? ⟨1, 0, none⟩ = some ev) (hev : ev = .nilIface ∨ ∃ te pe, ev = .iface te pe) :
    Calls Tryz.prog 118 #[.string s] w fun e w' => ∃ N, e = .returned (.tuple #[.int .i64 (0), .iface 168 (.pointer (some ⟨N, 0, none⟩))]) ∧ w.heap.size ≤ N ∧ w'.heap[N]? = some (.cells #[.string ⟨#[65, 116, 111, 105]⟩, .string s, ev] 181 (0, 0)) ∧ Below w.heap.size w w' := Any.strconv_Atoi_syntax Tryz.laysC172 s hlim h ev w hv hev
open Go.RowKit in
/-- strconv.Atoi, AT EVERY NUMERAL THAT NO int HOLDS ('.range'): THE GREATEST OR THE LEAST int, BY THE SIGN ('Lib.atoiSat'), AND AN ERROR THAT IS NOT nil: a *NumError in a new block N: {Func: "Atoi", Num: s's bytes, Err: what the variable ErrRange holds}. Of what was there nothing has turned. (LAID: no walk: one application.) -/
theorem Tryz.strconv_Atoi_range (s : ByteArray) (hlim : s.size ≤ 281474976710656) (h : Lib.atoiAll s.data.toList = .range) (ev : Value) (w : World) (hv : w.cell? ⟨2, 0, none⟩ = some ev) (hev : ev = .nilIface ∨ ∃ te pe, ev = .iface te pe) :
    Calls Tryz.prog 118 #[.string s] w fun e w' => ∃ N, e = .returned (.tuple #[.int .i64 (Lib.atoiSat s.data.toList), .iface 168 (.pointer (some ⟨N, 0, none⟩))]) ∧ w.heap.size ≤ N ∧ w'.heap[N]? = some (.cells #[.string ⟨#[65, 116, 111, 105]⟩, .string s, ev] 181 (0, 0)) ∧ Below w.heap.size w w' := Any.strconv_Atoi_range Tryz.laysC172 s hlim h ev w hv hev
end Go.Proofs
