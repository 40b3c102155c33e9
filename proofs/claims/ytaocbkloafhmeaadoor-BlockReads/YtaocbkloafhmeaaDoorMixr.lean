/- The document's own Mix, called: of any words and any string of 64 bytes it returns the block function of the plain facts, and nothing that was there has changed. -/
import Derived.Test.YtaocbkloafhmeaaDoorSalts
import Derived.WalkKit
import Derived.WalkSpells
import Derived.WalkLawsBesides
import Derived.Deep.QuietTactic
import Derived.BigQuiet
import Derived.Deep.RegionWith
import Derived.Deep.RegionHeld3
import Derived.Deep.DrawnRows
import Derived.BigRegion
namespace Go.Proofs.YtaocbkloafhmeaaDoor
open Go.RowKit
attribute [local go_sem] n32_and n32_or n32_xor n32_not
theorem info23 : (Tryd.prog.info? 101).map (·.size) = some 8 := by kernel_rfl
theorem n32_mod (x : BitVec 32) : n32 x % 4294967296 = n32 x := by
  have := n32_nn x
  have := n32_lt x
  omega
set_option maxRecDepth 100000 in
set_option maxHeartbeats 2000000 in
theorem rmix_64 (h : St) (s : ByteArray) (hs : s.size = 64) (w : World) :
    Calls Tryd.prog 76 #[.agg (stA h), .string s] w fun e w' => e = .returned (.agg (stA (mixB h s.data.toList))) ∧ Below w.heap.size w w' := by
  go_enter Tryd.func76, Tryd.ntmps76
  go_wp2_with fail
  refine (salts_any _).mono ?_
  rintro e w1 ⟨rfl, hb1⟩
  have inv := rinv_start hb1
  go_wp2_with (first | (rw [zero64]; refine wpList_store_mid rfl 126 (.tmp 5) (.tmp 22) rfl w1.heap.size 0 (rowA []) rfl rfl (there39r (heap_alloc2_old _ _ _) (by simp) [] (by simp)) info39z (rowA_one []) ?_) | (refine wpList_store_mid rfl 126 (.tmp 6) (.tmp 23) rfl (w1.heap.size + 1) 0 (rowA saltsB) rfl rfl (there39r (l := []) ((heap_setCells_else _ _ (by omega) _ _ _).trans (heap_alloc2_new _ _ _)) (by simp) saltsB (by decide)) (info39 saltsB rfl) (rowA_one saltsB) ?_))
  obtain ⟨g, hg⟩ : ∃ g, w1.heap.size = g := ⟨_, rfl⟩
  rw [hg] at inv ⊢
  obtain ⟨w2, hw2⟩ : ∃ w2, World.setCells (World.setCells ((w1.alloc (.cells (rowA []) 126)).alloc (.cells (rowA []) 126)) g 0 (rowA []).toList) (g + 1) 0 (rowA saltsB).toList = w2 := ⟨_, rfl⟩
  rw [hw2] at inv ⊢
  clear hw2 hg hb1
  obtain ⟨vs, hvs⟩ : ∃ vs, Value.agg (rowA saltsB) = vs := ⟨_, rfl⟩
  obtain ⟨vz, hvz⟩ : ∃ vz, Value.agg (rowA []) = vz := ⟨_, rfl⟩
  rw [hvs, hvz]
  clear hvs hvz
  go_loopw [7] (fun c wr => ∃ i : Nat, i ≤ 64 ∧ c = .int .i64 i ∧ RInv w wr h (gath s.data.toList i) g) (fun c _ => 64 - (intOf c).toNat)
  case atStart =>
    exact ⟨0, Nat.zero_le _, rfl, ⟨inv.hh, inv.hr, by rw [gath_0]; exact inv.hl, inv.hk, inv.hb, inv.lt⟩⟩
  case round =>
    clear inv
    obtain ⟨i, hi, rfl, inv⟩ := hrel
    by_cases hlt : i < 64
    · have hgl := gath_len s.data.toList i
      have hc := row_cell inv.hl (i / 4) (by omega)
      rw [gath_get] at hc
      obtain ⟨a, ha⟩ : ∃ a, accB s.data.toList (i / 4) (i % 4) = a := ⟨_, rfl⟩
      rw [ha] at hc
      have HA : Hid (accB s.data.toList (i / 4) (i % 4) = a) := ha
      clear ha hgl
      have hf := frozen_of_row wr _ (i / 4) _ _ inv.hl
      have hlt' : i < s.size := by omega
      have b0 : (0 : Int) ≤ (i : Int) := by omega
      have b1 : (i : Int) < 64 := by omega
      have b2 : (i : Int) < (s.size : Int) := by omega
      go_wp2_with fail
      go_region
      go_wp2
      go_roundw
      case rel =>
        rw [byte_mul_add a s i hlt']
        refine ⟨i + 1, by omega, by go_num, (RInv.put inv (i / 4) _ ?_).drewN 1⟩
        rw [← HA.out]
        exact gath_step s.data.toList i hlt
      case measure => simp [intOf]; omega
    · obtain rfl : i = 64 := by omega
      have hlt' : ¬ ((64 : Nat) : Int) < 64 := by omega
      have inv' : RInv w wr h (wordsB s.data.toList 16) g := ⟨inv.hh, inv.hr, by rw [← gath_64]; exact inv.hl, inv.hk, inv.hb, inv.lt⟩
      clear inv
      have hl16 := wordsB_len s.data.toList 16
      go_wp2_with fail
      obtain ⟨wo, rfl⟩ : ∃ wo : World, wo = wr := ⟨_, rfl⟩
      go_loopw [8] (fun c wr => ∃ i : Nat, 16 ≤ i ∧ i ≤ 64 ∧ c = .int .i64 i ∧ RInv w wr h (extW (wordsB s.data.toList 16) (i - 16)) g) (fun c _ => 64 - (intOf c).toNat)
      case atStart => exact ⟨16, by omega, by omega, rfl, inv'⟩
      case round =>
        clear inv'
        obtain ⟨i, hi0, hi1, rfl, inv⟩ := hrel
        have hlen := extW_len (wordsB s.data.toList 16) (i - 16)
        rw [hl16] at hlen
        by_cases hlt : i < 64
        · obtain ⟨l, hl⟩ : ∃ l, extW (wordsB s.data.toList 16) (i - 16) = l := ⟨_, rfl⟩
          rw [hl] at inv hlen
          have HE : Hid (extW (wordsB s.data.toList 16) (i - 16) = l) := hl
          clear hl
          obtain ⟨v, hc⟩ := row_cell_pad inv.hl i (by omega) (by omega)
          have hf := frozen_of_row wr _ i _ _ inv.hl
          have c16 := row_cell inv.hl ((i : Int) - 16).toNat (by omega)
          have c15 := row_cell inv.hl ((i : Int) - 15).toNat (by omega)
          have c7 := row_cell inv.hl ((i : Int) - 7).toNat (by omega)
          have c2 := row_cell inv.hl ((i : Int) - 2).toNat (by omega)
          clear hlen
          obtain ⟨x16, e16⟩ : ∃ x, l.getD ((i : Int) - 16).toNat 0 = x := ⟨_, rfl⟩
          obtain ⟨x15, e15⟩ : ∃ x, l.getD ((i : Int) - 15).toNat 0 = x := ⟨_, rfl⟩
          obtain ⟨x7, e7⟩ : ∃ x, l.getD ((i : Int) - 7).toNat 0 = x := ⟨_, rfl⟩
          obtain ⟨x2, e2⟩ : ∃ x, l.getD ((i : Int) - 2).toNat 0 = x := ⟨_, rfl⟩
          rw [e16] at c16
          rw [e15] at c15
          rw [e7] at c7
          rw [e2] at c2
          have E16 : Hid (l.getD ((i : Int) - 16).toNat 0 = x16) := e16
          have E15 : Hid (l.getD ((i : Int) - 15).toNat 0 = x15) := e15
          have E7 : Hid (l.getD ((i : Int) - 7).toNat 0 = x7) := e7
          have E2 : Hid (l.getD ((i : Int) - 2).toNat 0 = x2) := e2
          clear e16 e15 e7 e2
          have b0 : (16 : Int) ≤ (i : Int) := by omega
          have b1 : (i : Int) < 64 := by omega
          have q15 : (15 : Int) ≤ (i : Int) := by omega
          have q7 : (7 : Int) ≤ (i : Int) := by omega
          have q2 : (2 : Int) ≤ (i : Int) := by omega
          have r16 : (i : Int) - 16 < 64 := by omega
          have r15 : (i : Int) - 15 < 64 := by omega
          have r7 : (i : Int) - 7 < 64 := by omega
          have r2 : (i : Int) - 2 < 64 := by omega
          have bb : (0 : Int) ≤ (i : Int) := by omega
          have w16 : IntKind.i64.wrap ((i : Int) - 16) = (i : Int) - 16 := by rw [IntKind.wrap_i64]; omega
          have w15 : IntKind.i64.wrap ((i : Int) - 15) = (i : Int) - 15 := by rw [IntKind.wrap_i64]; omega
          have w7 : IntKind.i64.wrap ((i : Int) - 7) = (i : Int) - 7 := by rw [IntKind.wrap_i64]; omega
          have w2' : IntKind.i64.wrap ((i : Int) - 2) = (i : Int) - 2 := by rw [IntKind.wrap_i64]; omega
          have n16 : ¬ ((i : Int) - 16).toNat = i := by omega
          have n15 : ¬ ((i : Int) - 15).toNat = i := by omega
          have n7 : ¬ ((i : Int) - 7).toNat = i := by omega
          have n2 : ¬ ((i : Int) - 2).toNat = i := by omega
          go_wp2_with fail
          go_quiet (fail)
          go_wp2_with fail
          go_region_held3 (fun w' => w'.cell? ⟨g, ((i : Int) - 16).toNat, none⟩ = some (.int .u32 (n32 x16)) ∧ w'.cell? ⟨g, ((i : Int) - 7).toNat, none⟩ = some (.int .u32 (n32 x7))) (simp [*, cell_set_off])
            (first | (go_at_call 96; refine (turn_all _ _ (by decide) _).mono ?_; rintro e w' ⟨rfl, rfl⟩))
          go_wp2
          go_roundw
          case rel =>
            have s3 : ∀ x, n32 x / (8 : Int) = n32 (x >>> 3) := fun x => n32_shr x 3
            have s10 : ∀ x, n32 x / (1024 : Int) = n32 (x >>> 10) := fun x => n32_shr x 10
            rw [s3, s10, n32_xor, n32_xor, n32_add, n32_add, n32_add]
            exact ⟨i + 1, by omega, by omega, by go_num, RInv.put (inv.drewN _) i _ (ext_step hl16 hi0 hlt HE.out E16.out E15.out E7.out E2.out)⟩
          case measure => simp [intOf]; omega
        · obtain rfl : i = 64 := by omega
          have hlt' : ¬ ((64 : Nat) : Int) < 64 := by omega
          change RInv w wr h (schedB s.data.toList) g at inv
          have hls : (schedB s.data.toList).length = 64 := hlen
          clear hlen
          have hmix : mixB h s.data.toList = addSt h (roundsB saltsB (schedB s.data.toList) h 64) := by
            unfold mixB
            rw [if_pos (by simpa using hs)]
          obtain ⟨L, hL⟩ : ∃ L, schedB s.data.toList = L := ⟨_, rfl⟩
          rw [hL] at inv hls hmix
          clear hL
          have HMX : Hid (mixB h s.data.toList = addSt h (roundsB saltsB L h 64)) := hmix
          clear hmix hl16
          have c0 := cell_of_row wr _ 0 _ _ _ inv.hh
          have c1 := cell_of_row wr _ 1 _ _ _ inv.hh
          have c2 := cell_of_row wr _ 2 _ _ _ inv.hh
          have c3 := cell_of_row wr _ 3 _ _ _ inv.hh
          have c4 := cell_of_row wr _ 4 _ _ _ inv.hh
          have c5 := cell_of_row wr _ 5 _ _ _ inv.hh
          have c6 := cell_of_row wr _ 6 _ _ _ inv.hh
          have c7 := cell_of_row wr _ 7 _ _ _ inv.hh
          simp at c0 c1 c2 c3 c4 c5 c6 c7
          obtain ⟨wo', rfl⟩ : ∃ wo' : World, wo' = wr := ⟨_, rfl⟩
          go_wp2_with fail
          go_quiet (fail)
          have inv' := inv.drewN nq
          obtain ⟨st, hst⟩ : ∃ st : Nat → St, st = roundsB saltsB L h := ⟨_, rfl⟩
          have HST : Hid (st = roundsB saltsB L h) := hst
          have hst0 : st 0 = h := by rw [hst]; rfl
          have HS0 : Hid (st 0 = h) := hst0
          have HSN : Hid (∀ n, st (n + 1) = stepB (saltsB.getD n 0) (L.getD n 0) (st n)) := by intro n; rw [hst]; rfl
          clear hst hst0 c0 c1 c2 c3 c4 c5 c6 c7
          go_wp2
          go_loopw [11, 12, 13, 14, 15, 16, 17, 18, 19] (fun a b c d e f g' k ct wr => ∃ i : Nat, i ≤ 64 ∧ ct = .int .i64 i ∧ a = .int .u32 (n32 (st i).a) ∧ b = .int .u32 (n32 (st i).b) ∧ c = .int .u32 (n32 (st i).c) ∧ d = .int .u32 (n32 (st i).d) ∧ e = .int .u32 (n32 (st i).e) ∧ f = .int .u32 (n32 (st i).f) ∧ g' = .int .u32 (n32 (st i).g) ∧ k = .int .u32 (n32 (st i).k) ∧ RInv w wr h L g) (fun _ _ _ _ _ _ _ _ ct _ => 64 - (intOf ct).toNat)
          case atStart =>
            refine ⟨0, Nat.zero_le _, rfl, ?_, ?_, ?_, ?_, ?_, ?_, ?_, ?_, inv'⟩ <;> rw [HS0.out]
          case round =>
            clear inv inv'
            obtain ⟨i, hi, rfl, rfl, rfl, rfl, rfl, rfl, rfl, rfl, rfl, inv⟩ := hrel
            obtain ⟨T, hT⟩ : ∃ T, st i = T := ⟨_, rfl⟩
            rw [hT]
            have HT : Hid (st i = T) := hT
            clear hT
            by_cases hlt : i < 64
            · have ck := row_cell inv.hk i (by exact hlt)
              have cl := row_cell inv.hl i (by omega)
              obtain ⟨K, hK⟩ : ∃ K, saltsB.getD i 0 = K := ⟨_, rfl⟩
              obtain ⟨X, hX⟩ : ∃ X, L.getD i 0 = X := ⟨_, rfl⟩
              rw [hK] at ck
              rw [hX] at cl
              have HK : Hid (saltsB.getD i 0 = K) := hK
              have HX : Hid (L.getD i 0 = X) := hX
              clear hK hX
              have b0 : (0 : Int) ≤ (i : Int) := by omega
              have b1 : (i : Int) < 64 := by omega
              have hnot : (4294967295 - n32 T.e) = n32 (~~~T.e) := n32_sub T.e
              go_wp2_with fail
              go_quiet ((go_at_call 96; exact Calls.quiet_of_same (turn_all _ _ (by decide) _)))
              go_wp2_with fail
              refine (turn_all _ _ (by decide) _).mono ?_
              rintro e w' ⟨rfl, rfl⟩
              go_wp2_with fail
              refine (turn_all _ _ (by decide) _).mono ?_
              rintro e w' ⟨rfl, rfl⟩
              go_wp2_with fail
              refine (turn_all _ _ (by decide) _).mono ?_
              rintro e w' ⟨rfl, rfl⟩
              go_wp2
              simp only [n32_mod, n32_and, n32_or, n32_add5, n32_add, ch_or, maj_or]
              go_roundw
              case rel =>
                refine ⟨i + 1, by omega, by go_num, ?_, ?_, ?_, ?_, ?_, ?_, ?_, ?_, inv.drewN _⟩ <;> (rw [HSN.out i, HT.out, HK.out, HX.out]; rfl)
              case measure => simp [intOf]; omega
            · obtain rfl : i = 64 := by omega
              have hlt' : ¬ ((64 : Nat) : Int) < 64 := by omega
              have r0 : wr.cell? ⟨w.heap.size + 1, 0, none⟩ = some (.int .u32 0) := cell_of_row wr _ 0 _ _ _ inv.hr
              have f0 := frozen_of_row wr _ 0 _ _ inv.hr
              have c0 := cell_of_row wr _ 0 _ _ _ inv.hh
              have r1 : wr.cell? ⟨w.heap.size + 1, 1, none⟩ = some (.int .u32 0) := cell_of_row wr _ 1 _ _ _ inv.hr
              have f1 := frozen_of_row wr _ 1 _ _ inv.hr
              have c1 := cell_of_row wr _ 1 _ _ _ inv.hh
              have r2 : wr.cell? ⟨w.heap.size + 1, 2, none⟩ = some (.int .u32 0) := cell_of_row wr _ 2 _ _ _ inv.hr
              have f2 := frozen_of_row wr _ 2 _ _ inv.hr
              have c2 := cell_of_row wr _ 2 _ _ _ inv.hh
              have r3 : wr.cell? ⟨w.heap.size + 1, 3, none⟩ = some (.int .u32 0) := cell_of_row wr _ 3 _ _ _ inv.hr
              have f3 := frozen_of_row wr _ 3 _ _ inv.hr
              have c3 := cell_of_row wr _ 3 _ _ _ inv.hh
              have r4 : wr.cell? ⟨w.heap.size + 1, 4, none⟩ = some (.int .u32 0) := cell_of_row wr _ 4 _ _ _ inv.hr
              have f4 := frozen_of_row wr _ 4 _ _ inv.hr
              have c4 := cell_of_row wr _ 4 _ _ _ inv.hh
              have r5 : wr.cell? ⟨w.heap.size + 1, 5, none⟩ = some (.int .u32 0) := cell_of_row wr _ 5 _ _ _ inv.hr
              have f5 := frozen_of_row wr _ 5 _ _ inv.hr
              have c5 := cell_of_row wr _ 5 _ _ _ inv.hh
              have r6 : wr.cell? ⟨w.heap.size + 1, 6, none⟩ = some (.int .u32 0) := cell_of_row wr _ 6 _ _ _ inv.hr
              have f6 := frozen_of_row wr _ 6 _ _ inv.hr
              have c6 := cell_of_row wr _ 6 _ _ _ inv.hh
              have r7 : wr.cell? ⟨w.heap.size + 1, 7, none⟩ = some (.int .u32 0) := cell_of_row wr _ 7 _ _ _ inv.hr
              have f7 := frozen_of_row wr _ 7 _ _ inv.hr
              have c7 := cell_of_row wr _ 7 _ _ _ inv.hh
              simp at c0 c1 c2 c3 c4 c5 c6 c7
              have hfin : Hid (mixB h s.data.toList = addSt h T) := by
                show mixB h s.data.toList = addSt h T
                rw [HMX.out, ← HT.out, HST.out]
              go_wp2
              change bodyPost _ _ _ _ _ (wr.setCells (w.heap.size + 1) 0 (raw8 h T).toList)
              rw [hfin.out, raw8_eq]
              exact bodyPost_ret (v := .agg (stA (addSt h T))) (results_cell_row Tryd.results76 _ _ (w.heap.size + 1) 101 _ (0, 0) _ rfl (setCells_row (vs := stA (addSt h T)) inv.hr rfl) Tryd.underlying101 rfl info23) rfl ⟨rfl, below_setCells' (by omega) _ _ _ inv.hb⟩
end Go.Proofs.YtaocbkloafhmeaaDoor
