import Derived.Test.YtaocbkloafhmeaaDoorSched
import Derived.WalkKit
import Derived.WalkSpells
import Derived.WalkLawsBesides
import Derived.Deep.QuietTactic
import Derived.BigQuiet
import Derived.Deep.RegionWith
import Derived.Deep.RegionHeld3
namespace Go.Proofs.YtaocbkloafhmeaaDoor
open Go.RowKit
abbrev stA (h : St) : Array Value := #[.int .u32 (n32 h.a), .int .u32 (n32 h.b), .int .u32 (n32 h.c), .int .u32 (n32 h.d), .int .u32 (n32 h.e), .int .u32 (n32 h.f), .int .u32 (n32 h.g), .int .u32 (n32 h.k)]
def GL (w : World) : Prop := ∀ i, i < 64 → w.cell? ⟨0, i, none⟩ = some (.int .u32 (n32 (saltsB.getD i 0)))
theorem bcell {W w1 : World} (hb : Below W.heap.size W w1) : (∀ b o, b < W.heap.size → w1.cell? ⟨b, o, none⟩ = W.cell? ⟨b, o, none⟩) ∧ (∀ b o, b < W.heap.size → w1.frozen? ⟨b, o, none⟩ = W.frozen? ⟨b, o, none⟩) :=
  ⟨fun b o h => hb.cell (p := ⟨b, o, none⟩) h, fun b o h => hb.frozen (p := ⟨b, o, none⟩) h⟩
set_option maxHeartbeats 400000 in
theorem mix_no (h : St) (s : ByteArray) (hs : ((s.size : Int) != 64) = true) (w : World) :
    Calls Tryd.prog 72 #[.agg (stA h), .string s] w fun e w' => e = .returned (.agg (stA h)) ∧ Below w.heap.size w w' := by
  go_enter Tryd.func72, Tryd.ntmps72
  go_wp2
  refine bodyPost_ret (v := .agg (stA h)) (by simp [results, Tryd.results72, go_sem]) rfl ⟨rfl, ?_⟩
  exact ((Below.refl _ _).alloc (Nat.le_refl _) _).alloc (by simp) _
theorem put_none (a : Act) (v : Value) : a.put none v = a := rfl
abbrev z8 : Array Value := #[.int .u32 0, .int .u32 0, .int .u32 0, .int .u32 0, .int .u32 0, .int .u32 0, .int .u32 0, .int .u32 0]
structure MixInv (w w2 : World) (h : St) (L : List (BitVec 32)) (B1 : Nat) : Prop where
  hh : w2.heap[w.heap.size]? = some (.cells (stA h) 102 (0, 0))
  hr : w2.heap[w.heap.size + 1]? = some (.cells z8 102 (0, 0))
  hl : w2.heap[B1]? = some (.cells (rowA L) 126 (0, 0))
  hg : GL w2
  hb : Below w.heap.size w w2
theorem GL.later {w w2 : World} (h : GL w) (hb : Below w.heap.size w w2) : GL w2 := by
  intro i hi
  have h1 := h i hi
  have h2 := World.block_lt_of_cell? w _ h1
  rw [hb.cell (p := ⟨0, i, none⟩) h2]; exact h1
theorem MixInv.drewN {w w2 : World} {h : St} {L : List (BitVec 32)} {B1 : Nat} (H : MixInv w w2 h L B1) (n : Nat) : MixInv w (w2.drewN n) h L B1 :=
  ⟨H.hh, H.hr, H.hl, H.hg, below_drewN H.hb n⟩
theorem below_heap {B : Nat} {a b : World} (h : Below B a b) (i : Nat) (hi : i < B) : b.heap[i]? = a.heap[i]? := by
  exact h.block i hi
theorem info24 : (Tryd.prog.info? 102).map (·.size) = some 8 := by kernel_rfl
theorem there24 {W : World} {g : Nat} (h : W.heap[g]? = some (.cells z8 102 (0, 0))) : W.there g 0 8 := by
  intro j hj
  rw [Nat.zero_add]
  refine ⟨?_, frozen_of_row W g j _ 102 h⟩
  rw [cell_of_row W g j _ 102 _ h]
  simp [hj]
theorem n32_add5 (a b c d e : BitVec 32) : (n32 a + n32 b + n32 c + n32 d + n32 e) % 4294967296 = n32 (a + b + c + d + e) := by
  unfold n32; simp only [BitVec.toNat_add]; omega
abbrev raw8 (h T : St) : Array Value := #[.int .u32 ((n32 h.a + n32 T.a) % 4294967296), .int .u32 ((n32 h.b + n32 T.b) % 4294967296), .int .u32 ((n32 h.c + n32 T.c) % 4294967296), .int .u32 ((n32 h.d + n32 T.d) % 4294967296), .int .u32 ((n32 h.e + n32 T.e) % 4294967296), .int .u32 ((n32 h.f + n32 T.f) % 4294967296), .int .u32 ((n32 h.g + n32 T.g) % 4294967296), .int .u32 ((n32 h.k + n32 T.k) % 4294967296)]
theorem raw8_eq (h T : St) : raw8 h T = stA (addSt h T) := by
  unfold raw8
  simp only [n32_add]
  rfl
theorem mixInv_start {w w1 : World} {h : St} {L : List (BitVec 32)} (hls : L.length = 64) (hG : GL w) (hb1 : Below ((w.alloc (.cells (stA h) 102)).alloc (.cells z8 102)).heap.size ((w.alloc (.cells (stA h) 102)).alloc (.cells z8 102)) w1) :
    MixInv w (World.setCells (w1.alloc (.cells (rowA []) 126)) w1.heap.size 0 (rowA L).toList) h L w1.heap.size := by
  have hsz := hb1.size
  simp at hsz
  have b0 : Below w.heap.size w ((w.alloc (.cells (stA h) 102)).alloc (.cells z8 102)) := ((Below.refl _ _).alloc (Nat.le_refl _) _).alloc (by simp) _
  have b1 : Below w.heap.size w w1 := b0.trans (hb1.mono (by simp; omega))
  have b2 : Below w.heap.size w (World.setCells (w1.alloc (.cells (rowA []) 126)) w1.heap.size 0 (rowA L).toList) :=
    below_setCells' (by omega) _ _ _ (b1.alloc (by omega) _)
  have hn : (w1.alloc (.cells (rowA []) 126)).heap[w1.heap.size]? = some (.cells (rowA []) 126 (0, 0)) := heap_alloc_new _ _
  refine ⟨?_, ?_, setCells_row hn (by rw [rowA_size L (by omega), rowA_size [] (by simp)]), hG.later b2, b2⟩
  · rw [heap_setCells_else _ _ (by omega), heap_alloc_old _ _ (by omega), below_heap hb1 _ (by simp; omega)]
    exact heap_alloc2_old _ _ _
  · rw [heap_setCells_else _ _ (by omega), heap_alloc_old _ _ (by omega), below_heap hb1 _ (by simp)]
    exact heap_alloc2_new _ _ _
set_option maxHeartbeats 600000 in
theorem mix_64 (h : St) (s : ByteArray) (hs : s.size = 64) (w : World) (hG : GL w) :
    Calls Tryd.prog 72 #[.agg (stA h), .string s] w fun e w' => e = .returned (.agg (stA (mixB h s.data.toList))) ∧ Below w.heap.size w w' := by
  go_enter Tryd.func72, Tryd.ntmps72
  go_wp2_with fail
  refine (rw_any s hs _).mono ?_
  rintro e w1 ⟨rfl, hb1⟩
  have hls : (schedB s.data.toList).length = 64 := by unfold schedB; rw [extW_len, wordsB_len]
  generalize hL : schedB s.data.toList = L at *
  have HLL : Hid (schedB s.data.toList = L) := hL
  clear hL
  have inv := mixInv_start hls hG hb1
  go_wp2_with ((rw [zero64]; refine wpList_store_mid rfl 126 _ _ rfl w1.heap.size 0 _ rfl rfl (there39 (heap_alloc_new _ _) L hls) (info39 L hls) (rowA_one L) ?_))
  obtain ⟨w2, hw2⟩ : ∃ w2, World.setCells (w1.alloc (.cells (rowA []) 126)) w1.heap.size 0 (rowA L).toList = w2 := ⟨_, rfl⟩
  rw [hw2] at inv ⊢
  clear hw2 hb1
  have c0 := cell_of_row w2 _ 0 _ _ _ inv.hh
  have c1 := cell_of_row w2 _ 1 _ _ _ inv.hh
  have c2 := cell_of_row w2 _ 2 _ _ _ inv.hh
  have c3 := cell_of_row w2 _ 3 _ _ _ inv.hh
  have c4 := cell_of_row w2 _ 4 _ _ _ inv.hh
  have c5 := cell_of_row w2 _ 5 _ _ _ inv.hh
  have c6 := cell_of_row w2 _ 6 _ _ _ inv.hh
  have c7 := cell_of_row w2 _ 7 _ _ _ inv.hh
  simp at c0 c1 c2 c3 c4 c5 c6 c7
  rw [put_none]
  go_quiet (fail)
  have inv' := inv.drewN nq
  obtain ⟨st, hst⟩ : ∃ st : Nat → St, st = roundsB saltsB L h := ⟨_, rfl⟩
  have HST : Hid (st = roundsB saltsB L h) := hst
  have hst0 : st 0 = h := by rw [hst]; rfl
  have HS0 : Hid (st 0 = h) := hst0
  have HSN : Hid (∀ n, st (n + 1) = stepB (saltsB.getD n 0) (L.getD n 0) (st n)) := by intro n; rw [hst]; rfl
  clear hst hst0 c0 c1 c2 c3 c4 c5 c6 c7
  go_wp2
  go_loopw [6, 7, 8, 9, 10, 11, 12, 13, 39] (fun a b c d e f g k ct wr => ∃ i : Nat, i ≤ 64 ∧ ct = .int .i64 i ∧ a = .int .u32 (n32 (st i).a) ∧ b = .int .u32 (n32 (st i).b) ∧ c = .int .u32 (n32 (st i).c) ∧ d = .int .u32 (n32 (st i).d) ∧ e = .int .u32 (n32 (st i).e) ∧ f = .int .u32 (n32 (st i).f) ∧ g = .int .u32 (n32 (st i).g) ∧ k = .int .u32 (n32 (st i).k) ∧ MixInv w wr h L w1.heap.size) (fun _ _ _ _ _ _ _ _ ct _ => 64 - (intOf ct).toNat)
  case atStart =>
    refine ⟨0, Nat.zero_le _, rfl, ?_, ?_, ?_, ?_, ?_, ?_, ?_, ?_, inv'⟩ <;> rw [HS0.out]
  case round =>
    clear inv inv'
    obtain ⟨i, hi, rfl, rfl, rfl, rfl, rfl, rfl, rfl, rfl, rfl, inv⟩ := hrel
    obtain ⟨T, hT⟩ : ∃ T, st i = T := ⟨_, rfl⟩
    rw [hT]
    have HT : Hid (st i = T) := hT
    clear hT
    by_cases hlt : i < 64
    · have ck := inv.hg i hlt
      have cl := row_cell inv.hl i (by omega)
      obtain ⟨K, hK⟩ : ∃ K, saltsB.getD i 0 = K := ⟨_, rfl⟩
      obtain ⟨X, hX⟩ : ∃ X, L.getD i 0 = X := ⟨_, rfl⟩
      rw [hK] at ck
      rw [hX] at cl
      have HK : Hid (saltsB.getD i 0 = K) := hK
      have HX : Hid (L.getD i 0 = X) := hX
      clear hK hX
      have b0 : (0 : Int) ≤ (i : Int) := by omega
      have b1 : (i : Int) < 64 := by omega
      go_wp2_with fail
      go_quiet (first | (go_at_call 92; exact Calls.quiet_of_same (stir_e _ _)) | (go_at_call 93; exact Calls.quiet_of_same (choose_any _ _ _ _)))
      go_wp2_with fail
      refine (stir_a _ _).mono ?_
      rintro e w' ⟨rfl, rfl⟩
      go_wp2_with fail
      refine (majority_any _ _ _ _).mono ?_
      rintro e w' ⟨rfl, rfl⟩
      go_wp2
      simp only [n32_add5, n32_add]
      go_roundw
      case rel =>
        refine ⟨i + 1, by omega, by go_num, ?_, ?_, ?_, ?_, ?_, ?_, ?_, ?_, inv.drewN _⟩ <;> (rw [HSN.out i, HT.out, HK.out, HX.out]; rfl)
      case measure => simp [intOf]; omega
    · obtain rfl : i = 64 := by omega
      have hlt' : ¬ ((64 : Nat) : Int) < 64 := by omega
      have c0 := cell_of_row wr _ 0 _ _ _ inv.hh
      have c1 := cell_of_row wr _ 1 _ _ _ inv.hh
      have c2 := cell_of_row wr _ 2 _ _ _ inv.hh
      have c3 := cell_of_row wr _ 3 _ _ _ inv.hh
      have c4 := cell_of_row wr _ 4 _ _ _ inv.hh
      have c5 := cell_of_row wr _ 5 _ _ _ inv.hh
      have c6 := cell_of_row wr _ 6 _ _ _ inv.hh
      have c7 := cell_of_row wr _ 7 _ _ _ inv.hh
      simp at c0 c1 c2 c3 c4 c5 c6 c7
      have hfin : Hid (mixB h s.data.toList = addSt h T) := by
        show mixB h s.data.toList = addSt h T
        unfold mixB
        rw [if_pos (by simpa using hs), HLL.out, ← HT.out, HST.out]
      have r0 : wr.cell? ⟨w.heap.size + 1, 0, none⟩ = some (.int .u32 0) := cell_of_row wr _ 0 _ _ _ inv.hr
      have f0 := frozen_of_row wr _ 0 _ _ inv.hr
      have r1 : wr.cell? ⟨w.heap.size + 1, 1, none⟩ = some (.int .u32 0) := cell_of_row wr _ 1 _ _ _ inv.hr
      have f1 := frozen_of_row wr _ 1 _ _ inv.hr
      have r2 : wr.cell? ⟨w.heap.size + 1, 2, none⟩ = some (.int .u32 0) := cell_of_row wr _ 2 _ _ _ inv.hr
      have f2 := frozen_of_row wr _ 2 _ _ inv.hr
      have r3 : wr.cell? ⟨w.heap.size + 1, 3, none⟩ = some (.int .u32 0) := cell_of_row wr _ 3 _ _ _ inv.hr
      have f3 := frozen_of_row wr _ 3 _ _ inv.hr
      have r4 : wr.cell? ⟨w.heap.size + 1, 4, none⟩ = some (.int .u32 0) := cell_of_row wr _ 4 _ _ _ inv.hr
      have f4 := frozen_of_row wr _ 4 _ _ inv.hr
      have r5 : wr.cell? ⟨w.heap.size + 1, 5, none⟩ = some (.int .u32 0) := cell_of_row wr _ 5 _ _ _ inv.hr
      have f5 := frozen_of_row wr _ 5 _ _ inv.hr
      have r6 : wr.cell? ⟨w.heap.size + 1, 6, none⟩ = some (.int .u32 0) := cell_of_row wr _ 6 _ _ _ inv.hr
      have f6 := frozen_of_row wr _ 6 _ _ inv.hr
      have r7 : wr.cell? ⟨w.heap.size + 1, 7, none⟩ = some (.int .u32 0) := cell_of_row wr _ 7 _ _ _ inv.hr
      have f7 := frozen_of_row wr _ 7 _ _ inv.hr
      go_wp2
      change bodyPost _ _ _ _ _ (wr.setCells (w.heap.size + 1) 0 (raw8 h T).toList)
      rw [hfin.out, raw8_eq]
      exact bodyPost_ret (v := .agg (stA (addSt h T))) (results_cell_row Tryd.results72 _ _ (w.heap.size + 1) 102 _ (0, 0) _ rfl (setCells_row (vs := stA (addSt h T)) inv.hr rfl) Tryd.underlying102 rfl info24) rfl ⟨rfl, below_setCells' (by omega) _ _ _ inv.hb⟩
end Go.Proofs.YtaocbkloafhmeaaDoor
