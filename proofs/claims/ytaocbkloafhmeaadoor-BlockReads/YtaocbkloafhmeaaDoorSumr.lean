/- The document's own Sum, called: of any string of at most 72057594037927936 bytes it returns SHA-256 as the plain facts have it, and nothing that was there has changed. -/
import Derived.Test.YtaocbkloafhmeaaDoorMixes
import Derived.WalkKit
import Derived.WalkSpells
import Derived.WalkLawsBesides
import Derived.Deep.QuietTactic
import Derived.BigQuiet
import Derived.Deep.RegionWith
import Derived.Deep.RegionHeld3
import Derived.Deep.DrawnRows
namespace Go.Proofs.YtaocbkloafhmeaaDoor
open Go.RowKit
attribute [local go_sem ↓] Go.wp_at_zero Go.wp_at_succ
def footB (N : Nat) : Nat → List UInt8
  | 0 => []
  | i + 1 => UInt8.ofNat (N / 2 ^ (8 * i) % 256) :: footB N i
theorem footB_8 (N : Nat) : footB N 8 = be64 N := by
  simp [footB, be64]
theorem footB_len (N i : Nat) : (footB N i).length = i := by
  induction i with
  | zero => rfl
  | succ i ih => simp [footB, ih]
theorem eight23 {W : World} {g : Nat} {X : St} (h : W.heap[g]? = some (.cells (stA X) 101 (0, 0))) :
    (W.cell? ⟨g, 0, none⟩ = some (.int .u32 (n32 X.a)) ∧ W.cell? ⟨g, 1, none⟩ = some (.int .u32 (n32 X.b)) ∧ W.cell? ⟨g, 2, none⟩ = some (.int .u32 (n32 X.c)) ∧ W.cell? ⟨g, 3, none⟩ = some (.int .u32 (n32 X.d)) ∧ W.cell? ⟨g, 4, none⟩ = some (.int .u32 (n32 X.e)) ∧ W.cell? ⟨g, 5, none⟩ = some (.int .u32 (n32 X.f)) ∧ W.cell? ⟨g, 6, none⟩ = some (.int .u32 (n32 X.g)) ∧ W.cell? ⟨g, 7, none⟩ = some (.int .u32 (n32 X.k))) ∧
    (W.frozen? ⟨g, 0, none⟩ = false ∧ W.frozen? ⟨g, 1, none⟩ = false ∧ W.frozen? ⟨g, 2, none⟩ = false ∧ W.frozen? ⟨g, 3, none⟩ = false ∧ W.frozen? ⟨g, 4, none⟩ = false ∧ W.frozen? ⟨g, 5, none⟩ = false ∧ W.frozen? ⟨g, 6, none⟩ = false ∧ W.frozen? ⟨g, 7, none⟩ = false) := by
  refine ⟨⟨cell_of_row W _ 0 _ _ _ h, cell_of_row W _ 1 _ _ _ h, cell_of_row W _ 2 _ _ _ h, cell_of_row W _ 3 _ _ _ h, cell_of_row W _ 4 _ _ _ h, cell_of_row W _ 5 _ _ _ h, cell_of_row W _ 6 _ _ _ h, cell_of_row W _ 7 _ _ _ h⟩, ?_⟩
  refine ⟨?_, ?_, ?_, ?_, ?_, ?_, ?_, ?_⟩ <;> exact frozen_of_row W _ _ _ _ h
theorem rel_mix23 {w5 : World} {g i : Nat} {B0 H M : St} {s : ByteArray} (hH : blocksB B0 s.data.toList i = H) (h5 : w5.heap[g]? = some (.cells (stA H) 101 (0, 0))) (hM : mixB H (s.extract (64 * i) (64 * i + 64)).data.toList = M) :
    (w5.setCells g 0 (stA M).toList).heap[g]? = some (.cells (stA (blocksB B0 s.data.toList (i + 1))) 101 (0, 0)) := by
  rw [setCells_row (vs := stA M) h5 rfl]
  rw [Lib.extract_data, Nat.add_sub_cancel_left] at hM
  simp only [blocksB, hH, hM]
theorem cell_at {W : World} {g : Nat} (X : St) (h : W.heap[g]? = some (.cells (stA X) 101 (0, 0))) (i : Nat) (hi : i < 8) : W.cell? ⟨g, i, none⟩ = some (.int .u32 (n32 (X.get i))) := by
  rw [cell_of_row W g i _ 101 _ h]
  rcases (show i = 0 ∨ i = 1 ∨ i = 2 ∨ i = 3 ∨ i = 4 ∨ i = 5 ∨ i = 6 ∨ i = 7 by omega) with rfl | rfl | rfl | rfl | rfl | rfl | rfl | rfl <;> rfl
theorem padB_len (l : List UInt8) : (padB l).length % 64 = 0 := by
  simp [padB, be64]
  omega
theorem digW_at (h : St) (n i : Nat) (hi : i < 4 * n) : (digW h n).getD i 0 = wbyte (h.get (i / 4)) (i % 4) := by
  induction n with
  | zero => omega
  | succ n ih =>
    have hl := digW_len h n
    simp only [digW]
    by_cases hlt : i < 4 * n
    · rw [← ih hlt]
      simp [List.getD_eq_getElem?_getD, List.getElem?_append_left, hl, hlt]
    · have e1 : i / 4 = n := by omega
      rw [e1, List.getD_eq_getElem?_getD, List.getElem?_append_right (by omega), hl]
      rcases (show i % 4 = 0 ∨ i % 4 = 1 ∨ i % 4 = 2 ∨ i % 4 = 3 by omega) with h4 | h4 | h4 | h4
      · rw [h4, show i - 4 * n = 0 by omega]; rfl
      · rw [h4, show i - 4 * n = 1 by omega]; rfl
      · rw [h4, show i - 4 * n = 2 by omega]; rfl
      · rw [h4, show i - 4 * n = 3 by omega]; rfl
theorem digB_take (h : St) (i : Nat) (hi : i < 32) : (digB h).take (i + 1) = (digB h).take i ++ [wbyte (h.get (i / 4)) (i % 4)] := by
  have hl : (digB h).length = 32 := digW_len h 8
  have e := digW_at h 8 i (by omega)
  rw [List.take_succ_eq_append_getElem (by omega)]
  congr 2
  rw [← e]
  show _ = (digB h).getD i 0
  rw [List.getD_eq_getElem?_getD, List.getElem?_eq_getElem (by omega)]
  rfl
theorem conv1 (W : World) (b : UInt8) (t : TypeId) (v : Int) (hv : v = (b.toNat : Int)) : (convert 66 9 (.slice (some ⟨W.heap.size, 0, none⟩) 1 1)).run Tryd.prog (W.alloc (.cells #[.int .u8 v] t)) = .ok (.string ⟨#[b]⟩) (W.alloc (.cells #[.int .u8 v] t)) := by
  subst hv
  exact run_convert_bytes_back (P := Tryd.prog) (W.alloc (.cells #[.int .u8 (b.toNat : Int)] t)) 66 9 5 ⟨W.heap.size, 0, none⟩ 1 [b] Tryd.underlying66 Tryd.underlying5 Tryd.underlying9 (fun j hj => by
    have hj0 : j = 0 := by simpa using hj
    subst hj0
    have e1 : (⟨W.heap.size, 0, none⟩ : Addr).add 0 = ⟨W.heap.size, 0, none⟩ := by unfold Addr.add; split <;> simp_all
    rw [e1, World.cell?_alloc_at _ _ _ _ (hn := rfl)]
    rfl)
set_option maxRecDepth 100000 in
set_option maxHeartbeats 1000000 in
theorem rsum_any (s : ByteArray) (hs : s.size ≤ 72057594037927936) (w : World) :
    Calls Tryd.prog 45 #[.string s] w fun e w' => e = .returned (.string ⟨(sumB s.data.toList).toArray⟩) ∧ Below w.heap.size w w' := by
  go_enter Tryd.func45, Tryd.ntmps45
  go_wp2_with fail
  go_loopw [0] (fun v wr => ∃ b : ByteArray, ∃ z : Nat, z ≤ (119 - s.size % 64) % 64 ∧ b.data.toList = s.data.toList ++ 128 :: List.replicate z 0 ∧ v = .string b ∧ wr = w) (fun v _ => s.size + 200 - strLen v)
  case atStart => exact ⟨s ++ ⟨#[128]⟩, 0, Nat.zero_le _, by simp, rfl, rfl⟩
  case round =>
    obtain ⟨b, z, hz, hb, rfl, rfl⟩ := hrel
    have hbs : b.size = s.size + 1 + z := by
      rw [Lib.size_eq, hb, List.length_append, ← Lib.size_eq]; simp; omega
    have HB : Hid (b.data.toList = s.data.toList ++ 128 :: List.replicate z 0) := hb
    have HZ : Hid (b.size = s.size + 1 + z) := hbs
    by_cases hlt : z < (119 - s.size % 64) % 64
    · have ht : (((b.size : Int) % 64) != 56) = true := by simp; omega
      have bd : (b.size : Int) ≤ 72057594037930000 := by omega
      clear hb hbs
      go_wp2
      go_roundw
      case rel =>
        refine ⟨b ++ ⟨#[0]⟩, z + 1, by omega, ?_, rfl, by trivial⟩
        rw [List.replicate_succ']
        simp [HB.out]
      case measure =>
        show s.size + 200 - (b ++ ⟨#[0]⟩ : ByteArray).size < s.size + 200 - b.size
        rw [size_snoc0, HZ.out]; omega
    · have ht : (((b.size : Int) % 64) != 56) = false := by simp; omega
      have bd : (b.size : Int) ≤ 72057594037930000 := by omega
      clear hb hbs
      have hzz : z = (119 - s.size % 64) % 64 := by omega
      have HZZ : Hid (z = (119 - s.size % 64) % 64) := hzz
      clear hzz
      go_wp2_with fail
      obtain ⟨wo, rfl⟩ : ∃ wo : World, wo = wr := ⟨_, rfl⟩
      go_loopw [3, 4, 5] (fun n f c wr => ∃ i : Nat, ∃ F : ByteArray, i ≤ 8 ∧ n = .int .u64 ((s.size * 8 / 2 ^ (8 * i) : Nat) : Int) ∧ F.data.toList = footB (s.size * 8) i ∧ f = .string F ∧ c = .int .i64 i ∧ Below wo.heap.size wo wr) (fun _ _ c _ => 8 - (intOf c).toNat)
      case atStart => exact ⟨0, ByteArray.empty, Nat.zero_le _, by simp, rfl, rfl, rfl, Below.refl _ _⟩
      case round =>
        obtain ⟨i, F, hi, rfl, hF, rfl, rfl, hbl⟩ := hrel
        have hFs : F.size = i := by rw [Lib.size_eq, hF, footB_len]
        have HF : Hid (F.data.toList = footB (s.size * 8) i) := hF
        have bN : ((s.size * 8 / 2 ^ (8 * i) : Nat) : Int) ≤ 576460752303423488 := by
          have : s.size * 8 / 2 ^ (8 * i) ≤ s.size * 8 := Nat.div_le_self _ _
          omega
        have bF : (F.size : Int) ≤ 8 := by omega
        clear hF hFs
        obtain ⟨N, hN⟩ : ∃ N, s.size * 8 / 2 ^ (8 * i) = N := ⟨_, rfl⟩
        rw [hN] at bN ⊢
        have HN : Hid (s.size * 8 / 2 ^ (8 * i) = N) := hN
        clear hN
        by_cases hlt : i < 8
        · have hcv := fun v hv => conv1 wr (UInt8.ofNat (N % 256)) 5 v hv
          go_wp2
          go_roundw
          case rel =>
            refine ⟨i + 1, ⟨#[UInt8.ofNat (N % 256)]⟩ ++ F, by omega, ?_, ?_, rfl, by go_num, hbl.alloc hbl.size _⟩
            · have e : s.size * 8 / 2 ^ (8 * (i + 1)) = N / 256 := by
                rw [← HN.out, Nat.div_div_eq_div_mul, show 8 * (i + 1) = 8 * i + 8 by omega, Nat.pow_add]
              rw [e]
              rfl
            · simp [footB, HF.out, HN.out]
          case measure => simp [intOf]; omega
        · obtain rfl : i = 8 := by omega
          have hlt' : ¬ ((8 : Nat) : Int) < 8 := by omega
          have hP : (b ++ F).data.toList = padB s.data.toList := by
            have h1 : F.data.toList = be64 (s.size * 8) := by rw [HF.out, footB_8]
            unfold padB
            rw [← Lib.size_eq, ← HZZ.out]
            simp [HB.out, h1]
          have hPl := padB_len s.data.toList
          rw [← hP, ← Lib.size_eq] at hPl
          have hPs : (b ++ F).size ≤ 72057594037940000 := by
            rw [ByteArray.size_append]; omega
          obtain ⟨Pb, hPb⟩ : ∃ Pb, b ++ F = Pb := ⟨_, rfl⟩
          rw [hPb] at hP hPl hPs
          have HP : Hid (Pb.data.toList = padB s.data.toList) := hP
          have HPL : Hid (Pb.size % 64 = 0) := hPl
          clear hP hPl
          go_wp2_with fail
          refine (rstart_any _).mono ?_
          rintro e w1 ⟨rfl, hb1⟩
          go_wp2_with fail
          have hs0 := hbl.size
          have hs1 := hb1.size
          obtain ⟨g, hg⟩ : ∃ g, w1.heap.size = g := ⟨_, rfl⟩
          have start1 : (w1.alloc (.cells (stA startB) 101)).heap[g]? = some (.cells (stA startB) 101 (0, 0)) := by rw [← hg]; exact heap_alloc_new _ _
          have hb01 : Below wo.heap.size wo w1 := hbl.trans (hb1.mono hs0)
          have start2 : Below wo.heap.size wo (w1.alloc (.cells (stA startB) 101)) := hb01.alloc (by omega) _
          have hwg : wo.heap.size ≤ g := by omega
          rw [hg]
          clear hg hb01 hs0 hs1 hPb
          go_loopw [7] (fun c wr => ∃ i : Nat, i ≤ Pb.size / 64 ∧ c = .int .i64 ((64 * i : Nat) : Int) ∧ wr.heap[g]? = some (.cells (stA (blocksB startB Pb.data.toList i)) 101 (0, 0)) ∧ Below wo.heap.size wo wr) (fun c _ => Pb.size - (intOf c).toNat)
          case atStart => exact ⟨0, Nat.zero_le _, rfl, start1, start2⟩
          case round =>
            clear start1 start2 hb1 hbl
            obtain ⟨i, hi, rfl, h1, hb⟩ := hrel
            have hgl : g < wr.heap.size := lt_of_row h1
            by_cases hlt : i < Pb.size / 64
            · obtain ⟨H, hH⟩ : ∃ H, blocksB startB Pb.data.toList i = H := ⟨_, rfl⟩
              rw [hH] at h1
              have HH : Hid (blocksB startB Pb.data.toList i = H) := hH
              clear hH
              obtain ⟨⟨c0, c1, c2, c3, c4, c5, c6, c7⟩, f0, f1, f2, f3, f4, f5, f6, f7⟩ := eight23 h1
              obtain ⟨m, hm⟩ : ∃ m, 64 * i = m := ⟨_, rfl⟩
              rw [hm]
              have hlt' : (m : Int) < (Pb.size : Int) := by omega
              have q0 : (0 : Int) ≤ (m : Int) := by omega
              have q1 : (m : Int) ≤ (m : Int) + 64 := by omega
              have q2 : (m : Int) + 64 ≤ (Pb.size : Int) := by omega
              have q3 : m ≤ m + 64 := by omega
              have q4 : m + 64 ≤ Pb.size := by omega
              have m1 : IntKind.i64.wrap ((m : Int) + 64) = (m : Int) + 64 := by rw [IntKind.wrap_i64]; omega
              have mt : ((m : Int) + 64).toNat = m + 64 := by omega
              have HMI : Hid (64 * i = m) := hm
              clear hm
              go_wp2_with fail
              go_region_with ((go_at_call 76; refine (rmix_64 H _ (by simp; omega) _).mono ?_; rintro e w5 ⟨rfl, hb5⟩; obtain ⟨M, hM⟩ : ∃ M, mixB H (Pb.extract m (m + 64)).data.toList = M := ⟨_, rfl⟩; rw [hM]; have HM : Hid (mixB H (Pb.extract m (m + 64)).data.toList = M) := hM; clear hM; have h5 := (below_heap hb5 g (by exact hgl)).trans h1; obtain ⟨⟨r0, r1, r2, r3, r4, r5, r6, r7⟩, e0, e1, e2, e3, e4, e5, e6, e7⟩ := eight23 h5))
              all_goals
                go_wp2
                go_roundw
                case rel => exact ⟨i + 1, by omega, by have := HMI.out; go_num, rel_mix23 HH.out h5 (by rw [HMI.out]; exact HM.out), below_setCells' hwg (stA M).toList 0 w5 (below_drew5 hb hb5 (by omega))⟩
                case measure => simp [intOf]; omega
            · obtain rfl : i = Pb.size / 64 := by omega
              obtain ⟨m, hm⟩ : ∃ m, 64 * (Pb.size / 64) = m := ⟨_, rfl⟩
              have hmP : m = Pb.size := by have := HPL.out; omega
              rw [hm]
              have hlt' : ¬ (m : Int) < (Pb.size : Int) := by omega
              obtain ⟨H, hH⟩ : ∃ H, blocksB startB Pb.data.toList (Pb.size / 64) = H := ⟨_, rfl⟩
              have hfin : sumB s.data.toList = digB H := by
                unfold sumB
                rw [← HP.out, ← Lib.size_eq, hH]
              rw [hH] at h1
              have HFIN : Hid (sumB s.data.toList = digB H) := hfin
              clear hfin hH hm hmP hlt
              have hdl : (digB H).length = 32 := digW_len H 8
              go_wp2_with fail
              obtain ⟨wp, rfl⟩ : ∃ wp : World, wp = wr := ⟨_, rfl⟩
              go_loopw [8, 9] (fun o c wr => ∃ i : Nat, ∃ O : ByteArray, i ≤ 32 ∧ O.data.toList = (digB H).take i ∧ o = .string O ∧ c = .int .i64 i ∧ wr.heap[g]? = some (.cells (stA H) 101 (0, 0)) ∧ Below wo.heap.size wo wr) (fun _ c _ => 32 - (intOf c).toNat)
              case atStart => exact ⟨0, ByteArray.empty, Nat.zero_le _, rfl, rfl, rfl, h1, hb⟩
              case round =>
                clear h1 hb hgl
                obtain ⟨i, O, hi, hO, rfl, rfl, h1, hb⟩ := hrel
                have hOs : O.size = i := by rw [Lib.size_eq, hO, List.length_take]; omega
                have bO : (O.size : Int) ≤ 32 := by omega
                have HO : Hid (O.data.toList = (digB H).take i) := hO
                clear hO hOs
                by_cases hlt : i < 32
                · have hc := cell_at H h1 (i / 4) (by omega)
                  have hcv := conv1 wr (wbyte (H.get (i / 4)) (i % 4)) 5 (n32 (H.get (i / 4)) / (2 : Int) ^ (24 - i % 4 * 8) % 256) (wbyte_val _ _ _ (by rw [Nat.mul_comm 8]; simp))
                  go_wp2
                  go_roundw
                  case rel =>
                    refine ⟨i + 1, O ++ ⟨#[wbyte (H.get (i / 4)) (i % 4)]⟩, by omega, ?_, rfl, by go_num, (heap_alloc_old _ _ (lt_of_row h1)).trans h1, hb.alloc hb.size _⟩
                    rw [digB_take H i hlt, ← HO.out]
                    simp
                  case measure => simp [intOf]; omega
                · obtain rfl : i = 32 := by omega
                  have hlt' : ¬ ((32 : Nat) : Int) < 32 := by omega
                  have hOf : O = ⟨(sumB s.data.toList).toArray⟩ := by
                    have h2 := HO.out
                    rw [List.take_of_length_le (by omega), ← HFIN.out] at h2
                    cases O
                    simp at h2
                    rw [← h2]
                  have HOF : Hid (O = ⟨(sumB s.data.toList).toArray⟩) := hOf
                  clear hOf
                  go_wp2
                  go_ret
                  exact ⟨by rw [← HOF.out]; rfl, hb⟩
end Go.Proofs.YtaocbkloafhmeaaDoor
