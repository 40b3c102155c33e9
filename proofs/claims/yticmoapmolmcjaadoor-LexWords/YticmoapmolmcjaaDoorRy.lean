/- The document's word, where it is a number or a sign. -/
import Derived.Test.YticmoapmolmcjaaDoorRx
namespace Go.Proofs.YticmoapmolmcjaaDoor
open Go.RowKit Go.Shelf
set_option maxRecDepth 20000 in
set_option maxHeartbeats 16000000 in
theorem rword_num (s : ByteArray) (hs : s.size ≤ 10000) (a : Nat) (hlt : a < s.size) (c : UInt8) (hc : s.data.toList[a]? = some c) (hin : digitB (c.toNat : Int) = true) (w : World) :
    Calls Tryd.prog 18 #[.string s, .int .i64 (a : Int)] w fun e w' => RW a (numA (s.data.toList.drop a)) e ∧ Below w.heap.size w w' := by
  have hlt' : (a : Int) < (s.size : Int) := by omega
  have hce : ((s[a].toNat : Nat) : Int) = (c.toNat : Int) := by rw [chr_eq s a hlt, chr_at hc]
  have hcl := class_any (c.toNat : Int)
  have hls := Lib.size_eq s
  have HLS : Hid (s.size = s.data.toList.length) := hls
  clear hls
  have h39 : ¬ ((c.toNat : Nat) : Int) = 39 := by
    intro e
    rw [e] at hin
    exact absurd hin (by decide)
  have h120 : ¬ ((c.toNat : Nat) : Int) = 120 := by
    intro e
    rw [e] at hin
    exact absurd hin (by decide)
  have hc1 : classI (c.toNat : Int) = 2 := by unfold classI; rw [hin]; simp
  rw [hc1] at hcl
  have hV : ∀ e, runL digitB (s.data.toList.drop a) = e - a → a ≤ e → e ≤ s.size → RW a (numA (s.data.toList.drop a)) (.returned (if numB (s.extract a e).data.toList = true then .tuple #[.agg #[.int .i64 3, .string (s.extract a e), .int .i64 (a : Int)], .int .i64 (e : Int)] else .tuple #[.agg #[.int .i64 0, .string ⟨#[]⟩, .int .i64 0], .int .i64 0])) := by
    intro e h1 h2 h3
    unfold numA
    rw [h1, ext_list]
    have hx : s.extract a e = ⟨((s.data.toList.drop a).take (e - a)).toArray⟩ := ba_eq (ext_list _ _ _)
    by_cases hk : numB ((s.data.toList.drop a).take (e - a)) = true
    · rw [if_pos hk, if_pos hk]
      exact RW.some (k := 3) hx (by omega)
    · rw [if_neg hk, if_neg hk]
      exact RW.none a 0 _ 0
  have hDL : ∀ e, runL digitB (s.data.toList.drop a) = e - a → a ≤ e → e ≤ s.size → 0 < (s.extract a e).size ∧ ∀ c ∈ (s.extract a e).data.toList, digitB (c.toNat : Int) = true := by
    intro e h1 h2 h3
    refine ⟨?_, ?_⟩
    · rw [drop_at hc, runL_pos _ _ hin] at h1
      rw [ByteArray.size_extract]
      omega
    · rw [ext_list, ← h1]
      exact runL_take digitB _
  have HDL : Hid (∀ e, runL digitB (s.data.toList.drop a) = e - a → a ≤ e → e ≤ s.size → 0 < (s.extract a e).size ∧ ∀ c ∈ (s.extract a e).data.toList, digitB (c.toNat : Int) = true) := hDL
  obtain ⟨PO, hPO⟩ : ∃ PO, PO = fun e => RW a (numA (s.data.toList.drop a)) e := ⟨_, rfl⟩
  have hPe : ∀ e, RW a (numA (s.data.toList.drop a)) e = PO e := fun e => by rw [hPO]
  simp only [hPe] at hV ⊢
  have HV : Hid (∀ e, runL digitB (s.data.toList.drop a) = e - a → a ≤ e → e ≤ s.size → PO (.returned (if numB (s.extract a e).data.toList = true then .tuple #[.agg #[.int .i64 3, .string (s.extract a e), .int .i64 (a : Int)], .int .i64 (e : Int)] else .tuple #[.agg #[.int .i64 0, .string ⟨#[]⟩, .int .i64 0], .int .i64 0]))) := hV
  clear hV hDL hPO hPe hc1 hin
  go_enter Tryd.func18, Tryd.ntmps18
  go_wp2_with fail
  refine (hcl _).mono ?_
  rintro e w2 ⟨rfl, rfl⟩
  obtain ⟨w1, hw1⟩ : ∃ w1, w1 = w.alloc (.cells #[.int .i64 0, .string ⟨#[]⟩, .int .i64 0] 32) := ⟨_, rfl⟩
  have hz : Z3 w1 w.heap.size 32 := by rw [hw1]; exact Z3.new w 32
  have hB : Below w.heap.size w w1 := by rw [hw1]; exact (Below.refl _ w).alloc (Nat.le_refl _) _
  rw [← hw1]
  clear hw1
  go_wp2_with fail
  refine (hcl _).mono ?_
  rintro e w2 ⟨rfl, hw2⟩
  have hw2' := hw2.symm
  subst hw2'
  clear hw2
  go_wp2
  go_loopw [13] (fun c13 wr => ∃ e : Nat, a ≤ e ∧ e ≤ s.size ∧ c13 = .int .i64 (e : Int) ∧ Hid (∀ j, a ≤ j → j < e → digitB (chr s j) = true) ∧ wr = w1) (fun c13 _ => s.size - (intOf c13).toNat)
  case atStart =>
    have h : ∀ j, a ≤ j → j < a → digitB (chr s j) = true := fun j h1 h2 => by omega
    exact ⟨a, Nat.le_refl _, by omega, rfl, h, rfl⟩
  case round =>
    obtain ⟨e, hae, hes, rfl, hj, hw⟩ := hrel
    have hw' := hw.symm
    subst hw'
    clear hw
    by_cases hle : e < s.size
    · have hle' : (e : Int) < (s.size : Int) := by omega
      have hce2 : ((s[e].toNat : Nat) : Int) = chr s e := chr_eq s e hle
      have hcl2 := class_any (chr s e)
      have hnext : digitB (chr s e) = true → Hid (∀ j, a ≤ j → j < e + 1 → digitB (chr s j) = true) := fun hp => by
        have h : ∀ j, a ≤ j → j < e + 1 → digitB (chr s j) = true := fun j h1 h2 => by
          rcases Nat.lt_or_ge j e with k | k
          · exact hj.out j h1 k
          · obtain rfl : j = e := by omega
            exact hp
        exact h
      obtain ⟨x, hx⟩ : ∃ x, chr s e = x := ⟨_, rfl⟩
      have hcx := class_two x
      rw [hx] at hce2 hcl2 hnext
      have HX : Hid (chr s e = x) := hx
      clear hx
      rcases hcx with ⟨hc1, hin⟩ | ⟨hc1, hin⟩
      · rw [hc1] at hcl2
        clear hc1
        go_wp2_with fail
        refine (hcl2 _).mono ?_
        rintro e1 w2 ⟨rfl, hw2⟩
        have hw2' := hw2.symm
        subst hw2'
        clear hw2
        go_wp2
        refine ⟨⟨e + 1, by omega, by omega, by go_num, hnext hin, trivial⟩, ?_⟩
        simp [intOf]
        omega
      · have hrun := run_from digitB hae hes hj.out (fun _ => by rw [HX.out]; exact hin)
        obtain ⟨y, hy⟩ : ∃ y, classI x = y := ⟨_, rfl⟩
        rw [hy] at hcl2 hc1
        clear hy hnext hin
        go_wp2_with fail
        refine (hcl2 _).mono ?_
        rintro e1 w2 ⟨rfl, hw2⟩
        have hw2' := hw2.symm
        subst hw2'
        clear hw2
        have hV := HV.out e hrun hae hes
        have hdl := HDL.out e hrun hae hes
        clear HV HDL hrun hj
        have hnum := rnumber_any (s.extract a e) hdl.1 hdl.2
        have haE : (a : Int) ≤ (e : Int) := by omega
        have hEs : ((e : Nat) : Int) ≤ (s.size : Int) := by omega
        obtain ⟨K, hK⟩ : ∃ K, numB (s.extract a e).data.toList = K := ⟨_, rfl⟩
        rw [hK] at hnum hV
        have HV : Hid (PO _) := hV
        clear hK hV hdl
        go_wp2_with fail
        refine (hnum _).mono ?_
        rintro e1 w3 ⟨rfl, hw3⟩
        have hw3' := hw3.symm
        subst hw3'
        clear hw3
        have f0 := frozen_of_row w1 _ 0 _ _ hz
        have f1 := frozen_of_row w1 _ 1 _ _ hz
        have f2 := frozen_of_row w1 _ 2 _ _ hz
        have c0 := cell_of_row w1 _ 0 _ _ _ hz
        have c1 := cell_of_row w1 _ 1 _ _ _ hz
        have c2 := cell_of_row w1 _ 2 _ _ _ hz
        cases K with
        | true =>
          rw [if_pos rfl] at HV
          go_wp2
          exact bodyPost_ret (results_row_tmp Tryd.results18 _ _ w.heap.size 32 _ (0, 0) _ rfl (set3_row hz _ _ _) Tryd.underlying32 rfl (by kernel_rfl)) rfl ⟨HV.out, set3_below hB _ (Nat.le_refl _) _ _ _⟩
        | false =>
          rw [if_neg (by simp)] at HV
          go_wp2
          exact bodyPost_ret (results_row_tmp Tryd.results18 _ _ w.heap.size 32 _ (0, 0) _ rfl (set3_row hz _ _ _) Tryd.underlying32 rfl (by kernel_rfl)) rfl ⟨HV.out, set3_below hB _ (Nat.le_refl _) _ _ _⟩
    · obtain rfl : s.size = e := by omega
      have hle' : ¬ ((s.size : Nat) : Int) < (s.size : Int) := by omega
      have hrun := run_from digitB hae (Nat.le_refl _) hj.out (fun h => absurd h (Nat.lt_irrefl _))
      have hV := HV.out s.size hrun hae hes
      have hdl := HDL.out s.size hrun hae hes
      clear HV HDL hrun hj
      have hnum := rnumber_any (s.extract a s.size) hdl.1 hdl.2
      have haE : (a : Int) ≤ (s.size : Int) := by omega
      have hEs : ((s.size : Nat) : Int) ≤ (s.size : Int) := by omega
      obtain ⟨K, hK⟩ : ∃ K, numB (s.extract a s.size).data.toList = K := ⟨_, rfl⟩
      rw [hK] at hnum hV
      have HV : Hid (PO _) := hV
      clear hK hV hdl
      go_wp2_with fail
      refine (hnum _).mono ?_
      rintro e1 w3 ⟨rfl, hw3⟩
      have hw3' := hw3.symm
      subst hw3'
      clear hw3
      have f0 := frozen_of_row w1 _ 0 _ _ hz
      have f1 := frozen_of_row w1 _ 1 _ _ hz
      have f2 := frozen_of_row w1 _ 2 _ _ hz
      have c0 := cell_of_row w1 _ 0 _ _ _ hz
      have c1 := cell_of_row w1 _ 1 _ _ _ hz
      have c2 := cell_of_row w1 _ 2 _ _ _ hz
      cases K with
      | true =>
        rw [if_pos rfl] at HV
        go_wp2
        exact bodyPost_ret (results_row_tmp Tryd.results18 _ _ w.heap.size 32 _ (0, 0) _ rfl (set3_row hz _ _ _) Tryd.underlying32 rfl (by kernel_rfl)) rfl ⟨HV.out, set3_below hB _ (Nat.le_refl _) _ _ _⟩
      | false =>
        rw [if_neg (by simp)] at HV
        go_wp2
        exact bodyPost_ret (results_row_tmp Tryd.results18 _ _ w.heap.size 32 _ (0, 0) _ rfl (set3_row hz _ _ _) Tryd.underlying32 rfl (by kernel_rfl)) rfl ⟨HV.out, set3_below hB _ (Nat.le_refl _) _ _ _⟩
end Go.Proofs.YticmoapmolmcjaaDoor
