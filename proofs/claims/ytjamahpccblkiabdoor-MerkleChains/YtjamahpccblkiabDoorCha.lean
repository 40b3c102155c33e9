/- The law MerkleChains as a walk: of any list of strings and any numbers, with the tables laid, the call returns true and nothing that was there has changed. -/
import Derived.Test.YtjamahpccblkiabDoorGrl
namespace Go.Proofs.YtjamahpccblkiabDoor
open Go.RowKit
theorem mod_fact (a : Int) (n : Nat) (hn : 1 ≤ n) (h20 : n ≤ 20) : ∃ (r u : Int) (mm : Nat), a.tmod (n : Int) = r ∧ (r + (n : Int)).tmod (n : Int) = u ∧ u + 1 = (mm : Int) ∧ -20 < r ∧ r < 20 ∧ 0 ≤ u ∧ u < 20 ∧ 1 ≤ mm ∧ mm ≤ n ∧ 0 < r + (n : Int) := by
  have h1 := Int.tmod_lt_of_pos a (b := (n : Int)) (by omega)
  have h2 := Int.lt_tmod_of_pos a (b := (n : Int)) (by omega)
  have h3 := Int.tmod_lt_of_pos (a.tmod (n : Int) + (n : Int)) (b := (n : Int)) (by omega)
  have h4 := Int.tmod_nonneg (a := a.tmod (n : Int) + (n : Int)) (n : Int) (by omega)
  exact ⟨_, _, ((a.tmod (n : Int) + (n : Int)).tmod (n : Int) + 1).toNat, rfl, rfl, by omega, by omega, by omega, h4, by omega, by omega, by omega, by omega⟩
structure Facts (D : List ByteArray) (m k n : Nat) (l1 l2 l3 l4 : List ByteArray) (x y z t : ByteArray) : Prop where
  e1 : grownR (lf D) m 0 k true = l1
  e2 : grownR (lf D) k 0 n true = l2
  e3 : grownR (lf D) m 0 n true = l3
  e4 : pathR (lf D) (m - 1) 0 m = l4
  ex : rootR (lf D) 0 m = x
  ey : rootR (lf D) 0 k = y
  ez : rootR (lf D) 0 n = z
  et : lf D (m - 1) = t
  c1 : conA x y (m : Int) (k : Int) (fun i => l1.getD i ByteArray.empty) l1.length = 0
  c2 : conA y z (k : Int) (n : Int) (fun i => l2.getD i ByteArray.empty) l2.length = 0
  c3 : conA x z (m : Int) (n : Int) (fun i => l3.getD i ByteArray.empty) l3.length = 0
  c4 : verA t x ((m - 1 : Nat) : Int) (m : Int) (fun i => l4.getD i ByteArray.empty) l4.length = 0
  b1 : ¬ badC x y (m : Int) (k : Int)
  b2 : ¬ badC y z (k : Int) (n : Int)
  b3 : ¬ badC x z (m : Int) (n : Int)
  b4 : ¬ badV x t ((m - 1 : Nat) : Int) (m : Int)
theorem facts (D : List ByteArray) (hDs : ∀ x ∈ D, x.size = 32) (m k : Nat) (h20 : D.length ≤ 20) (h1 : 1 ≤ m) (h2 : m ≤ k) (h3 : k ≤ D.length) : ∃ l1 l2 l3 l4 x y z t, Facts D m k D.length l1 l2 l3 l4 x y z t := by
  have hs : ∀ i, i < D.length → (lf D i).size = 32 := fun i hi => lf_mem hDs hi
  have r1 : (rootR (lf D) 0 m).size = 32 := rootR_size _ _ _ (fun i _ h2 => hs i (by omega))
  have r2 : (rootR (lf D) 0 k).size = 32 := rootR_size _ _ _ (fun i _ h2 => hs i (by omega))
  have r3 : (rootR (lf D) 0 D.length).size = 32 := rootR_size _ _ _ (fun i _ h2 => hs i (by omega))
  have r4 : (lf D (m - 1)).size = 32 := hs _ (by omega)
  refine ⟨_, _, _, _, _, _, _, _, ⟨rfl, rfl, rfl, rfl, rfl, rfl, rfl, rfl, ?_, ?_, ?_, ?_, ?_, ?_, ?_, ?_⟩⟩
  · exact con_grown (lf D) m k h1 h2 (by have := grownR_len (lf D) m 0 k true; omega) (fun i hi => hs i (by omega))
  · exact con_grown (lf D) k D.length (by omega) h3 (by have := grownR_len (lf D) k 0 D.length true; omega) hs
  · exact con_grown (lf D) m D.length h1 (by omega) (by have := grownR_len (lf D) m 0 D.length true; omega) hs
  · exact ver_path (lf D) (m - 1) m (by omega) (by have := pathR_len (lf D) (m - 1) 0 m; omega) (fun i hi => hs i (by omega))
  · intro h; unfold badC at h; omega
  · intro h; unfold badC at h; omega
  · intro h; unfold badC at h; omega
  · intro h; unfold badV at h; omega
set_option maxHeartbeats 16000000 in
set_option maxRecDepth 100000 in
theorem chains_walk (p : Option Addr) (n c : Nat) (g : Nat → ByteArray) (a1 a2 : Int) (w : World) (hG : GL w) (hD : GD w) (H : Strs w p n c g) (hgs : ∀ i, i < n → (g i).size ≤ maxLen) :
    Calls Tryd.prog 3 #[.slice p n c, .int .i64 a1, .int .i64 a2] w fun e w' => e = .returned (.bool true) ∧ Below w.heap.size w w' := by
  have hm : maxLen = 9223372036854775807 := rfl
  go_enter Tryd.func3, Tryd.ntmps3
  go_wp2_with fail
  refine (gro_any p n c g _ hG hD H hgs).mono ?_
  rintro e w1 ⟨b, v, rfl, D, hGr, hD20, hDs⟩
  have hbl := hGr.bel
  have hsz := hbl.size
  obtain ⟨q, cq, rfl, hcq, hS⟩ := gall hGr
  by_cases hD0 : D.length = 0
  · rw [hD0]
    have hz : ((0 : Nat) : Int) = 0 := rfl
    go_wp2_with fail
    refine (awake_any _ hGr.gl hGr.gd).mono ?_
    rintro e w3 ⟨rfl, hb3⟩
    go_wp2
    go_ret
    exact ⟨rfl, hbl.trans (hb3.mono hsz)⟩
  · have hDB : ((D.length : Int) == 0) = false := beq_eq_false_iff_ne.2 (by omega)
    obtain ⟨r1, u1, m1, f1, f2, f3, f4, f5, f6, f7, f8, f9, f10⟩ := mod_fact a1 D.length (by omega) hD20
    obtain ⟨r2, u2, m2, g1, g2, g3, g4, g5, g6, g7, g8, g9, g10⟩ := mod_fact a2 D.length (by omega) hD20
    have hDn : ¬ (D.length : Int) = 0 := by omega
    obtain ⟨s1, hs1⟩ : ∃ s1 : Int, r1 + (D.length : Int) = s1 := ⟨_, rfl⟩
    obtain ⟨s2, hs2⟩ : ∃ s2 : Int, r2 + (D.length : Int) = s2 := ⟨_, rfl⟩
    rw [hs1] at f2 f10
    rw [hs2] at g2 g10
    have ws1 : IntKind.i64.wrap s1 = s1 := by rw [IntKind.wrap_i64]; omega
    have ws2 : IntKind.i64.wrap s2 = s2 := by rw [IntKind.wrap_i64]; omega
    have wm1 : IntKind.i64.wrap (m1 : Int) = (m1 : Int) := by rw [IntKind.wrap_i64]; omega
    have wm2 : IntKind.i64.wrap (m2 : Int) = (m2 : Int) := by rw [IntKind.wrap_i64]; omega
    go_wp2_with fail
    refine quiet_class (C := fun W => Below w1.heap.size w1 W) (by kernel_rfl) (by kernel_rfl) (below_drewN (Below.refl _ _) 1) ?_
    go_big_quiet_step (fail)
    go_big_quiet_step (fail)
    refine BigFrame.wpQuiet_want (by rfl) (fun K hK => q_pure (v := .int .i64 r1) (fun W => ?_) (hK _ ?_))
    · go_simp
    simp only [Act.put, List.setIfInBounds_toArray, List.set_cons_zero, List.set_cons_succ]
    go_big_quiet_step (fail)
    refine BigFrame.wpQuiet_want (by rfl) (fun K hK => q_pure (v := .int .i64 s1) (fun W => ?_) (hK _ ?_))
    · go_simp
    simp only [Act.put, List.setIfInBounds_toArray, List.set_cons_zero, List.set_cons_succ]
    go_big_quiet_step (fail)
    refine BigFrame.wpQuiet_want (by rfl) (fun K hK => q_pure (v := .int .i64 u1) (fun W => ?_) (hK _ ?_))
    · go_simp
    simp only [Act.put, List.setIfInBounds_toArray, List.set_cons_zero, List.set_cons_succ]
    refine BigFrame.wpQuiet_want (by rfl) (fun K hK => q_pure (v := .int .i64 (m1 : Int)) (fun W => ?_) (hK _ ?_))
    · go_simp
    simp only [Act.put, List.setIfInBounds_toArray, List.set_cons_zero, List.set_cons_succ]
    go_big_quiet_step (fail)
    go_big_quiet_step (fail)
    refine BigFrame.wpQuiet_want (by rfl) (fun K hK => q_pure (v := .int .i64 r2) (fun W => ?_) (hK _ ?_))
    · go_simp
    simp only [Act.put, List.setIfInBounds_toArray, List.set_cons_zero, List.set_cons_succ]
    go_big_quiet_step (fail)
    refine BigFrame.wpQuiet_want (by rfl) (fun K hK => q_pure (v := .int .i64 s2) (fun W => ?_) (hK _ ?_))
    · go_simp
    simp only [Act.put, List.setIfInBounds_toArray, List.set_cons_zero, List.set_cons_succ]
    go_big_quiet_step (fail)
    refine BigFrame.wpQuiet_want (by rfl) (fun K hK => q_pure (v := .int .i64 u2) (fun W => ?_) (hK _ ?_))
    · go_simp
    simp only [Act.put, List.setIfInBounds_toArray, List.set_cons_zero, List.set_cons_succ]
    refine BigFrame.wpQuiet_want (by rfl) (fun K hK => q_pure (v := .int .i64 (m2 : Int)) (fun W => ?_) (hK _ ?_))
    · go_simp
    simp only [Act.put, List.setIfInBounds_toArray, List.set_cons_zero, List.set_cons_succ]
    go_big_quiet_step (fail)
    go_big_quiet_step (fail)
    refine wpQuiet_nil (fun w2 hb2 => ?_)
    have hG2 := hGr.later hb2
    have hS2 := hS.later hb2
    have hbl2 := hbl.trans (hb2.mono hsz)
    clear hGr hS f1 f2 f3 g1 g2 g3 hs1 hs2 hsz hbl hb2 ws1 ws2 wm1 wm2
    by_cases hgt : m2 < m1
    · have hgt' : (m2 : Int) < (m1 : Int) := by omega
      obtain ⟨l1, l2, l3, l4, x, y, z, t, F⟩ := facts D hDs m2 m1 hD20 (by omega) (by omega) (by omega)
      obtain ⟨qb, qo, rfl, hqb, hqc⟩ := hS2.at' (by omega)
      have c0 := hqc (m2 - 1) (by omega)
      rw [F.et] at c0
      have P1 := fun w' (h : Gr w w' b (.slice (some ⟨qb, qo, none⟩) D.length cq) D D) => gGrown h (by omega) m2 m1 (by omega) (by omega) (by omega)
      have P2 := fun w' (h : Gr w w' b (.slice (some ⟨qb, qo, none⟩) D.length cq) D D) => gGrown h (by omega) m1 D.length (by omega) (by omega) (by omega)
      have P3 := fun w' (h : Gr w w' b (.slice (some ⟨qb, qo, none⟩) D.length cq) D D) => gGrown h (by omega) m2 D.length (by omega) (by omega) (by omega)
      have P4 := fun w' (h : Gr w w' b (.slice (some ⟨qb, qo, none⟩) D.length cq) D D) => grootAt h (by omega) (m2 : Int) (by omega) (by omega)
      have P5 := fun w' (h : Gr w w' b (.slice (some ⟨qb, qo, none⟩) D.length cq) D D) => grootAt h (by omega) (m1 : Int) (by omega) (by omega)
      have P6 := fun w' (h : Gr w w' b (.slice (some ⟨qb, qo, none⟩) D.length cq) D D) => gPath h (by omega) (m2 - 1) m2 (by omega) (by omega)
      have P7 := fun w' (h : Gr w w' b (.slice (some ⟨qb, qo, none⟩) D.length cq) D D) => groot h (by omega)
      simp only [Int.toNat_natCast] at P4 P5
      simp only [F.e1] at P1
      simp only [F.e2] at P2
      simp only [F.e3] at P3
      simp only [F.ex] at P4
      simp only [F.ey] at P5
      simp only [F.e4] at P6
      simp only [F.ez] at P7
      have C1 := F.c1
      have C2 := F.c2
      have C3 := F.c3
      have C4 := F.c4
      have N1 := F.b1
      have N2 := F.b2
      have N3 := F.b3
      have N4 := F.b4
      obtain ⟨mp, hmp⟩ : ∃ mp : Nat, m2 - 1 = mp := ⟨_, rfl⟩
      rw [hmp] at C4 N4 c0
      simp only [hmp] at P6
      have hmp' : (m2 : Int) - 1 = (mp : Int) := by omega
      have hmi : (mp : Int) < (D.length : Int) := by omega
      have HC1 : Hid (conA x y (m2 : Int) (m1 : Int) (fun i => l1.getD i ByteArray.empty) l1.length = 0) := C1
      have HC2 : Hid (conA y z (m1 : Int) (D.length : Int) (fun i => l2.getD i ByteArray.empty) l2.length = 0) := C2
      have HC3 : Hid (conA x z (m2 : Int) (D.length : Int) (fun i => l3.getD i ByteArray.empty) l3.length = 0) := C3
      have HC4 : Hid (verA t x (mp : Int) (m2 : Int) (fun i => l4.getD i ByteArray.empty) l4.length = 0) := C4
      clear F hqc hmp C1 C2 C3 C4
      go_wp2_with fail
      refine (P1 _ hG2).mono ?_
      rintro e w3 ⟨v1, rfl, o1, h3⟩
      obtain ⟨p1, d1, rfl, S1⟩ := own_strs o1
      have hG3 := hG2.later h3
      go_wp2_with fail
      refine (P2 _ hG3).mono ?_
      rintro e w4 ⟨v2, rfl, o2, h4⟩
      obtain ⟨p2, d2, rfl, S2⟩ := own_strs o2
      have hG4 := hG3.later h4
      go_wp2_with fail
      refine (P3 _ hG4).mono ?_
      rintro e w5 ⟨v3, rfl, o3, h5⟩
      obtain ⟨p3, d3, rfl, S3⟩ := own_strs o3
      have hG5 := hG4.later h5
      go_wp2_with fail
      refine (P4 _ hG5).mono ?_
      rintro e w6 ⟨rfl, h6⟩
      have hG6 := hG5.later h6
      go_wp2_with fail
      refine (P5 _ hG6).mono ?_
      rintro e w7 ⟨rfl, h7⟩
      have hG7 := hG6.later h7
      go_wp2_with fail
      refine (P6 _ hG7).mono ?_
      rintro e w8 ⟨v4, rfl, o4, h8⟩
      obtain ⟨p4, d4, rfl, S4⟩ := own_strs o4
      have hG8 := hG7.later h8
      go_wp2_with fail
      refine (awake_any _ hG8.gl hG8.gd).mono ?_
      rintro e w9 ⟨rfl, h9⟩
      have hG9 := hG8.later h9
      have t1 := (((((S1.later h4).later h5).later h6).later h7).later h8).later h9
      have t2 := ((((S2.later h5).later h6).later h7).later h8).later h9
      have t3 := (((S3.later h6).later h7).later h8).later h9
      have t4 := S4.later h9
      have V1 := con_any x y (m2 : Int) (m1 : Int) N1 p1 l1.length d1 _ w9 t1 hG9.gl
      rw [HC1.out] at V1
      go_wp2_with fail
      refine V1.mono ?_
      rintro e w10 ⟨rfl, h10⟩
      have hG10 := hG9.later h10
      go_wp2_with fail
      refine (P7 _ hG10).mono ?_
      rintro e w11 ⟨rfl, h11⟩
      have hG11 := hG10.later h11
      have V2 := con_any y z (m1 : Int) (D.length : Int) N2 p2 l2.length d2 _ w11 ((t2.later h10).later h11) hG11.gl
      rw [HC2.out] at V2
      go_wp2_with fail
      refine V2.mono ?_
      rintro e w12 ⟨rfl, h12⟩
      have hG12 := hG11.later h12
      go_wp2_with fail
      refine (P7 _ hG12).mono ?_
      rintro e w13 ⟨rfl, h13⟩
      have hG13 := hG12.later h13
      have V3 := con_any x z (m2 : Int) (D.length : Int) N3 p3 l3.length d3 _ w13 ((((t3.later h10).later h11).later h12).later h13) hG13.gl
      rw [HC3.out] at V3
      go_wp2_with fail
      refine V3.mono ?_
      rintro e w14 ⟨rfl, h14⟩
      have hG14 := hG13.later h14
      have k3 := below2 (below2 (below2 (below2 (below2 (below2 h3 h4) h5) h6) h7) h8) h9
      have k4 := below2 (below2 (below2 (below2 (below2 k3 h10) h11) h12) h13) h14
      have c6 := (k4.cell (p := ⟨qb, qo + mp, none⟩) hqb).trans c0
      have V4 := ver_any x t (mp : Int) (m2 : Int) N4 p4 l4.length d4 _ w14 (((((t4.later h10).later h11).later h12).later h13).later h14) hG14.gl
      rw [HC4.out] at V4
      go_wp2_with fail
      refine V4.mono ?_
      rintro e w15 ⟨rfl, h15⟩
      go_wp2
      go_ret
      exact ⟨rfl, hG14.bel.trans (h15.mono hG14.bel.size)⟩
    · have hgt' : ¬ (m2 : Int) < (m1 : Int) := by omega
      obtain ⟨l1, l2, l3, l4, x, y, z, t, F⟩ := facts D hDs m1 m2 hD20 (by omega) (by omega) (by omega)
      obtain ⟨qb, qo, rfl, hqb, hqc⟩ := hS2.at' (by omega)
      have c0 := hqc (m1 - 1) (by omega)
      rw [F.et] at c0
      have P1 := fun w' (h : Gr w w' b (.slice (some ⟨qb, qo, none⟩) D.length cq) D D) => gGrown h (by omega) m1 m2 (by omega) (by omega) (by omega)
      have P2 := fun w' (h : Gr w w' b (.slice (some ⟨qb, qo, none⟩) D.length cq) D D) => gGrown h (by omega) m2 D.length (by omega) (by omega) (by omega)
      have P3 := fun w' (h : Gr w w' b (.slice (some ⟨qb, qo, none⟩) D.length cq) D D) => gGrown h (by omega) m1 D.length (by omega) (by omega) (by omega)
      have P4 := fun w' (h : Gr w w' b (.slice (some ⟨qb, qo, none⟩) D.length cq) D D) => grootAt h (by omega) (m1 : Int) (by omega) (by omega)
      have P5 := fun w' (h : Gr w w' b (.slice (some ⟨qb, qo, none⟩) D.length cq) D D) => grootAt h (by omega) (m2 : Int) (by omega) (by omega)
      have P6 := fun w' (h : Gr w w' b (.slice (some ⟨qb, qo, none⟩) D.length cq) D D) => gPath h (by omega) (m1 - 1) m1 (by omega) (by omega)
      have P7 := fun w' (h : Gr w w' b (.slice (some ⟨qb, qo, none⟩) D.length cq) D D) => groot h (by omega)
      simp only [Int.toNat_natCast] at P4 P5
      simp only [F.e1] at P1
      simp only [F.e2] at P2
      simp only [F.e3] at P3
      simp only [F.ex] at P4
      simp only [F.ey] at P5
      simp only [F.e4] at P6
      simp only [F.ez] at P7
      have C1 := F.c1
      have C2 := F.c2
      have C3 := F.c3
      have C4 := F.c4
      have N1 := F.b1
      have N2 := F.b2
      have N3 := F.b3
      have N4 := F.b4
      obtain ⟨mp, hmp⟩ : ∃ mp : Nat, m1 - 1 = mp := ⟨_, rfl⟩
      rw [hmp] at C4 N4 c0
      simp only [hmp] at P6
      have hmp' : (m1 : Int) - 1 = (mp : Int) := by omega
      have hmi : (mp : Int) < (D.length : Int) := by omega
      have HC1 : Hid (conA x y (m1 : Int) (m2 : Int) (fun i => l1.getD i ByteArray.empty) l1.length = 0) := C1
      have HC2 : Hid (conA y z (m2 : Int) (D.length : Int) (fun i => l2.getD i ByteArray.empty) l2.length = 0) := C2
      have HC3 : Hid (conA x z (m1 : Int) (D.length : Int) (fun i => l3.getD i ByteArray.empty) l3.length = 0) := C3
      have HC4 : Hid (verA t x (mp : Int) (m1 : Int) (fun i => l4.getD i ByteArray.empty) l4.length = 0) := C4
      clear F hqc hmp C1 C2 C3 C4
      go_wp2_with fail
      refine (P1 _ hG2).mono ?_
      rintro e w3 ⟨v1, rfl, o1, h3⟩
      obtain ⟨p1, d1, rfl, S1⟩ := own_strs o1
      have hG3 := hG2.later h3
      go_wp2_with fail
      refine (P2 _ hG3).mono ?_
      rintro e w4 ⟨v2, rfl, o2, h4⟩
      obtain ⟨p2, d2, rfl, S2⟩ := own_strs o2
      have hG4 := hG3.later h4
      go_wp2_with fail
      refine (P3 _ hG4).mono ?_
      rintro e w5 ⟨v3, rfl, o3, h5⟩
      obtain ⟨p3, d3, rfl, S3⟩ := own_strs o3
      have hG5 := hG4.later h5
      go_wp2_with fail
      refine (P4 _ hG5).mono ?_
      rintro e w6 ⟨rfl, h6⟩
      have hG6 := hG5.later h6
      go_wp2_with fail
      refine (P5 _ hG6).mono ?_
      rintro e w7 ⟨rfl, h7⟩
      have hG7 := hG6.later h7
      go_wp2_with fail
      refine (P6 _ hG7).mono ?_
      rintro e w8 ⟨v4, rfl, o4, h8⟩
      obtain ⟨p4, d4, rfl, S4⟩ := own_strs o4
      have hG8 := hG7.later h8
      go_wp2_with fail
      refine (awake_any _ hG8.gl hG8.gd).mono ?_
      rintro e w9 ⟨rfl, h9⟩
      have hG9 := hG8.later h9
      have t1 := (((((S1.later h4).later h5).later h6).later h7).later h8).later h9
      have t2 := ((((S2.later h5).later h6).later h7).later h8).later h9
      have t3 := (((S3.later h6).later h7).later h8).later h9
      have t4 := S4.later h9
      have V1 := con_any x y (m1 : Int) (m2 : Int) N1 p1 l1.length d1 _ w9 t1 hG9.gl
      rw [HC1.out] at V1
      go_wp2_with fail
      refine V1.mono ?_
      rintro e w10 ⟨rfl, h10⟩
      have hG10 := hG9.later h10
      go_wp2_with fail
      refine (P7 _ hG10).mono ?_
      rintro e w11 ⟨rfl, h11⟩
      have hG11 := hG10.later h11
      have V2 := con_any y z (m2 : Int) (D.length : Int) N2 p2 l2.length d2 _ w11 ((t2.later h10).later h11) hG11.gl
      rw [HC2.out] at V2
      go_wp2_with fail
      refine V2.mono ?_
      rintro e w12 ⟨rfl, h12⟩
      have hG12 := hG11.later h12
      go_wp2_with fail
      refine (P7 _ hG12).mono ?_
      rintro e w13 ⟨rfl, h13⟩
      have hG13 := hG12.later h13
      have V3 := con_any x z (m1 : Int) (D.length : Int) N3 p3 l3.length d3 _ w13 ((((t3.later h10).later h11).later h12).later h13) hG13.gl
      rw [HC3.out] at V3
      go_wp2_with fail
      refine V3.mono ?_
      rintro e w14 ⟨rfl, h14⟩
      have hG14 := hG13.later h14
      have k3 := below2 (below2 (below2 (below2 (below2 (below2 h3 h4) h5) h6) h7) h8) h9
      have k4 := below2 (below2 (below2 (below2 (below2 k3 h10) h11) h12) h13) h14
      have c6 := (k4.cell (p := ⟨qb, qo + mp, none⟩) hqb).trans c0
      have V4 := ver_any x t (mp : Int) (m1 : Int) N4 p4 l4.length d4 _ w14 (((((t4.later h10).later h11).later h12).later h13).later h14) hG14.gl
      rw [HC4.out] at V4
      go_wp2_with fail
      refine V4.mono ?_
      rintro e w15 ⟨rfl, h15⟩
      go_wp2
      go_ret
      exact ⟨rfl, hG14.bel.trans (h15.mono hG14.bel.size)⟩
end Go.Proofs.YtjamahpccblkiabDoor
