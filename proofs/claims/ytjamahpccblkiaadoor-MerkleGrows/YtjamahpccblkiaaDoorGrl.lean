/- The law MerkleGrows as a walk: of any list of strings and any numbers, with the tables laid, the call returns true and nothing that was there has changed. -/
import Derived.Test.YtjamahpccblkiaaDoorRgr
import Derived.Test.YtjamahpccblkiaaDoorPal
namespace Go.Proofs.YtjamahpccblkiaaDoor
open Go.RowKit
theorem gGrown {w0 wr : World} {b : Nat} {v : Value} {DT D : List ByteArray} (h : Gr w0 wr b v DT D) (h64 : DT.length ≤ 64) (m n : Nat) (h0 : 1 ≤ m) (h1 : m ≤ n) (h2 : n ≤ DT.length) :
    Calls Tryd.prog 22 #[.pointer (some ⟨b, 0, none⟩), .int .i64 (m : Int), .int .i64 (n : Int)] wr fun e w' => ∃ v, e = .returned (.tuple #[v, .int .i64 0]) ∧ w'.ownsRow wr.heap.size 9 1 v (grownR (lf DT) m 0 n true).length (strs (grownR (lf DT) m 0 n true)) ∧ Below wr.heap.size wr w' := by
  obtain ⟨S, t1, t2, t3⟩ := h.tre
  have := Grown_any (lf DT) S b DT.length h64 (m : Int) (n : Int) (by omega) (by omega) (by omega) wr h.gl h.gd t1
  rw [Int.toNat_natCast, Int.toNat_natCast] at this
  exact this
theorem gGrown_bad {w0 wr : World} {b : Nat} {v : Value} {DT D : List ByteArray} (h : Gr w0 wr b v DT D) (h64 : DT.length ≤ 64) (m n : Int) (hb : n < 0 ∨ (DT.length : Int) < n ∨ m < 1 ∨ n < m) :
    Calls Tryd.prog 22 #[.pointer (some ⟨b, 0, none⟩), .int .i64 m, .int .i64 n] wr fun e w' => e = .returned (.tuple #[.slice none 0 0, .int .i64 1]) ∧ w' = wr := by
  obtain ⟨S, t1, t2, t3⟩ := h.tre
  exact Grown_bad _ S b _ h64 m n hb wr t1
set_option maxHeartbeats 8000000 in
theorem grows_at (p : Option Addr) (n c : Nat) (g : Nat → ByteArray) (m k : Int) (w : World) (hG : GL w) (hD : GD w) (H : Strs w p n c g) (hgs : ∀ i, i < n → (g i).size ≤ maxLen)
    (hb : ∀ N : Nat, (k < 0 ∨ (N : Int) < k ∨ m < 1 ∨ k < m) ∨ (1 ≤ m ∧ m ≤ k ∧ k ≤ N)) :
    Calls Tryd.prog 5 #[.slice p n c, .int .i64 m, .int .i64 k] w fun e w' => e = .returned (.bool true) ∧ Below w.heap.size w w' := by
  have hm : maxLen = 9223372036854775807 := rfl
  go_enter Tryd.func5, Tryd.ntmps5
  go_wp2_with fail
  refine (gro_any p n c g _ hG hD H hgs).mono ?_
  rintro e w1 ⟨b, v, rfl, D, hGr, hD20, hDs⟩
  have hbl := hGr.bel
  have hsz := hbl.size
  have hDle : ∀ x ∈ D, x.size ≤ 400 := fun x hx => by rw [hDs x hx]; omega
  obtain ⟨q, cq, rfl, hcq, hS⟩ := gall hGr
  rcases hb D.length with hbad | ⟨g0, g1, g2⟩
  · have hP := gGrown_bad hGr (by omega) m k hbad
    go_wp2_with fail
    refine hP.mono ?_
    rintro e w2 ⟨rfl, rfl⟩
    go_wp2_with fail
    refine (awake_any _ hGr.gl hGr.gd).mono ?_
    rintro e w3 ⟨rfl, hb3⟩
    clear hP hGr hS
    by_cases a1 : k < 0
    · clear hbad
      go_wp2
      all_goals (go_ret; exact ⟨rfl, hbl.trans (hb3.mono hsz)⟩)
    · by_cases a2 : (D.length : Int) < k
      · clear hbad
        go_wp2
        all_goals (go_ret; exact ⟨rfl, hbl.trans (hb3.mono hsz)⟩)
      · by_cases a3 : m < 1
        · clear hbad
          go_wp2
          all_goals (go_ret; exact ⟨rfl, hbl.trans (hb3.mono hsz)⟩)
        · have a4 : k < m := by omega
          clear hbad
          go_wp2
          all_goals (go_ret; exact ⟨rfl, hbl.trans (hb3.mono hsz)⟩)
  · obtain ⟨mm, rfl⟩ : ∃ mm : Nat, m = mm := ⟨m.toNat, by omega⟩
    obtain ⟨kk, rfl⟩ : ∃ kk : Nat, k = kk := ⟨k.toNat, by omega⟩
    have hP := gGrown hGr (by omega) mm kk (by omega) (by omega) (by omega)
    have hl := grownR_len (lf D) mm 0 kk true
    have hver := con_grown (lf D) mm kk (by omega) (by omega) (by omega) (fun i hi => lf_mem hDs (by omega))
    have hrp := fun w hs => rgrown_any (lf D) (lf_le D hDle) kk kk 0 (mm : Int) true (Nat.le_refl _) (by omega) (by omega) (by omega) q cq w hs
    have hRA := fun w' (h : Gr w w' b (.slice q D.length cq) D D) => grootAt h (by omega) (kk : Int) (by omega) (by omega)
    have hRB := fun w' (h : Gr w w' b (.slice q D.length cq) D D) => grootAt h (by omega) (mm : Int) (by omega) (by omega)
    simp only [Int.toNat_natCast] at hRA hRB hrp
    have hrs : (rootR (lf D) 0 kk).size = 32 := rootR_size _ _ _ (fun i _ h2 => lf_mem hDs (by omega))
    have hls : (rootR (lf D) 0 mm).size = 32 := rootR_size _ _ _ (fun i _ h2 => lf_mem hDs (by omega))
    obtain ⟨qb, qo, rfl, hqb, hqc⟩ := hS.at' (by omega)
    have hSk := (hS.less kk (by omega)).congr (g' := fun i => lf D (0 + i)) (fun i _ => by rw [Nat.zero_add])
    obtain ⟨l, hlq⟩ : ∃ l, grownR (lf D) mm 0 kk true = l := ⟨_, rfl⟩
    rw [hlq] at hP hl hver
    simp only [hlq] at hrp
    obtain ⟨y, hy⟩ : ∃ y, rootR (lf D) 0 kk = y := ⟨_, rfl⟩
    rw [hy] at hver hrs
    simp only [hy] at hRA
    obtain ⟨x, hx⟩ : ∃ x, rootR (lf D) 0 mm = x := ⟨_, rfl⟩
    rw [hx] at hver hls
    simp only [hx] at hRB
    have hvb : ¬ badC x y (mm : Int) (kk : Int) := fun h => by unfold badC at h; omega
    have A1 : decide ((kk : Int) < 0) = false := decide_eq_false (by omega)
    have A2 : decide ((D.length : Int) < (kk : Int)) = false := decide_eq_false (by omega)
    have A3 : decide ((mm : Int) < 1) = false := decide_eq_false (by omega)
    have A4 : decide ((kk : Int) < (mm : Int)) = false := decide_eq_false (by omega)
    have B2 : ¬ (D.length : Int) < (kk : Int) := by omega
    have B4 : ¬ (kk : Int) < (mm : Int) := by omega
    have B5 : ¬ (mm : Int) < 1 := by omega
    have B6 : (kk : Int) ≤ (cq : Int) := by omega
    have hl2 : l.length ≤ 64 := by omega
    clear hlq hy hx hqc hb hl
    go_wp2_with fail
    refine hP.mono ?_
    rintro e w2 ⟨v1, rfl, own1, hb2⟩
    obtain ⟨p1, c1, rfl, hS1⟩ := own_strs own1
    have hG2 := hGr.later hb2
    go_wp2_with fail
    refine (awake_any _ hG2.gl hG2.gd).mono ?_
    rintro e w3 ⟨rfl, hb3⟩
    have hG3 := hG2.later hb3
    go_wp2_with fail
    refine (hRB w3 hG3).mono ?_
    rintro e w8 ⟨rfl, hb8⟩
    have hG8 := hG3.later hb8
    go_wp2_with fail
    refine (hRA w8 hG8).mono ?_
    rintro e w4 ⟨rfl, hb4'⟩
    have hb4 := below2 hb8 hb4'
    have hG4 := hG3.later hb4
    have hb14 := below2 (below2 hb2 hb3) hb4
    go_wp2_with fail
    refine (hrp w4 (hSk.later hb14)).mono ?_
    rintro e w5 ⟨v2, rfl, own2, hb5⟩
    obtain ⟨p2, c2, rfl, hS2⟩ := own_strs own2
    have hS15 := ((hS1.later hb3).later hb4).later hb5
    go_wp2_with fail
    refine (same_any p1 p2 l.length c1 c2 _ _ (fun _ _ => rfl) w5 hS15 hS2).mono ?_
    rintro e w6 ⟨rfl, hb6⟩
    have hb16 := below2 (below2 hb14 hb5) hb6
    have hv := con_any x y (mm : Int) (kk : Int) hvb p1 l.length c1 _ w6 (hS15.later hb6) ((hG4.gl.later hb5).later hb6)
    rw [hver] at hv
    go_wp2_with fail
    refine hv.mono ?_
    rintro e w7 ⟨rfl, hb7⟩
    go_wp2
    go_ret
    exact ⟨rfl, hbl.trans ((below2 hb16 hb7).mono hsz)⟩
theorem grows_walk (p : Option Addr) (n c : Nat) (g : Nat → ByteArray) (m k : Int) (w : World) (hG : GL w) (hD : GD w) (H : Strs w p n c g) (hgs : ∀ i, i < n → (g i).size ≤ maxLen) :
    Calls Tryd.prog 5 #[.slice p n c, .int .i64 m, .int .i64 k] w fun e w' => e = .returned (.bool true) ∧ Below w.heap.size w w' :=
  grows_at p n c g m k w hG hD H hgs (fun N => by omega)
end Go.Proofs.YtjamahpccblkiaaDoor
