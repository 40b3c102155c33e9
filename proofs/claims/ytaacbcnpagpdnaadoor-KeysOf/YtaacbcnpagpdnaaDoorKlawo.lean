/- KeysOf, called: of any value and any number. -/
import Derived.Test.YtaacbcnpagpdnaaDoorKlen
import Derived.Test.YtaacbcnpagpdnaaDoorKawake
import Derived.Test.YtaacbcnpagpdnaaDoorRef
namespace Go.Proofs.YtaacbcnpagpdnaaDoor
open Go.RowKit
theorem LiesS.whole {S : Nat → Prop} {w : World} {t : Tr} {x : Ad} (h : LiesS S w t x) (hS : ∀ k, S k → k < w.heap.size) : Lies w.heap.size w t x := h.up hS
set_option maxRecDepth 100000 in
set_option maxHeartbeats 8000000 in
theorem law_of {t : Tr} {x : Ad} (n : Nat) (hn : n < 18446744073709551616) (w : World) (hg : Gm w) (hL : Lies w.heap.size w t x) :
    Calls Tryd.prog 3 #[t.val x, .int .u64 (n : Int)] w fun e w' => e = .returned (.bool true) ∧ Below w.heap.size w w' := by
  have hV : t.val x = .agg #[.int .i64 t.k, .bool t.b, .int .i64 t.n, .string t.s, .slice x.pa t.m x.pc, .slice x.na t.q x.nc] := rfl
  have hcut := fun (W : World) (hb : Below w.heap.size w W) => cut_all t w.heap.size W x 8 32 (hL.later hb) hb.size (by decide) (by decide)
  have hsm := small_cut t 8 32
  have hsl := slim_cut t 8 32 (by decide)
  obtain ⟨T, hT⟩ : ∃ T, cutT t 8 32 = T := ⟨_, rfl⟩
  rw [hT] at hcut hsm hsl
  clear hT
  rw [hV] at hcut ⊢
  clear hV
  have hgp := hg.pos
  have hbel : Below w.heap.size w (w.alloc (.cells #[.int .i64 t.k, .bool t.b, .int .i64 t.n, .string t.s, .slice x.pa t.m x.pc, .slice x.na t.q x.nc] 25)) := (Below.refl _ w).alloc (Nat.le_refl _) _
  have HSM : Hid (small T) := hsm
  have HSL : Hid (slim T) := hsl
  have HG : Hid (Gm w) := hg
  clear hsm hsl hg hL
  go_enter Tryd.func3, Tryd.ntmps3
  go_wp2_with fail
  refine (hcut _ hbel).mono ?_
  rintro e w1 ⟨A, rfl, hLc, hb1⟩
  have hbw1 : Below w.heap.size w w1 := hbel.trans (hb1.mono (by simp))
  have hz1 := hbw1.size
  have hLw : Lies w1.heap.size w1 T A := hLc.whole (fun k hk => by rcases hk with hk | hk; omega; exact hk.2)
  clear hLc hb1 hbel hcut
  have hVT : T.val A = .agg #[.int .i64 T.k, .bool T.b, .int .i64 T.n, .string T.s, .slice A.pa T.m A.pc, .slice A.na T.q A.nc] := rfl
  rw [hVT]
  have hb2 : Below w1.heap.size w1 (w1.alloc (.cells #[.int .i64 T.k, .bool T.b, .int .i64 T.n, .string T.s, .slice A.pa T.m A.pc, .slice A.na T.q A.nc] 25)) := (Below.refl _ w1).alloc (Nat.le_refl _) _
  have hck := fun (W : World) (hb : Below w1.heap.size w1 W) => check_any (hLw.later hb) hb.size HSM.out
  have hre := fun (W : World) (hb : Below w1.heap.size w1 W) => ref_all T HSL.out w1.heap.size W A (hLw.later hb) hb.size
  rw [hVT] at hck hre
  obtain ⟨C, hC⟩ : ∃ C, checkT T = C := ⟨_, rfl⟩
  rw [hC] at hck
  have HC : Hid (checkT T = C) := hC
  clear hC
  go_wp2_with fail
  refine (hck _ hb2).mono ?_
  rintro e w3 ⟨rfl, hb3⟩
  have hrow3 := (hb3.block w1.heap.size (by simp)).trans (fresh_row w1 #[.int .i64 T.k, .bool T.b, .int .i64 T.n, .string T.s, .slice A.pa T.m A.pc, .slice A.na T.q A.nc] 25)
  have hb13 : Below w1.heap.size w1 w3 := hb2.trans (hb3.mono (by simp))
  clear hb2 hb3 hck
  by_cases h0 : C = 0
  · subst h0
    have hz3 := lt_of_row hrow3
    have c0 := cell_of_row w3 _ 0 _ _ _ hrow3
    have c1 := cell_of_row w3 _ 1 _ _ _ hrow3
    have c2 := cell_of_row w3 _ 2 _ _ _ hrow3
    have c3 := cell_of_row w3 _ 3 _ _ _ hrow3
    have c4 := cell_of_row w3 _ 4 _ _ _ hrow3
    have c5 := cell_of_row w3 _ 5 _ _ _ hrow3
    have hof := fun (W : World) (hb : Below w1.heap.size w1 W) => of_ok (w := W) HC.out HSM.out (HG.out.later (hbw1.trans (hb.mono (by omega))) hgp) (hLw.later hb) hb.size
    have hpa := fun (W : World) (hb : Below w1.heap.size w1 W) => pair_ok (w := W) n hn HC.out HSM.out (HG.out.later (hbw1.trans (hb.mono (by omega))) hgp) (hLw.later hb) hb.size
    have hky := fun (W : World) (A1 : Ad) (hL1 : Lies W.heap.size W T A1) => key_ok (w := W) HC.out HSM.out hL1 (Nat.le_refl _)
    have hnu := fun W => number_any n hn W
    have hei := fun W => eight_any n hn W
    rw [hVT] at hof hpa
    have hks := key_short HC.out
    obtain ⟨K, hK⟩ : ∃ K : ByteArray, (⟨(keyT T).toArray⟩ : ByteArray) = K := ⟨_, rfl⟩
    obtain ⟨E, hE⟩ : ∃ E : ByteArray, (⟨(be8 n).toArray⟩ : ByteArray) = E := ⟨_, rfl⟩
    have hzz : ¬ 9223372036854775807 < K.size + E.size := by
      rw [← hK, ← hE]
      show ¬ 9223372036854775807 < (keyT T).toArray.size + (be8 n).toArray.size
      rw [List.size_toArray, List.size_toArray, be8_len]
      omega
    rw [hK] at hof hky hpa
    rw [hE] at hnu hei hpa
    clear hK hE hks hVT
    go_wp2_with fail
    refine (hre _ hb13).mono ?_
    rintro e w4 ⟨A1, rfl, hL4, hb4⟩
    have hL4w : Lies w4.heap.size w4 T A1 := hL4.whole (fun k hk => by have := hb4.size; rcases hk with hk | hk; omega; exact hk.2)
    replace hky := hky w4 A1 hL4w
    have hV1 : T.val A1 = .agg #[.int .i64 T.k, .bool T.b, .int .i64 T.n, .string T.s, .slice A1.pa T.m A1.pc, .slice A1.na T.q A1.nc] := rfl
    rw [hV1] at hky ⊢
    clear hV1 hL4 hL4w
    go_wp2_with fail
    refine hky.mono ?_
    rintro e w5 ⟨rfl, hb5⟩
    go_wp2_with fail
    refine (awake_any _).mono ?_
    rintro e w6 ⟨rfl, hb6⟩
    have hz4 := hb4.size
    have hz5 := hb5.size
    have hz6 := hb6.size
    have h36 : Below w3.heap.size w3 w6 := (hb4.trans (hb5.mono (by omega))).trans (hb6.mono (by omega))
    have h16 : Below w1.heap.size w1 w6 := hb13.trans (h36.mono (by omega))
    have hrow6 := (h36.block _ hz3).trans hrow3
    clear c0 c1 c2 c3 c4 c5 hb4 hb5 hb6
    have c0 := cell_of_row w6 _ 0 _ _ _ hrow6
    have c1 := cell_of_row w6 _ 1 _ _ _ hrow6
    have c2 := cell_of_row w6 _ 2 _ _ _ hrow6
    have c3 := cell_of_row w6 _ 3 _ _ _ hrow6
    have c4 := cell_of_row w6 _ 4 _ _ _ hrow6
    have c5 := cell_of_row w6 _ 5 _ _ _ hrow6
    go_wp2_with fail
    refine (hof _ h16).mono ?_
    rintro e w7 ⟨rfl, hb7⟩
    have hz7 := hb7.size
    go_wp2_with fail
    refine (hnu _).mono ?_
    rintro e w8 ⟨rfl, hb8⟩
    have hz8 := hb8.size
    go_wp2_with fail
    refine (hei _).mono ?_
    rintro e w9 ⟨rfl, hb9⟩
    have hz9 := hb9.size
    have h69 : Below w6.heap.size w6 w9 := (hb7.trans (hb8.mono (by omega))).trans (hb9.mono (by omega))
    have h19 : Below w1.heap.size w1 w9 := h16.trans (h69.mono (by omega))
    have hrow9 := (h69.block _ (lt_of_row hrow6)).trans hrow6
    clear c0 c1 c2 c3 c4 c5 hb7 hb8 hb9
    have c0 := cell_of_row w9 _ 0 _ _ _ hrow9
    have c1 := cell_of_row w9 _ 1 _ _ _ hrow9
    have c2 := cell_of_row w9 _ 2 _ _ _ hrow9
    have c3 := cell_of_row w9 _ 3 _ _ _ hrow9
    have c4 := cell_of_row w9 _ 4 _ _ _ hrow9
    have c5 := cell_of_row w9 _ 5 _ _ _ hrow9
    go_wp2_with fail
    refine (hpa _ h19).mono ?_
    rintro e w10 ⟨rfl, hb10⟩
    have hz10 := hb10.size
    go_wp2_with fail
    refine (hei _).mono ?_
    rintro e w11 ⟨rfl, hb11⟩
    go_wp2
    go_ret
    exact ⟨rfl, ((hbw1.trans (h19.mono (by omega))).trans (hb10.mono (by omega))).trans (hb11.mono (by omega))⟩
  · have h0' : (C != 0) = true := by simpa using h0
    go_wp2_with fail
    refine (awake_any _).mono ?_
    rintro e w4 ⟨rfl, hb4⟩
    go_wp2
    go_ret
    exact ⟨rfl, (hbw1.trans (hb13.mono (by omega))).trans (hb4.mono (by have := hb13.size; omega))⟩
end Go.Proofs.YtaacbcnpagpdnaaDoor
