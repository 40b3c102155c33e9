/- Signs of one rank, from the left (bound's loop). -/
import Derived.Test.YthgagldpjledgaaGreatDoorNeg
namespace Go.Proofs.YthgagldpjledgaaGreatDoor
open Go.RowKit Go.Shelf
attribute [local go_sem] Oper.semAt_some fw0 fw1 fw2
def atW (b : Nat) (W : World) : Nat :=
  match W.cell? ⟨b, 1, none⟩ with
  | some (.int _ i) => i.toNat
  | _ => 0
theorem Ps.atW {w : World} {b : Nat} {p : Option Addr} {c : Nat} {ws : List Wd} {s : PS} (H : Ps w b p c ws s) : atW b w = s.at' := by
  have h := cell_of_row w b 1 _ _ _ H.row
  have h2 : w.cell? ⟨b, 1, none⟩ = some (.int .i64 (s.at' : Int)) := h
  unfold Go.Proofs.YthgagldpjledgaaGreatDoor.atW
  rw [h2]
  simp
theorem wholeP_ge (ws : List Wd) (s : PS) (h : s.at' < ws.length) : s.at' ≤ (wholeP ws s).at' := by
  unfold wholeP failP
  split
  · split
    · simp only; omega
    · exact Nat.le_refl _
  · exact Nat.le_refl _
set_option maxRecDepth 100000 in
set_option maxHeartbeats 8000000 in
theorem bound_loop {w : World} {b : Nat} {p : Option Addr} {c : Nat} {ws : List Wd} {s : PS} (H : Ps w b p c ws s) (hz : Wz ws) (hex : s.ex ≤ 700000) (rank : Nat) (hrk : rank < 7) (h2 : ¬ ((rank : Int) = 2)) (h3 : ¬ ((rank : Int) = 3)) (h6 : ¬ ((rank : Int) = 6)) (F : PS → Et × PS)
    (hF : ∀ u, u.at' < ws.length → Pk 0 0 ws u (F u).2)
    (kb : ∀ W u, Ps W b p c ws u → Pk 0 0 ws s u → Calls Tryz.prog 92 #[.pointer (some ⟨b, 0, none⟩), .int .i64 ((rank : Int) + 1)] W (Gives ws (fun k => W.heap.size ≤ k) W b p c (F u))) :
    Calls Tryz.prog 92 #[.pointer (some ⟨b, 0, none⟩), .int .i64 (rank : Int)] w (Gives ws (fun k => w.heap.size ≤ k) w b p c (loopF ws F rank ws.length (F s))) := by
  have hold := H.old
  have lb := lt_of_row H.row
  have few := H.few
  have hwr : wrap64 ((rank : Int) + 1) = (rank : Int) + 1 := by unfold wrap64; omega
  obtain ⟨w1, hw1⟩ : ∃ w1, w.alloc (.cells #[.int .i64 0, .string ⟨#[]⟩, .int .i64 0, .bool false, .int .i64 0, .string ⟨#[]⟩, .slice none 0 0, .slice none 0 0, .slice none 0 0, .slice none 0 0] 28) = w1 := ⟨_, rfl⟩
  have hb1 : Below w.heap.size w w1 := by rw [← hw1]; exact (Below.refl _ w).alloc (Nat.le_refl _) _
  have hs1 : w1.heap.size = w.heap.size + 1 := by rw [← hw1]; simp
  have rz1 : w1.heap[w.heap.size]? = some (.cells zero10 28 (0, 0)) := by rw [← hw1]; exact heap_alloc_new _ _
  have k1 := kb w1 s (H.later hb1) (Pk.refl H.lt)
  have hk1 := hF s H.lt
  obtain ⟨X, hX⟩ : ∃ X, F s = X := ⟨_, rfl⟩
  obtain ⟨V, hV⟩ : ∃ V, loopF ws F rank ws.length X = V := ⟨_, rfl⟩
  rw [hX] at k1 hk1 ⊢
  rw [hV]
  have HH : Hid (Ps w b p c ws s ∧ Below w.heap.size w w1 ∧ loopF ws F rank ws.length X = V ∧ Pk 0 0 ws s X.2) := ⟨H, hb1, hV, hk1⟩
  have HF : Hid (∀ u, u.at' < ws.length → Pk 0 0 ws u (F u).2) := hF
  clear H hb1 hV hk1 hX hF
  go_enter Tryz.func92, Tryz.ntmps92
  go_wp2_with fail
  refine k1.mono ?_
  rintro q w2 ⟨d2, v2, rfl, hL2, hP2, hO2⟩
  obtain ⟨R, rfl⟩ := hL2.row
  obtain ⟨w3, hw3⟩ : ∃ w3, w2.alloc (.cells #[.int .i64 R.k, .string R.s, .int .i64 R.vk, .bool R.vb, .int .i64 R.vn, .string R.vs, .slice none 0 0, .slice none 0 0, .slice R.kp R.n R.kc, .slice R.np R.m R.nc] 28) = w3 := ⟨_, rfl⟩
  have hb3 : Below w2.heap.size w2 w3 := by rw [← hw3]; exact (Below.refl _ w2).alloc (Nat.le_refl _) _
  have hs3 : w3.heap.size = w2.heap.size + 1 := by rw [← hw3]; simp
  have rx3 : w3.heap[w2.heap.size]? = some (.cells (arrX R) 28 (0, 0)) := by rw [← hw3]; exact heap_alloc_new _ _
  have s2 := hO2.size
  obtain ⟨S', hS'⟩ : ∃ S', S' = fun k => w.heap.size + 1 ≤ k ∧ k ≠ w2.heap.size := ⟨_, rfl⟩
  have nx : ¬ S' w2.heap.size := by rw [hS']; intro h; exact h.2 rfl
  have nz : ¬ S' w.heap.size := by rw [hS']; intro h; have := h.1; omega
  have nb : ¬ S' b := by rw [hS']; intro h; have := h.1; omega
  have ny : ∀ k, w2.heap.size + 1 ≤ k → S' k := by intro k hk; rw [hS']; exact ⟨by omega, by omega⟩
  have nS : ∀ k, S' k → w.heap.size ≤ k := by intro k hk; rw [hS'] at hk; have := hk.1; omega
  have B3 : Bx w w3 b p c ws w.heap.size w2.heap.size S' X.2 X.1 R := ⟨rx3, (hb3.block _ (by omega)).trans ((hO2.block _ (by omega) (by omega)).trans rz1), ((Onl.of HH.out.2.1).trans hO2).trans (Onl.of hb3), hP2.later hb3, ⟨d2, (hL2.imp fun k hk hl => by rw [hS']; exact ⟨by omega, by omega⟩).since (Since.below hb3)⟩, ⟨lb, by omega, by omega, by omega⟩, hold, ⟨nx, nz, nb⟩⟩
  have HB : Hid (Bx w w3 b p c ws w.heap.size w2.heap.size S' X.2 X.1 R) := B3
  clear k1 hL2 hP2 hO2 hb3 rx3 hS' B3 rz1 hw1
  unfold rowX
  go_wp2_with fail
  go_loopw [] (fun wr => w2.heap.size + 1 ≤ wr.heap.size ∧ ∃ n x R, Bx w wr b p c ws w.heap.size w2.heap.size S' x.2 x.1 R ∧ loopF ws F rank n x = V ∧ ws.length ≤ x.2.at' + n ∧ Pk 0 0 ws s x.2) (fun wr => ws.length - atW b wr)
  case atStart => exact ⟨by omega, ws.length, X, R, HB.out, HH.out.2.2.1, by omega, HH.out.2.2.2⟩
  case round =>
    obtain ⟨hsz, n, x, Rx, B, hlo, hle, hpk⟩ := hrel
    have kw := word_any B.ps
    have lx := B.ps.lt
    obtain ⟨m, rfl⟩ : ∃ m, n = m + 1 := ⟨n - 1, by omega⟩
    unfold loopF at hlo
    have HL : Hid (Bx w wr b p c ws w.heap.size w2.heap.size S' x.2 x.1 Rx) := B
    have HK : Hid (Pk 0 0 ws s x.2) := hpk
    clear B hpk HB hw3
    obtain ⟨rk, hr⟩ : ∃ rk, rankI (wAt ws x.2.at') = rk := ⟨_, rfl⟩
    rw [hr] at hlo
    have kr := fun W => rank_any (wAt ws x.2.at') W
    rw [hr] at kr
    by_cases hy : rk = (rank : Int)
    · rw [if_pos hy] at hlo
      have hz0 : (wAt ws x.2.at').k ≠ 0 := rankI_kind (by rw [hr]; omega)
      have h1 := hz.next lx hz0
      have pk1 := (HK.out.take hz hz0).less
      have pk2 := HF.out (takeP x.2) h1
      have pk3 := pk1.trans pk2
      have e3 := pk3.ex
      have l3 := pk3.lt
      have g2 : x.2.at' + 1 ≤ (F (takeP x.2)).2.at' := pk2.ge
      have pk4 := HK.out.sides hz (by rw [hr]; omega) HF.out x.1
      have g4 : (F (takeP x.2)).2.at' ≤ (sidesF ws F x.1 x.2).2.at' := wholeP_ge ws _ pk2.lt
      have kS := fun W (hP : Ps W b p c ws x.2) (hS : w2.heap.size + 1 ≤ W.heap.size) dd (hd : LiesE W S' dd x.1 (rowX Rx)) => sides_any hP h1 rank hrk F (fun W hP => kb W (takeP x.2) hP pk1) (by omega) (S := S') ⟨nb, fun k hk => ny k (by omega)⟩ hd
      obtain ⟨Y, hY⟩ : ∃ Y, sidesF ws F x.1 x.2 = Y := ⟨_, rfl⟩
      rw [hY] at kS hlo g4 pk4
      have HY : Hid (loopF ws F rank m Y = V ∧ ws.length ≤ Y.2.at' + m ∧ Pk 0 0 ws s Y.2 ∧ x.2.at' < Y.2.at') := ⟨hlo, by omega, pk4, by omega⟩
      subst hy
      clear hlo hz0 pk1 pk2 pk3 e3 l3 g2 pk4 g4 hY hr hle
      go_wp2_with fail
      refine kw.mono ?_
      rintro q w4 ⟨rfl, hb4⟩
      have B4 := HL.out.quiet hb4
      have s4 := hb4.size
      have HB4 : Hid (Bx w w4 b p c ws w.heap.size w2.heap.size S' x.2 x.1 Rx) := B4
      clear kw hb4 B4
      go_wp2_with fail
      refine (kr w4).mono ?_
      rintro q w5 ⟨rfl, hb5⟩
      have B5 := HB4.out.quiet hb5
      have s5 := hb5.size
      obtain ⟨d5, hd5⟩ := B5.lies
      have kS5 := kS w5 B5.ps (by omega) d5 hd5
      unfold rowX at kS5
      have rx5 := B5.rx
      unfold arrX at rx5
      have p0 := cell_of_row w5 _ 0 _ _ _ rx5
      have p1 := cell_of_row w5 _ 1 _ _ _ rx5
      have p2 := cell_of_row w5 _ 2 _ _ _ rx5
      have p3 := cell_of_row w5 _ 3 _ _ _ rx5
      have p4 := cell_of_row w5 _ 4 _ _ _ rx5
      have p5 := cell_of_row w5 _ 5 _ _ _ rx5
      have p6 := cell_of_row w5 _ 6 _ _ _ rx5
      have p7 := cell_of_row w5 _ 7 _ _ _ rx5
      have p8 := cell_of_row w5 _ 8 _ _ _ rx5
      have p9 := cell_of_row w5 _ 9 _ _ _ rx5
      have HB5 : Hid (Bx w w5 b p c ws w.heap.size w2.heap.size S' x.2 x.1 Rx) := B5
      clear kr hb5 HB4 B5 kS hd5
      go_wp2_with fail
      refine kS5.mono ?_
      rintro q w6 ⟨d6, v6, rfl, hL6, hP6, hO6⟩
      obtain ⟨R6, rfl⟩ := hL6.row
      have B6 := HB5.out.store hO6 hP6 hL6
      have rx6 := (HB5.out.calls hO6 hP6).rx
      unfold arrX at rx6
      have s6 := hO6.size
      obtain ⟨w7, hw7⟩ : ∃ w7, setR w6 w2.heap.size R6 = w7 := ⟨_, rfl⟩
      have s7 : w7.heap.size = w6.heap.size := by rw [← hw7]; exact set10_size _ _ _ _ _ _ _ _ _ _ _ _
      rw [hw7] at B6
      unfold setR set10 at hw7
      clear p0 p1 p2 p3 p4 p5 p6 p7 p8 p9
      have q0 := cell_of_row w6 _ 0 _ _ _ rx6
      have g0 := frozen_of_row w6 _ 0 _ _ rx6
      have q1 := cell_of_row w6 _ 1 _ _ _ rx6
      have g1 := frozen_of_row w6 _ 1 _ _ rx6
      have q2 := cell_of_row w6 _ 2 _ _ _ rx6
      have g2 := frozen_of_row w6 _ 2 _ _ rx6
      have q3 := cell_of_row w6 _ 3 _ _ _ rx6
      have g3 := frozen_of_row w6 _ 3 _ _ rx6
      have q4 := cell_of_row w6 _ 4 _ _ _ rx6
      have g4 := frozen_of_row w6 _ 4 _ _ rx6
      have q5 := cell_of_row w6 _ 5 _ _ _ rx6
      have g5 := frozen_of_row w6 _ 5 _ _ rx6
      have q6 := cell_of_row w6 _ 6 _ _ _ rx6
      have g6 := frozen_of_row w6 _ 6 _ _ rx6
      have q7 := cell_of_row w6 _ 7 _ _ _ rx6
      have g7 := frozen_of_row w6 _ 7 _ _ rx6
      have q8 := cell_of_row w6 _ 8 _ _ _ rx6
      have g8 := frozen_of_row w6 _ 8 _ _ rx6
      have q9 := cell_of_row w6 _ 9 _ _ _ rx6
      have g9 := frozen_of_row w6 _ 9 _ _ rx6
      have HB7 : Hid (Bx w w7 b p c ws w.heap.size w2.heap.size S' Y.2 Y.1 R6) := B6
      clear kS5 hL6 hP6 hO6 HB5 rx5 rx6 B6
      unfold rowX
      go_wp2_with fail
      go_roundw
      case rel => exact ⟨by omega, m, Y, R6, HB7.out, HY.out.1, HY.out.2.1, HY.out.2.2.1⟩
      case measure =>
        rw [HB7.out.ps.atW, HL.out.ps.atW]
        have := HY.out.2.2.2
        omega
    · rw [if_neg hy] at hlo
      subst hlo
      clear hr hle
      go_wp2_with fail
      refine kw.mono ?_
      rintro q w4 ⟨rfl, hb4⟩
      have B4 := HL.out.quiet hb4
      have HB4 : Hid (Bx w w4 b p c ws w.heap.size w2.heap.size S' x.2 x.1 Rx) := B4
      clear kw hb4 B4
      go_wp2_with fail
      refine (kr w4).mono ?_
      rintro q w5 ⟨rfl, hb5⟩
      have B5 := HB4.out.quiet hb5
      have rxf := B5.rx
      have rzf := B5.rz
      unfold arrX at rxf
      unfold zero10 at rzf
      have p0 := cell_of_row w5 _ 0 _ _ _ rxf
      have p1 := cell_of_row w5 _ 1 _ _ _ rxf
      have p2 := cell_of_row w5 _ 2 _ _ _ rxf
      have p3 := cell_of_row w5 _ 3 _ _ _ rxf
      have p4 := cell_of_row w5 _ 4 _ _ _ rxf
      have p5 := cell_of_row w5 _ 5 _ _ _ rxf
      have p6 := cell_of_row w5 _ 6 _ _ _ rxf
      have p7 := cell_of_row w5 _ 7 _ _ _ rxf
      have p8 := cell_of_row w5 _ 8 _ _ _ rxf
      have p9 := cell_of_row w5 _ 9 _ _ _ rxf
      have r0 := cell_of_row w5 _ 0 _ _ _ rzf
      have h0 := frozen_of_row w5 _ 0 _ _ rzf
      have r1 := cell_of_row w5 _ 1 _ _ _ rzf
      have h1 := frozen_of_row w5 _ 1 _ _ rzf
      have r2 := cell_of_row w5 _ 2 _ _ _ rzf
      have h2 := frozen_of_row w5 _ 2 _ _ rzf
      have r3 := cell_of_row w5 _ 3 _ _ _ rzf
      have h3 := frozen_of_row w5 _ 3 _ _ rzf
      have r4 := cell_of_row w5 _ 4 _ _ _ rzf
      have h4 := frozen_of_row w5 _ 4 _ _ rzf
      have r5 := cell_of_row w5 _ 5 _ _ _ rzf
      have h5 := frozen_of_row w5 _ 5 _ _ rzf
      have r6 := cell_of_row w5 _ 6 _ _ _ rzf
      have h6 := frozen_of_row w5 _ 6 _ _ rzf
      have r7 := cell_of_row w5 _ 7 _ _ _ rzf
      have h7 := frozen_of_row w5 _ 7 _ _ rzf
      have r8 := cell_of_row w5 _ 8 _ _ _ rzf
      have h8 := frozen_of_row w5 _ 8 _ _ rzf
      have r9 := cell_of_row w5 _ 9 _ _ _ rzf
      have h9 := frozen_of_row w5 _ 9 _ _ rzf
      have HB5 : Hid (Bx w w5 b p c ws w.heap.size w2.heap.size S' x.2 x.1 Rx) := B5
      clear kr hb5 HB4 B5 rxf rzf
      go_wp2
      exact bodyPost_ret (results_cell_row Tryz.results92 _ _ w.heap.size 28 _ (0, 0) _ rfl (setR_row HB5.out.rz rfl Rx) Tryz.underlying28 rfl (by kernel_rfl)) rfl (HB5.out.done nS)
end Go.Proofs.YthgagldpjledgaaGreatDoor
