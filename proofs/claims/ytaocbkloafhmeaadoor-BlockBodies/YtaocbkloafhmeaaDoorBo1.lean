/- The law BlockBodies as a walk. -/
import Derived.Test.YtaocbkloafhmeaaDoorAwk
import Derived.Test.YtaocbkloafhmeaaDoorBlc
import Derived.Test.YtaocbkloafhmeaaDoorBol
import Derived.Deep.Cut
import Derived.Deep.CutRange
namespace Go.Proofs.YtaocbkloafhmeaaDoor
open Go.RowKit
set_option maxRecDepth 100000 in
set_option maxHeartbeats 8000000 in
theorem bodies_1 (x : Bk) (hxf : x.fit) (p : Option Addr) (c : Nat) (t : Int) (bo : ByteArray) (w : World) (hw : 3 ≤ w.heap.size) (hG : GL w) (hD : GD w) (hX : Revs w p x.n c x.R) (hC : 0 < (cutB x).n ∧ ¬ 0 ≤ t) :
    Calls Tryd.prog 7 #[x.val p c, .int .i64 t, .string bo] w fun e w' => e = .returned (.bool true) ∧ Below w.heap.size w w' := by
  have haw := fun W (hb : Below w.heap.size w W) => awake_any W (by have := hb.size; omega) (hG.later hb) (hD.later hb)
  have kb1 := fun W hX => block_any x p c W hX
  have hX2 : Revs w p x.n c (cutB x).R := hX
  have hxc : (cutB x).fit := ⟨hxf.seq, hxf.tx, hxf.prev⟩
  have hXp : Revs w p (cutB x).n c (cutB x).R := hX.less _ (Nat.min_le_left _ _)
  have nX := cutB_n x
  have vx : x.val p c = .agg #[.int .u64 ((cutB x).seq : Int), .string (cutB x).prev, .int .u64 ((cutB x).tx : Int), .slice p x.n c] := rfl
  rw [vx] at kb1
  rw [vx]
  rw [show x.R = (cutB x).R from rfl] at kb1
  obtain ⟨X, eX⟩ : ∃ X, cutB x = X := ⟨_, rfl⟩
  obtain ⟨xn, exn⟩ : ∃ n, x.n = n := ⟨_, rfl⟩
  rw [eX, exn] at kb1 hX2
  rw [eX] at hxc hXp nX hC
  rw [eX, exn]
  clear vx eX exn hxf hX
  have kw := fun W (hb : Below w.heap.size w W) k hX => with_any X nX k bo p c W (hG.later hb) hX
  have ko := fun W k hX => without_any X nX k p c W hX
  have kg := fun (Y : Bk) (hY : Y.fit) (hn : Y.n ≤ 66) W (hb : Below w.heap.size w W) q d hX => hash_any Y hY hn q d W (by have := hb.size; omega) (hG.later hb) (hD.later hb) hX
  have hvI : ∀ k q d, (inX X k bo).val q d = .agg #[.int .u64 (X.seq : Int), .string X.prev, .int .u64 (X.tx : Int), .slice q X.n d] := fun k q d => by unfold inX; split <;> rfl
  have hvO : ∀ k q d, (outX X k).val q d = .agg #[.int .u64 (X.seq : Int), .string X.prev, .int .u64 (X.tx : Int), .slice q X.n d] := fun k q d => by unfold outX; split <;> rfl
  simp only [hvI] at kw
  simp only [hvO] at ko
  clear hvI hvO
  obtain ⟨seq, prev, tx, m, R⟩ := X
  have HC : Hid (0 < m ∧ ¬ 0 ≤ t) := hC
  clear hC
  go_enter Tryd.func7, Tryd.ntmps7
  have hv1 : ∀ q d, (Bk.mk seq prev tx m R).val q d = .agg #[.int .u64 (seq : Int), .string prev, .int .u64 (tx : Int), .slice q m d] := fun _ _ => rfl
  simp only [hv1] at kb1 kw ko
  simp only at hX2 hXp nX
  have b0 : ∀ o, Below w.heap.size w (w.alloc o) := fun o => (Below.refl _ w).alloc (Nat.le_refl _) o
  go_wp2_with fail
  refine (kb1 _ (hX2.later (b0 _))).mono ?_
  rintro e w1 ⟨q, d, rfl, hXq, hb1⟩
  have hb01 := (b0 _).trans (hb1.mono (by simp))
  have hs1 := hb01.size
  go_upto_region 3 with fail
  obtain ⟨w5, hw5⟩ : ∃ w5, (w1.alloc (.cells #[.int .u64 (seq : Int), .string prev, .int .u64 (tx : Int), .slice p m c] 38)).alloc (.cells #[.int .u64 (seq : Int), .string prev, .int .u64 (tx : Int), .slice q m d] 41) = w5 := ⟨_, rfl⟩
  have b15 : Below w1.heap.size w1 w5 := by rw [← hw5]; exact ((Below.refl _ _).alloc (Nat.le_refl _) _).alloc (by simp) _
  have hx5 : w5.heap[w1.heap.size]? = some (.cells #[.int .u64 (seq : Int), .string prev, .int .u64 (tx : Int), .slice p m c] 38 (0, 0)) := by rw [← hw5]; exact (Below.heap_alloc _ _ _ (by simp)).trans (heap_alloc_new _ _)
  have hy5 : w5.heap[w1.heap.size + 1]? = some (.cells #[.int .u64 (seq : Int), .string prev, .int .u64 (tx : Int), .slice q m d] 41 (0, 0)) := by rw [← hw5]; exact two_new _ _ _
  rw [hw5]
  clear hw5
  have hb5 := hb01.trans (b15.mono hs1)
  have hXq5 := hXq.later b15
  have hXp5 := hXp.later hb5
  have hs5 := hb5.size
  obtain ⟨b1, hbb1⟩ : ∃ b1, w1.heap.size = b1 := ⟨_, rfl⟩
  rw [hbb1] at hx5 hy5 ⊢
  obtain ⟨b2, hbb2⟩ : ∃ b2, b1 + 1 = b2 := ⟨_, rfl⟩
  rw [hbb2] at hy5 ⊢
  clear hbb1 hbb2 hXq hb01 hb1 kb1 b15 hs1 b0 hX2 hXp
  have z73 := cell_of_row w5 _ 3 _ _ _ hx5
  have z70 := cell_of_row w5 _ 0 _ _ _ hx5
  have z71 := cell_of_row w5 _ 1 _ _ _ hx5
  have z72 := cell_of_row w5 _ 2 _ _ _ hx5
  have hcap := hXp5.cap
  have hmx : maxLen = 9223372036854775807 := rfl
  obtain ⟨K, hK⟩ : ∃ K : Int, (if 0 < m ∧ 0 ≤ t then t % ((m : Int) + 1) else t) = K := ⟨_, rfl⟩
  have hK1 : 0 < m → 0 ≤ t → t.tmod ((m : Int) + 1) = K := fun h1 h2 => by rw [← hK, if_pos ⟨h1, h2⟩]; exact Int.tmod_eq_emod_of_nonneg h2
  have kwK := fun W hb hX => kw W hb K hX
  have koK := fun W hX => ko W K hX
  obtain ⟨E1, hE1⟩ : ∃ E, inE ⟨seq, prev, tx, m, R⟩ K bo = E := ⟨_, rfl⟩
  obtain ⟨E2, hE2⟩ : ∃ E, outE ⟨seq, prev, tx, m, R⟩ K = E := ⟨_, rfl⟩
  rw [hE1] at kwK
  rw [hE2] at koK
  obtain ⟨Wt, hWt⟩ : ∃ b, inB m R K bo = b := ⟨_, rfl⟩
  obtain ⟨Ot, hOt⟩ : ∃ b, outB m R K = b := ⟨_, rfl⟩
  have HE1 : Hid (E1 = if Wt then 0 else 1) := by unfold Hid; rw [← hE1, ← hWt]; rfl
  have HE2 : Hid (E2 = if Ot then 0 else 1) := by unfold Hid; rw [← hE2, ← hOt]; rfl
  have HW : Hid (inB m R K bo = Wt) := hWt
  have HO : Hid (outB m R K = Ot) := hOt
  clear hE1 hE2 hWt hOt kw ko
  have hRc1 : ∀ i : Nat, (i : Int) ≠ K → (inX ⟨seq, prev, tx, m, R⟩ K bo).R i = R i := in_other _ _ _
  have hRc2 : Wt = true → ∃ i0 : Nat, K = (i0 : Int) ∧ i0 < m ∧ ((inX ⟨seq, prev, tx, m, R⟩ K bo).R i0).b = bo ∧ ((inX ⟨seq, prev, tx, m, R⟩ K bo).R i0).g = false := fun h => in_at ⟨seq, prev, tx, m, R⟩ K bo (HW.out.trans h)
  have hRd1 : ∀ i : Nat, (i : Int) ≠ K → (outX ⟨seq, prev, tx, m, R⟩ K).R i = R i := out_other _ _
  have hRd2 : Ot = true → ∃ i0 : Nat, K = (i0 : Int) ∧ i0 < m ∧ ((outX ⟨seq, prev, tx, m, R⟩ K).R i0).b = ⟨#[]⟩ ∧ ((outX ⟨seq, prev, tx, m, R⟩ K).R i0).g = true := fun h => out_at ⟨seq, prev, tx, m, R⟩ K (HO.out.trans h)
  have kgx := fun W hb q d hX => kg ⟨seq, prev, tx, m, R⟩ hxc nX W hb q d hX
  have kgc := fun W hb q d hX => kg (inX ⟨seq, prev, tx, m, R⟩ K bo) (in_fit _ hxc _ _) (by rw [in_n]; exact nX) W hb q d hX
  have kgd := fun W hb q d hX => kg (outX ⟨seq, prev, tx, m, R⟩ K) (out_fit _ hxc _) (by rw [out_n]; exact nX) W hb q d hX
  rw [hash_in, in_n] at kgc
  rw [hash_out, out_n] at kgd
  simp only [in_val] at kgc
  simp only [out_val] at kgd
  simp only [hv1] at kgx
  obtain ⟨Hh, hHh⟩ : ∃ h, hashT ⟨seq, prev, tx, m, R⟩ = h := ⟨_, rfl⟩
  rw [hHh] at kgx kgc kgd
  obtain ⟨Rc, hRc⟩ : ∃ r, (inX ⟨seq, prev, tx, m, R⟩ K bo).R = r := ⟨_, rfl⟩
  obtain ⟨Rd, hRd⟩ : ∃ r, (outX ⟨seq, prev, tx, m, R⟩ K).R = r := ⟨_, rfl⟩
  rw [hRc] at kgc kwK hRc1 hRc2
  rw [hRd] at kgd koK hRd1 hRd2
  have HRc1 : Hid (∀ i : Nat, (i : Int) ≠ K → Rc i = R i) := hRc1
  have HRd1 : Hid (∀ i : Nat, (i : Int) ≠ K → Rd i = R i) := hRd1
  have HRc2 : Hid (Wt = true → ∃ i0 : Nat, K = (i0 : Int) ∧ i0 < m ∧ (Rc i0).b = bo ∧ (Rc i0).g = false) := hRc2
  have HRd2 : Hid (Ot = true → ∃ i0 : Nat, K = (i0 : Int) ∧ i0 < m ∧ (Rd i0).b = ⟨#[]⟩ ∧ (Rd i0).g = true) := hRd2
  clear hRc hRd hHh hRc1 hRc2 hRd1 hRd2 kg hv1
  have hlf := fun W hG (h1 : bo.size ≤ 1024) => leaf_any bo (by omega) W hG
  obtain ⟨y, hy⟩ : ∃ y, sumS (leafT bo) = y := ⟨_, rfl⟩
  rw [hy] at hlf
  have HY : Hid (sumS (leafT bo) = y) := hy
  clear hy
  obtain ⟨A, hA⟩ : ∃ A, bodAt m R K = A := ⟨_, rfl⟩
  have HA : Hid (bodAt m R K = A) := hA
  clear hA
  have HK : Hid ((if 0 < m ∧ 0 ≤ t then t % ((m : Int) + 1) else t) = K) := hK
  clear hK
  have hKt : K = t := by rw [← HK.out, if_neg (fun h => by have := HC.out.2; omega)]
  subst hKt
  have hC1 : 0 < m := HC.out.1
  have hm0' : (0 : Int) < (m : Int) := by omega
  have ht0 : ¬ 0 ≤ K := by have := HC.out.2; omega
  have ht0d : decide (0 ≤ K) = false := decide_eq_false ht0
  go_upto_region 5 with fail
  go_wp2_with fail
  refine (kwK _ hb5 hXp5).mono ?_
  rintro e w6 ⟨q1, d1, rfl, hXc6, hb56⟩
  have hx6 := cell_later4 hb56 hx5
  have hy6 := cell_later4 hb56 hy5
  have hb6 := hb5.trans (hb56.mono hs5)
  have hs6 := hb6.size
  go_upto_region 6 with fail
  obtain ⟨w7, hw7⟩ : ∃ w7, w6.alloc (.cells #[.int .u64 (seq : Int), .string prev, .int .u64 (tx : Int), .slice q1 m d1] 38) = w7 := ⟨_, rfl⟩
  have b67 : Below w6.heap.size w6 w7 := by rw [← hw7]; exact (Below.refl _ _).alloc (Nat.le_refl _) _
  have hc7 : w7.heap[w6.heap.size]? = some (.cells #[.int .u64 (seq : Int), .string prev, .int .u64 (tx : Int), .slice q1 m d1] 38 (0, 0)) := by rw [← hw7]; exact heap_alloc_new _ _
  rw [hw7]
  clear hw7
  have hx7 := cell_later4 b67 hx6
  have hy7 := cell_later4 b67 hy6
  have hb7 := hb6.trans (b67.mono hs6)
  have hs7 := hb7.size
  have hXc7 := hXc6.later b67
  have hXp7 := (hXp5.later hb56).later b67
  have hXq7 := (hXq5.later hb56).later b67
  obtain ⟨b3, hbb3⟩ : ∃ b3, w6.heap.size = b3 := ⟨_, rfl⟩
  rw [hbb3] at hc7 ⊢
  clear hbb3 b67 hb56 hx6 hy6 hXc6 hXp5 hXq5 hx5 hy5 z70 z71 z72 z73 hb6 hs6
  have z70 := cell_of_row w7 _ 0 _ _ _ hx7
  have z71 := cell_of_row w7 _ 1 _ _ _ hx7
  have z72 := cell_of_row w7 _ 2 _ _ _ hx7
  have z73 := cell_of_row w7 _ 3 _ _ _ hx7
  go_wp2_with fail
  refine (koK _ hXp7).mono ?_
  rintro e w8 ⟨q2, d2, rfl, hXd8, hb78⟩
  have hb8 := hb7.trans (hb78.mono hs7)
  have hs8 := hb8.size
  go_upto_region 7 with fail
  obtain ⟨w9, hw9⟩ : ∃ w9, w8.alloc (.cells #[.int .u64 (seq : Int), .string prev, .int .u64 (tx : Int), .slice q2 m d2] 38) = w9 := ⟨_, rfl⟩
  have b89 : Below w8.heap.size w8 w9 := by rw [← hw9]; exact (Below.refl _ _).alloc (Nat.le_refl _) _
  have hd9 : w9.heap[w8.heap.size]? = some (.cells #[.int .u64 (seq : Int), .string prev, .int .u64 (tx : Int), .slice q2 m d2] 38 (0, 0)) := by rw [← hw9]; exact heap_alloc_new _ _
  rw [hw9]
  clear hw9
  have hx9 := cell_later4 b89 (cell_later4 hb78 hx7)
  have hy9 := cell_later4 b89 (cell_later4 hb78 hy7)
  have hc9 := cell_later4 b89 (cell_later4 hb78 hc7)
  have hb9 := hb8.trans (b89.mono hs8)
  have hs9 := hb9.size
  have hXc9 := (hXc7.later hb78).later b89
  have hXp9 := (hXp7.later hb78).later b89
  have hXq9 := (hXq7.later hb78).later b89
  have hXd9 := hXd8.later b89
  obtain ⟨b4, hbb4⟩ : ∃ b4, w8.heap.size = b4 := ⟨_, rfl⟩
  rw [hbb4] at hd9 ⊢
  clear hbb4 b89 hb78 hXd8 hXc7 hXp7 hXq7 hx7 hy7 hc7 z70 z71 z72 z73 hb8 hs8 hb7 hs7
  have y3 := cell_of_row w9 _ 3 _ _ _ hy9
  go_cut [14] from 51 to 77 (fun c14 wx => c14 = .bool A ∧ wx = w9)
  case first =>
    by_cases k0 : 0 ≤ K
    · exact absurd k0 (by omega)
    · have hAf : A = false := by rw [← HA.out]; unfold bodAt; rw [decide_eq_false k0]; simp
      go_wp2_with fail
      go_meet
      case rel => exact ⟨by rw [hAf], rfl⟩
  case rest =>
    obtain ⟨rfl, hwx⟩ := hcut
    have hwy := hwx.symm
    subst hwy
    have hin : A = true → ∃ i : Nat, K = (i : Int) ∧ i < m := fun h => by
      have h2 := HA.out
      rw [h] at h2
      unfold bodAt at h2
      simp only [Bool.and_eq_true, decide_eq_true_eq] at h2
      exact ⟨K.toNat, by omega, by omega⟩
    have hG9 := hG.later hb9
    go_wp2_with fail
    go_cut [15] from 78 to 94 (fun c15 wx => c15 = .bool Wt ∧ Below w9.heap.size w9 wx)
    case first =>
      cases A with
      | false =>
        have hWf : Wt = false := by rw [← HW.out]; unfold inB; rw [HA.out]; rfl
        go_quiet (fail)
        go_wp2_with fail
        go_meet
        case rel => exact ⟨by rw [hWf], below_drewN (Below.refl _ _) _⟩
      | true =>
        obtain ⟨i, hi9, him⟩ := hin rfl
        exact absurd (show 0 ≤ K by omega) (by omega)
    case rest =>
      obtain ⟨rfl, hbx⟩ := hcut
      rename World => w10
      have hx10 := cell_later4 hbx hx9
      have hy10 := cell_later4 hbx hy9
      have hc10 := cell_later4 hbx hc9
      have hd10 := cell_later4 hbx hd9
      have hXc10 := hXc9.later hbx
      have hXd10 := hXd9.later hbx
      have hXp10 := hXp9.later hbx
      have hXq10 := hXq9.later hbx
      have hb10 := hb9.trans (hbx.mono hs9)
      have hs10 := hb10.size
      clear hbx hx9 hy9 hc9 hd9 hXc9 hXd9 hXp9 hXq9 hb9 hs9 y3 hG9
      have y3 := cell_of_row w10 _ 3 _ _ _ hy10
      go_upto_region 9 with fail
      go_cut [16] from 95 to 104 (fun c16 wz => c16 = .bool Ot ∧ wz = w10)
      case first =>
        cases A with
        | false =>
          have hOf : Ot = false := by rw [← HO.out]; unfold outB; rw [HA.out]; rfl
          go_wp2_with fail
          go_meet
          case rel => exact ⟨by rw [hOf], rfl⟩
        | true =>
          obtain ⟨i, hi9, him⟩ := hin rfl
          exact absurd (show 0 ≤ K by omega) (by omega)
      case rest =>
        obtain ⟨rfl, hwz⟩ := hcut
        have hwy := hwz.symm
        subst hwy
        have hawk := haw w10 hb10
        go_upto_region 10 with fail
        go_cut [134] from 105 to 133 (fun c134 wz => c134 = .bool false ∧ Below w10.heap.size w10 wz)
        case first =>
          go_wp2_with fail
          refine hawk.mono ?_
          rintro e wv ⟨rfl, hbv⟩
          cases Wt with
          | true =>
            obtain rfl : E1 = 0 := HE1.out
            cases Ot with
            | true =>
              obtain rfl : E2 = 0 := HE2.out
              go_wp2_with fail
              go_meet
              case rel => exact ⟨rfl, hbv⟩
            | false =>
              obtain rfl : E2 = 1 := HE2.out
              go_wp2_with fail
              go_meet
              case rel => exact ⟨rfl, hbv⟩
          | false =>
            obtain rfl : E1 = 1 := HE1.out
            cases Ot with
            | true =>
              obtain rfl : E2 = 0 := HE2.out
              go_wp2_with fail
              go_meet
              case rel => exact ⟨rfl, hbv⟩
            | false =>
              obtain rfl : E2 = 1 := HE2.out
              go_wp2_with fail
              go_meet
              case rel => exact ⟨rfl, hbv⟩
        case rest =>
        obtain ⟨rfl, hb1011⟩ := hcut
        rename World => w11
        have hx11 := cell_later4 hb1011 hx10
        have hc11 := cell_later4 hb1011 hc10
        have hy11 := cell_later4 hb1011 hy10
        have hd11 := cell_later4 hb1011 hd10
        have hXc11 := hXc10.later hb1011
        have hXd11 := hXd10.later hb1011
        have hXp11 := hXp10.later hb1011
        have hXq11 := hXq10.later hb1011
        have hb11 := hb10.trans (hb1011.mono hs10)
        have hs11 := hb11.size
        clear hb1011 hx10 hy10 hc10 hd10 hXc10 hXd10 hXp10 hXq10 hb10 hs10 y3 hawk
        go_wp2_with fail
        refine quiet_class (C := fun W => Below w11.heap.size w11 W) (by kernel_rfl) (by kernel_rfl) (below_drewN (Below.refl _ _) 1) ?_
        refine BigFrame.wpQuiet_want (by rfl) (fun Kq hKq => q_load 38 (.tmp 10) rfl b3 rfl 38 #[.int .u64 (seq : Int), .string prev, .int .u64 (tx : Int), .slice q1 m d1] (0, 0) _ (fun W hW => (hW.block _ (lt_of_row hc11)).trans hc11) Tryd.underlying38 rfl (by kernel_rfl) (hKq _ ?_))
        simp only [Act.put, List.setIfInBounds_toArray, List.set_cons_zero, List.set_cons_succ]
        refine BigFrame.wpQuiet_want (by rfl) (fun Kq hKq => q_call (v := .string Hh) (f := 20) (args := #[.agg #[.int .u64 (seq : Int), .string prev, .int .u64 (tx : Int), .slice q1 m d1]]) (fun W => ?_) (fun W hW => ?_) (hKq _ ?_))
        · go_simp
        · refine (kgc W (hb11.trans (hW.mono hs11)) q1 d1 (hXc11.later hW)).mono ?_
          rintro e w' ⟨rfl, hb'⟩
          exact ⟨rfl, hW.trans (hb'.mono hW.size)⟩
        simp only [Act.put, List.setIfInBounds_toArray, List.set_cons_zero, List.set_cons_succ]
        refine BigFrame.wpQuiet_want (by rfl) (fun Kq hKq => q_load 38 (.tmp 7) rfl b1 rfl 38 #[.int .u64 (seq : Int), .string prev, .int .u64 (tx : Int), .slice p m c] (0, 0) _ (fun W hW => (hW.block _ (lt_of_row hx11)).trans hx11) Tryd.underlying38 rfl (by kernel_rfl) (hKq _ ?_))
        simp only [Act.put, List.setIfInBounds_toArray, List.set_cons_zero, List.set_cons_succ]
        refine BigFrame.wpQuiet_want (by rfl) (fun Kq hKq => q_call (v := .string Hh) (f := 20) (args := #[.agg #[.int .u64 (seq : Int), .string prev, .int .u64 (tx : Int), .slice p m c]]) (fun W => ?_) (fun W hW => ?_) (hKq _ ?_))
        · go_simp
        · refine (kgx W (hb11.trans (hW.mono hs11)) p c (hXp11.later hW)).mono ?_
          rintro e w' ⟨rfl, hb'⟩
          exact ⟨rfl, hW.trans (hb'.mono hW.size)⟩
        simp only [Act.put, List.setIfInBounds_toArray, List.set_cons_zero, List.set_cons_succ]
        refine BigFrame.wpQuiet_want (by rfl) (fun Kq hKq => q_pure (v := .bool false) (fun W => ?_) (hKq _ ?_))
        · go_simp
        simp only [Act.put, List.setIfInBounds_toArray, List.set_cons_zero, List.set_cons_succ]
        go_big_quiet_step (fail)
        refine BigFrame.wpQuiet_want (by rfl) (fun Kq hKq => q_load 38 (.tmp 12) rfl b4 rfl 38 #[.int .u64 (seq : Int), .string prev, .int .u64 (tx : Int), .slice q2 m d2] (0, 0) _ (fun W hW => (hW.block _ (lt_of_row hd11)).trans hd11) Tryd.underlying38 rfl (by kernel_rfl) (hKq _ ?_))
        simp only [Act.put, List.setIfInBounds_toArray, List.set_cons_zero, List.set_cons_succ]
        refine BigFrame.wpQuiet_want (by rfl) (fun Kq hKq => q_call (v := .string Hh) (f := 20) (args := #[.agg #[.int .u64 (seq : Int), .string prev, .int .u64 (tx : Int), .slice q2 m d2]]) (fun W => ?_) (fun W hW => ?_) (hKq _ ?_))
        · go_simp
        · refine (kgd W (hb11.trans (hW.mono hs11)) q2 d2 (hXd11.later hW)).mono ?_
          rintro e w' ⟨rfl, hb'⟩
          exact ⟨rfl, hW.trans (hb'.mono hW.size)⟩
        simp only [Act.put, List.setIfInBounds_toArray, List.set_cons_zero, List.set_cons_succ]
        refine BigFrame.wpQuiet_want (by rfl) (fun Kq hKq => q_load 38 (.tmp 7) rfl b1 rfl 38 #[.int .u64 (seq : Int), .string prev, .int .u64 (tx : Int), .slice p m c] (0, 0) _ (fun W hW => (hW.block _ (lt_of_row hx11)).trans hx11) Tryd.underlying38 rfl (by kernel_rfl) (hKq _ ?_))
        simp only [Act.put, List.setIfInBounds_toArray, List.set_cons_zero, List.set_cons_succ]
        refine BigFrame.wpQuiet_want (by rfl) (fun Kq hKq => q_call (v := .string Hh) (f := 20) (args := #[.agg #[.int .u64 (seq : Int), .string prev, .int .u64 (tx : Int), .slice p m c]]) (fun W => ?_) (fun W hW => ?_) (hKq _ ?_))
        · go_simp
        · refine (kgx W (hb11.trans (hW.mono hs11)) p c (hXp11.later hW)).mono ?_
          rintro e w' ⟨rfl, hb'⟩
          exact ⟨rfl, hW.trans (hb'.mono hW.size)⟩
        simp only [Act.put, List.setIfInBounds_toArray, List.set_cons_zero, List.set_cons_succ]
        refine BigFrame.wpQuiet_want (by rfl) (fun Kq hKq => q_pure (v := .bool false) (fun W => ?_) (hKq _ ?_))
        · go_simp
        simp only [Act.put, List.setIfInBounds_toArray, List.set_cons_zero, List.set_cons_succ]
        refine BigFrame.wpQuiet_want (by rfl) (fun Kq hKq => q_pure (v := .bool false) (fun W => ?_) (hKq _ ?_))
        · go_simp
        simp only [Act.put, List.setIfInBounds_toArray, List.set_cons_zero, List.set_cons_succ]
        go_big_quiet_step (fail)
        refine BigFrame.wpQuiet_want (by rfl) (fun Kq hKq => q_pure (v := .pointer (some ⟨b3, 3, none⟩)) (fun W => ?_) (hKq _ ?_))
        · go_simp
        simp only [Act.put, List.setIfInBounds_toArray, List.set_cons_zero, List.set_cons_succ]
        refine BigFrame.wpQuiet_want (by rfl) (fun Kq hKq => q_at (v := .slice q1 m d1) (fun W hW => ?_) (hKq _ ?_))
        · have hcW : W.cell? ⟨b3, 3, none⟩ = some (.slice q1 m d1) := cell_of_row W _ 3 _ _ _ ((hW.block _ (lt_of_row hc11)).trans hc11)
          go_simp
        simp only [Act.put, List.setIfInBounds_toArray, List.set_cons_zero, List.set_cons_succ]
        refine BigFrame.wpQuiet_want (by rfl) (fun Kq hKq => q_pure (v := .int .i64 (m : Int)) (fun W => ?_) (hKq _ ?_))
        · go_simp
        simp only [Act.put, List.setIfInBounds_toArray, List.set_cons_zero, List.set_cons_succ]
        refine BigFrame.wpQuiet_want (by rfl) (fun Kq hKq => q_pure (v := .pointer (some ⟨b1, 3, none⟩)) (fun W => ?_) (hKq _ ?_))
        · go_simp
        simp only [Act.put, List.setIfInBounds_toArray, List.set_cons_zero, List.set_cons_succ]
        refine BigFrame.wpQuiet_want (by rfl) (fun Kq hKq => q_at (v := .slice p m c) (fun W hW => ?_) (hKq _ ?_))
        · have hcW : W.cell? ⟨b1, 3, none⟩ = some (.slice p m c) := cell_of_row W _ 3 _ _ _ ((hW.block _ (lt_of_row hx11)).trans hx11)
          go_simp
        simp only [Act.put, List.setIfInBounds_toArray, List.set_cons_zero, List.set_cons_succ]
        refine BigFrame.wpQuiet_want (by rfl) (fun Kq hKq => q_pure (v := .int .i64 (m : Int)) (fun W => ?_) (hKq _ ?_))
        · go_simp
        simp only [Act.put, List.setIfInBounds_toArray, List.set_cons_zero, List.set_cons_succ]
        refine BigFrame.wpQuiet_want (by rfl) (fun Kq hKq => q_pure (v := .bool false) (fun W => ?_) (hKq _ ?_))
        · go_simp
        simp only [Act.put, List.setIfInBounds_toArray, List.set_cons_zero, List.set_cons_succ]
        refine BigFrame.wpQuiet_want (by rfl) (fun Kq hKq => q_pure (v := .bool false) (fun W => ?_) (hKq _ ?_))
        · go_simp
        simp only [Act.put, List.setIfInBounds_toArray, List.set_cons_zero, List.set_cons_succ]
        go_big_quiet_step (fail)
        refine BigFrame.wpQuiet_want (by rfl) (fun Kq hKq => q_pure (v := .pointer (some ⟨b4, 3, none⟩)) (fun W => ?_) (hKq _ ?_))
        · go_simp
        simp only [Act.put, List.setIfInBounds_toArray, List.set_cons_zero, List.set_cons_succ]
        refine BigFrame.wpQuiet_want (by rfl) (fun Kq hKq => q_at (v := .slice q2 m d2) (fun W hW => ?_) (hKq _ ?_))
        · have hcW : W.cell? ⟨b4, 3, none⟩ = some (.slice q2 m d2) := cell_of_row W _ 3 _ _ _ ((hW.block _ (lt_of_row hd11)).trans hd11)
          go_simp
        simp only [Act.put, List.setIfInBounds_toArray, List.set_cons_zero, List.set_cons_succ]
        refine BigFrame.wpQuiet_want (by rfl) (fun Kq hKq => q_pure (v := .int .i64 (m : Int)) (fun W => ?_) (hKq _ ?_))
        · go_simp
        simp only [Act.put, List.setIfInBounds_toArray, List.set_cons_zero, List.set_cons_succ]
        refine BigFrame.wpQuiet_want (by rfl) (fun Kq hKq => q_pure (v := .pointer (some ⟨b1, 3, none⟩)) (fun W => ?_) (hKq _ ?_))
        · go_simp
        simp only [Act.put, List.setIfInBounds_toArray, List.set_cons_zero, List.set_cons_succ]
        refine BigFrame.wpQuiet_want (by rfl) (fun Kq hKq => q_at (v := .slice p m c) (fun W hW => ?_) (hKq _ ?_))
        · have hcW : W.cell? ⟨b1, 3, none⟩ = some (.slice p m c) := cell_of_row W _ 3 _ _ _ ((hW.block _ (lt_of_row hx11)).trans hx11)
          go_simp
        simp only [Act.put, List.setIfInBounds_toArray, List.set_cons_zero, List.set_cons_succ]
        refine BigFrame.wpQuiet_want (by rfl) (fun Kq hKq => q_pure (v := .int .i64 (m : Int)) (fun W => ?_) (hKq _ ?_))
        · go_simp
        simp only [Act.put, List.setIfInBounds_toArray, List.set_cons_zero, List.set_cons_succ]
        refine BigFrame.wpQuiet_want (by rfl) (fun Kq hKq => q_pure (v := .bool false) (fun W => ?_) (hKq _ ?_))
        · go_simp
        simp only [Act.put, List.setIfInBounds_toArray, List.set_cons_zero, List.set_cons_succ]
        refine BigFrame.wpQuiet_want (by rfl) (fun Kq hKq => q_pure (v := .bool false) (fun W => ?_) (hKq _ ?_))
        · go_simp
        simp only [Act.put, List.setIfInBounds_toArray, List.set_cons_zero, List.set_cons_succ]
        refine wpQuiet_nil ?_
        intro w12 hb1112
        have hx12 := cell_later4 hb1112 hx11
        have hy12 := cell_later4 hb1112 hy11
        have hc12 := cell_later4 hb1112 hc11
        have hd12 := cell_later4 hb1112 hd11
        have hXc12 := hXc11.later hb1112
        have hXd12 := hXd11.later hb1112
        have hXp12 := hXp11.later hb1112
        have hXq12 := hXq11.later hb1112
        have hb12 := hb11.trans (hb1112.mono hs11)
        have hs12 := hb12.size
        clear hb1112 hx11 hy11 hc11 hd11 hXc11 hXd11 hXp11 hXq11 hb11 hs11 kgx kgc kgd
        go_wp2_with fail
        go_loopw [17] (fun vi wr => ∃ i : Nat, i ≤ m ∧ vi = .int .i64 (i : Int) ∧ Below w12.heap.size w12 wr) (fun vi _ => m - (intOf vi).toNat)
        case atStart => exact ⟨0, Nat.zero_le _, rfl, Below.refl _ _⟩
        case round =>
          obtain ⟨i, hin2, rfl, hbr⟩ := hrel
          have hx := cell_later4 hbr hx12
          have hy := cell_later4 hbr hy12
          have hc := cell_later4 hbr hc12
          have hd := cell_later4 hbr hd12
          have hbz := hb12.trans (hbr.mono hs12)
          have hsz := hbr.size
          have z73 := cell_of_row wr _ 3 _ _ _ hx
          by_cases him : i < m
          · have him' : (i : Int) < (m : Int) := by omega
            have h0i : (0 : Int) ≤ (i : Int) := by omega
            obtain ⟨pb, po, rfl, hpb, hpa⟩ := (hXp12.later hbr).at' (by omega)
            obtain ⟨qb, qo, rfl, hqb, hqa⟩ := (hXq12.later hbr).at' (by omega)
            obtain ⟨cb, co, rfl, hcb, hca⟩ := (hXc12.later hbr).at' (by omega)
            obtain ⟨db, do', rfl, hdb, hda⟩ := (hXd12.later hbr).at' (by omega)
            have hpi := hpa i him
            have hqi := hqa i him
            have hci := hca i him
            have hdi := hda i him
            clear hpa hqa hca hda
            have hrf := fun W => ref_any (R i) W
            rw [show (R i).val = .agg #[.int .i64 (R i).op, .string (R i).t, .string (R i).f, .int .u64 ((R i).d : Int), .int .u64 ((R i).v : Int), .string (R i).h, .string (R i).b, .bool (R i).g] from rfl] at hrf
            go_wp2_with fail
            by_cases hiK : (i : Int) = K
            · exact absurd hiK (by omega)
            · have hiK' : ((i : Int) == K) = false := by simpa using hiK
              have hiK2 : ((i : Int) != K) = true := by simpa using hiK
              rw [HRc1.out i hiK] at hci
              rw [HRd1.out i hiK] at hdi
              refine quiet_class (C := fun W => Below wr.heap.size wr W) (by kernel_rfl) (by kernel_rfl) (below_drewN (Below.refl _ _) 1) ?_
              refine BigFrame.wpQuiet_want (by rfl) (fun Kq hKq => q_pure (v := .pointer (some ⟨b1, 3, none⟩)) (fun W => ?_) (hKq _ ?_))
              · go_simp
              simp only [Act.put, List.setIfInBounds_toArray, List.set_cons_zero, List.set_cons_succ]
              refine BigFrame.wpQuiet_want (by rfl) (fun Kq hKq => q_at (v := .slice (some ⟨pb, po, none⟩) m c) (fun W hW => ?_) (hKq _ ?_))
              · have hcW : W.cell? ⟨b1, 3, none⟩ = some (.slice (some ⟨pb, po, none⟩) m c) := cell_of_row W _ 3 _ _ _ ((hW.block _ (lt_of_row hx)).trans hx)
                go_simp
              simp only [Act.put, List.setIfInBounds_toArray, List.set_cons_zero, List.set_cons_succ]
              go_big_quiet_step (fail)
              refine BigFrame.wpQuiet_want (by rfl) (fun Kq hKq => q_pure (v := .pointer (some ⟨pb, po + i * 8, none⟩)) (fun W => ?_) (hKq _ ?_))
              · go_simp
              simp only [Act.put, List.setIfInBounds_toArray, List.set_cons_zero, List.set_cons_succ]
              refine BigFrame.wpQuiet_want (by rfl) (fun Kq hKq => q_at (v := .agg #[.int .i64 (R i).op, .string (R i).t, .string (R i).f, .int .u64 ((R i).d : Int), .int .u64 ((R i).v : Int), .string (R i).h, .string (R i).b, .bool (R i).g]) (fun W hW => ?_) (hKq _ ?_))
              · have hk := hpi.kept (hW.block pb hpb)
                have g0 := hk.c0
                have g1 := hk.c1
                have g2 := hk.c2
                have g3 := hk.c3
                have g4 := hk.c4
                have g5 := hk.c5
                have g6 := hk.c6
                have g7 := hk.c7
                go_simp
              simp only [Act.put, List.setIfInBounds_toArray, List.set_cons_zero, List.set_cons_succ]
              refine BigFrame.wpQuiet_want (by rfl) (fun Kq hKq => q_call (v := .agg #[.int .i64 (R i).op, .string (R i).t, .string (R i).f, .int .u64 ((R i).d : Int), .int .u64 ((R i).v : Int), .string (R i).h, .string (R i).b, .bool (R i).g]) (f := 13) (args := #[.agg #[.int .i64 (R i).op, .string (R i).t, .string (R i).f, .int .u64 ((R i).d : Int), .int .u64 ((R i).v : Int), .string (R i).h, .string (R i).b, .bool (R i).g]]) (fun W => ?_) (fun W hW => ?_) (hKq _ ?_))
              · go_simp
              · refine (hrf W).mono ?_
                rintro e w' ⟨rfl, hb'⟩
                exact ⟨rfl, hW.trans (hb'.mono hW.size)⟩
              simp only [Act.put, List.setIfInBounds_toArray, List.set_cons_zero, List.set_cons_succ]
              refine BigFrame.wpQuiet_want (by rfl) (fun Kq hKq => q_pure (v := .pointer (some ⟨b2, 3, none⟩)) (fun W => ?_) (hKq _ ?_))
              · go_simp
              simp only [Act.put, List.setIfInBounds_toArray, List.set_cons_zero, List.set_cons_succ]
              refine BigFrame.wpQuiet_want (by rfl) (fun Kq hKq => q_at (v := .slice (some ⟨qb, qo, none⟩) m d) (fun W hW => ?_) (hKq _ ?_))
              · have hcW : W.cell? ⟨b2, 3, none⟩ = some (.slice (some ⟨qb, qo, none⟩) m d) := cell_of_row W _ 3 _ _ _ ((hW.block _ (lt_of_row hy)).trans hy)
                go_simp
              simp only [Act.put, List.setIfInBounds_toArray, List.set_cons_zero, List.set_cons_succ]
              go_big_quiet_step (fail)
              refine BigFrame.wpQuiet_want (by rfl) (fun Kq hKq => q_pure (v := .pointer (some ⟨qb, qo + i * 8, none⟩)) (fun W => ?_) (hKq _ ?_))
              · go_simp
              simp only [Act.put, List.setIfInBounds_toArray, List.set_cons_zero, List.set_cons_succ]
              refine BigFrame.wpQuiet_want (by rfl) (fun Kq hKq => q_at (v := .agg #[.int .i64 (R i).op, .string (R i).t, .string (R i).f, .int .u64 ((R i).d : Int), .int .u64 ((R i).v : Int), .string (R i).h, .string (R i).b, .bool (R i).g]) (fun W hW => ?_) (hKq _ ?_))
              · have hk := hqi.kept (hW.block qb hqb)
                have g0 := hk.c0
                have g1 := hk.c1
                have g2 := hk.c2
                have g3 := hk.c3
                have g4 := hk.c4
                have g5 := hk.c5
                have g6 := hk.c6
                have g7 := hk.c7
                go_simp
              simp only [Act.put, List.setIfInBounds_toArray, List.set_cons_zero, List.set_cons_succ]
              refine BigFrame.wpQuiet_want (by rfl) (fun Kq hKq => q_pure (v := .bool false) (fun W => ?_) (hKq _ ?_))
              · go_simp
              simp only [Act.put, List.setIfInBounds_toArray, List.set_cons_zero, List.set_cons_succ]
              go_big_quiet_step (fail)
              go_big_quiet_step (fail)
              go_big_quiet_step (fail)
              refine BigFrame.wpQuiet_want (by rfl) (fun Kq hKq => q_pure (v := .bool true) (fun W => ?_) (hKq _ ?_))
              · go_simp
              simp only [Act.put, List.setIfInBounds_toArray, List.set_cons_zero, List.set_cons_succ]
              go_big_quiet_step (fail)
              refine BigFrame.wpQuiet_want (by rfl) (fun Kq hKq => q_pure (v := .pointer (some ⟨b3, 3, none⟩)) (fun W => ?_) (hKq _ ?_))
              · go_simp
              simp only [Act.put, List.setIfInBounds_toArray, List.set_cons_zero, List.set_cons_succ]
              refine BigFrame.wpQuiet_want (by rfl) (fun Kq hKq => q_at (v := .slice (some ⟨cb, co, none⟩) m d1) (fun W hW => ?_) (hKq _ ?_))
              · have hcW : W.cell? ⟨b3, 3, none⟩ = some (.slice (some ⟨cb, co, none⟩) m d1) := cell_of_row W _ 3 _ _ _ ((hW.block _ (lt_of_row hc)).trans hc)
                go_simp
              simp only [Act.put, List.setIfInBounds_toArray, List.set_cons_zero, List.set_cons_succ]
              go_big_quiet_step (fail)
              refine BigFrame.wpQuiet_want (by rfl) (fun Kq hKq => q_pure (v := .pointer (some ⟨cb, co + i * 8, none⟩)) (fun W => ?_) (hKq _ ?_))
              · go_simp
              simp only [Act.put, List.setIfInBounds_toArray, List.set_cons_zero, List.set_cons_succ]
              refine BigFrame.wpQuiet_want (by rfl) (fun Kq hKq => q_at (v := .agg #[.int .i64 (R i).op, .string (R i).t, .string (R i).f, .int .u64 ((R i).d : Int), .int .u64 ((R i).v : Int), .string (R i).h, .string (R i).b, .bool (R i).g]) (fun W hW => ?_) (hKq _ ?_))
              · have hk := hci.kept (hW.block cb hcb)
                have g0 := hk.c0
                have g1 := hk.c1
                have g2 := hk.c2
                have g3 := hk.c3
                have g4 := hk.c4
                have g5 := hk.c5
                have g6 := hk.c6
                have g7 := hk.c7
                go_simp
              simp only [Act.put, List.setIfInBounds_toArray, List.set_cons_zero, List.set_cons_succ]
              refine BigFrame.wpQuiet_want (by rfl) (fun Kq hKq => q_pure (v := .pointer (some ⟨b1, 3, none⟩)) (fun W => ?_) (hKq _ ?_))
              · go_simp
              simp only [Act.put, List.setIfInBounds_toArray, List.set_cons_zero, List.set_cons_succ]
              refine BigFrame.wpQuiet_want (by rfl) (fun Kq hKq => q_at (v := .slice (some ⟨pb, po, none⟩) m c) (fun W hW => ?_) (hKq _ ?_))
              · have hcW : W.cell? ⟨b1, 3, none⟩ = some (.slice (some ⟨pb, po, none⟩) m c) := cell_of_row W _ 3 _ _ _ ((hW.block _ (lt_of_row hx)).trans hx)
                go_simp
              simp only [Act.put, List.setIfInBounds_toArray, List.set_cons_zero, List.set_cons_succ]
              go_big_quiet_step (fail)
              refine BigFrame.wpQuiet_want (by rfl) (fun Kq hKq => q_pure (v := .pointer (some ⟨pb, po + i * 8, none⟩)) (fun W => ?_) (hKq _ ?_))
              · go_simp
              simp only [Act.put, List.setIfInBounds_toArray, List.set_cons_zero, List.set_cons_succ]
              refine BigFrame.wpQuiet_want (by rfl) (fun Kq hKq => q_at (v := .agg #[.int .i64 (R i).op, .string (R i).t, .string (R i).f, .int .u64 ((R i).d : Int), .int .u64 ((R i).v : Int), .string (R i).h, .string (R i).b, .bool (R i).g]) (fun W hW => ?_) (hKq _ ?_))
              · have hk := hpi.kept (hW.block pb hpb)
                have g0 := hk.c0
                have g1 := hk.c1
                have g2 := hk.c2
                have g3 := hk.c3
                have g4 := hk.c4
                have g5 := hk.c5
                have g6 := hk.c6
                have g7 := hk.c7
                go_simp
              simp only [Act.put, List.setIfInBounds_toArray, List.set_cons_zero, List.set_cons_succ]
              refine BigFrame.wpQuiet_want (by rfl) (fun Kq hKq => q_pure (v := .bool false) (fun W => ?_) (hKq _ ?_))
              · go_simp
              simp only [Act.put, List.setIfInBounds_toArray, List.set_cons_zero, List.set_cons_succ]
              go_big_quiet_step (fail)
              refine BigFrame.wpQuiet_want (by rfl) (fun Kq hKq => q_pure (v := .pointer (some ⟨b4, 3, none⟩)) (fun W => ?_) (hKq _ ?_))
              · go_simp
              simp only [Act.put, List.setIfInBounds_toArray, List.set_cons_zero, List.set_cons_succ]
              refine BigFrame.wpQuiet_want (by rfl) (fun Kq hKq => q_at (v := .slice (some ⟨db, do', none⟩) m d2) (fun W hW => ?_) (hKq _ ?_))
              · have hcW : W.cell? ⟨b4, 3, none⟩ = some (.slice (some ⟨db, do', none⟩) m d2) := cell_of_row W _ 3 _ _ _ ((hW.block _ (lt_of_row hd)).trans hd)
                go_simp
              simp only [Act.put, List.setIfInBounds_toArray, List.set_cons_zero, List.set_cons_succ]
              go_big_quiet_step (fail)
              refine BigFrame.wpQuiet_want (by rfl) (fun Kq hKq => q_pure (v := .pointer (some ⟨db, do' + i * 8, none⟩)) (fun W => ?_) (hKq _ ?_))
              · go_simp
              simp only [Act.put, List.setIfInBounds_toArray, List.set_cons_zero, List.set_cons_succ]
              refine BigFrame.wpQuiet_want (by rfl) (fun Kq hKq => q_at (v := .agg #[.int .i64 (R i).op, .string (R i).t, .string (R i).f, .int .u64 ((R i).d : Int), .int .u64 ((R i).v : Int), .string (R i).h, .string (R i).b, .bool (R i).g]) (fun W hW => ?_) (hKq _ ?_))
              · have hk := hdi.kept (hW.block db hdb)
                have g0 := hk.c0
                have g1 := hk.c1
                have g2 := hk.c2
                have g3 := hk.c3
                have g4 := hk.c4
                have g5 := hk.c5
                have g6 := hk.c6
                have g7 := hk.c7
                go_simp
              simp only [Act.put, List.setIfInBounds_toArray, List.set_cons_zero, List.set_cons_succ]
              refine BigFrame.wpQuiet_want (by rfl) (fun Kq hKq => q_pure (v := .pointer (some ⟨b1, 3, none⟩)) (fun W => ?_) (hKq _ ?_))
              · go_simp
              simp only [Act.put, List.setIfInBounds_toArray, List.set_cons_zero, List.set_cons_succ]
              refine BigFrame.wpQuiet_want (by rfl) (fun Kq hKq => q_at (v := .slice (some ⟨pb, po, none⟩) m c) (fun W hW => ?_) (hKq _ ?_))
              · have hcW : W.cell? ⟨b1, 3, none⟩ = some (.slice (some ⟨pb, po, none⟩) m c) := cell_of_row W _ 3 _ _ _ ((hW.block _ (lt_of_row hx)).trans hx)
                go_simp
              simp only [Act.put, List.setIfInBounds_toArray, List.set_cons_zero, List.set_cons_succ]
              go_big_quiet_step (fail)
              refine BigFrame.wpQuiet_want (by rfl) (fun Kq hKq => q_pure (v := .pointer (some ⟨pb, po + i * 8, none⟩)) (fun W => ?_) (hKq _ ?_))
              · go_simp
              simp only [Act.put, List.setIfInBounds_toArray, List.set_cons_zero, List.set_cons_succ]
              refine BigFrame.wpQuiet_want (by rfl) (fun Kq hKq => q_at (v := .agg #[.int .i64 (R i).op, .string (R i).t, .string (R i).f, .int .u64 ((R i).d : Int), .int .u64 ((R i).v : Int), .string (R i).h, .string (R i).b, .bool (R i).g]) (fun W hW => ?_) (hKq _ ?_))
              · have hk := hpi.kept (hW.block pb hpb)
                have g0 := hk.c0
                have g1 := hk.c1
                have g2 := hk.c2
                have g3 := hk.c3
                have g4 := hk.c4
                have g5 := hk.c5
                have g6 := hk.c6
                have g7 := hk.c7
                go_simp
              simp only [Act.put, List.setIfInBounds_toArray, List.set_cons_zero, List.set_cons_succ]
              refine BigFrame.wpQuiet_want (by rfl) (fun Kq hKq => q_pure (v := .bool false) (fun W => ?_) (hKq _ ?_))
              · go_simp
              simp only [Act.put, List.setIfInBounds_toArray, List.set_cons_zero, List.set_cons_succ]
              refine BigFrame.wpQuiet_want (by rfl) (fun Kq hKq => q_pure (v := .bool false) (fun W => ?_) (hKq _ ?_))
              · go_simp
              simp only [Act.put, List.setIfInBounds_toArray, List.set_cons_zero, List.set_cons_succ]
              refine BigFrame.wpQuiet_want (by rfl) (fun Kq hKq => q_pure (v := .bool false) (fun W => ?_) (hKq _ ?_))
              · go_simp
              simp only [Act.put, List.setIfInBounds_toArray, List.set_cons_zero, List.set_cons_succ]
              refine BigFrame.wpQuiet_want (by rfl) (fun Kq hKq => q_pure (v := .bool false) (fun W => ?_) (hKq _ ?_))
              · go_simp
              simp only [Act.put, List.setIfInBounds_toArray, List.set_cons_zero, List.set_cons_succ]
              refine wpQuiet_nil ?_
              intro wx hwx
              go_wp2
              go_roundw
              case rel => exact ⟨i + 1, by omega, by go_num, hbr.trans (hwx.mono hsz)⟩
              case measure => simp [intOf]; omega
          · obtain rfl : i = m := by omega
            have z33 := cell_of_row wr _ 3 _ _ _ hc
            have z43 := cell_of_row wr _ 3 _ _ _ hd
            cases Wt with
            | true =>
              obtain ⟨i1, hK1', hi1, _, _⟩ := HRc2.out (by trivial)
              exact absurd (show 0 ≤ K by omega) (by omega)
            | false =>
              cases Ot with
              | true =>
                obtain ⟨i2, hK2', hi2, _, _⟩ := HRd2.out (by trivial)
                exact absurd (show 0 ≤ K by omega) (by omega)
              | false =>
                go_wp2
                go_ret
                exact ⟨rfl, hbz⟩
end Go.Proofs.YtaocbkloafhmeaaDoor
