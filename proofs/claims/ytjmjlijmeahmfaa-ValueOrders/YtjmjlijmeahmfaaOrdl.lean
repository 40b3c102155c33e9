/- ValueOrders called: true, and nothing that was there is changed. -/
import Derived.Test.YtjmjlijmeahmfaaTri3
import Derived.Test.YtjmjlijmeahmfaaChkl
import Derived.Test.YtjmjlijmeahmfaaRtk
import Derived.Lib.SlicesS
namespace Go.Proofs.Ytjmjlijmeahmfaa
open Go.RowKit
def nth3 {α : Type} (a b c : α) (i : Nat) : α := match i with | 0 => a | 1 => b | _ => c
theorem three {p : Nat → Prop} (h0 : p 0) (h1 : p 1) (h2 : p 2) : ∀ i, i < 3 → p i := fun i hi => by
  match i, hi with
  | 0, _ => exact h0
  | 1, _ => exact h1
  | 2, _ => exact h2
set_option maxRecDepth 100000 in
set_option maxHeartbeats 8000000 in
theorem orders_any {B : Nat} {w : World} {x y z : Tr} {xx yx zx : Ad} (hX : Lies B w x xx) (hY : Lies B w y yx) (hZ : Lies B w z zx) (hB : B ≤ w.heap.size) :
    Calls Try.prog 6 #[x.val xx, y.val yx, z.val zx] w fun e w' => e = .returned (.bool true) ∧ Below w.heap.size w w' := by
  show Calls Try.prog 6 #[.agg #[.int .i64 x.k, .bool x.b, .int .i64 x.n, .string x.s, .slice xx.pa x.m xx.pc, .slice xx.na x.q xx.nc], .agg #[.int .i64 y.k, .bool y.b, .int .i64 y.n, .string y.s, .slice yx.pa y.m yx.pc, .slice yx.na y.q yx.nc], .agg #[.int .i64 z.k, .bool z.b, .int .i64 z.n, .string z.s, .slice zx.pa z.m zx.pc, .slice zx.na z.q zx.nc]] w _
  have HCX : Hid (∀ V : World, Below w.heap.size w V → Calls Try.prog 9 #[.agg #[.int .i64 x.k, .bool x.b, .int .i64 x.n, .string x.s, .slice xx.pa x.m xx.pc, .slice xx.na x.q xx.nc], .int .i64 8, .int .i64 32] V fun e w' => ∃ A, e = .returned ((cutT x 8 32).val A) ∧ LiesS (fun k => k < B ∨ (V.heap.size ≤ k ∧ k < w'.heap.size)) w' (cutT x 8 32) A ∧ Below V.heap.size V w') := fun V hb => cut_all x B V xx 8 32 (hX.later (hb.mono hB)) (Nat.le_trans hB hb.size) (by decide) (by decide)
  have HCY : Hid (∀ V : World, Below w.heap.size w V → Calls Try.prog 9 #[.agg #[.int .i64 y.k, .bool y.b, .int .i64 y.n, .string y.s, .slice yx.pa y.m yx.pc, .slice yx.na y.q yx.nc], .int .i64 8, .int .i64 32] V fun e w' => ∃ A, e = .returned ((cutT y 8 32).val A) ∧ LiesS (fun k => k < B ∨ (V.heap.size ≤ k ∧ k < w'.heap.size)) w' (cutT y 8 32) A ∧ Below V.heap.size V w') := fun V hb => cut_all y B V yx 8 32 (hY.later (hb.mono hB)) (Nat.le_trans hB hb.size) (by decide) (by decide)
  have HCZ : Hid (∀ V : World, Below w.heap.size w V → Calls Try.prog 9 #[.agg #[.int .i64 z.k, .bool z.b, .int .i64 z.n, .string z.s, .slice zx.pa z.m zx.pc, .slice zx.na z.q zx.nc], .int .i64 8, .int .i64 32] V fun e w' => ∃ A, e = .returned ((cutT z 8 32).val A) ∧ LiesS (fun k => k < B ∨ (V.heap.size ≤ k ∧ k < w'.heap.size)) w' (cutT z 8 32) A ∧ Below V.heap.size V w') := fun V hb => cut_all z B V zx 8 32 (hZ.later (hb.mono hB)) (Nat.le_trans hB hb.size) (by decide) (by decide)
  have HSLa : Hid (slim (cutT x 8 32) ∧ small (cutT x 8 32)) := ⟨slim_cut x 8 32 (by decide), small_cut x 8 32⟩
  have HSLb : Hid (slim (cutT y 8 32) ∧ small (cutT y 8 32)) := ⟨slim_cut y 8 32 (by decide), small_cut y 8 32⟩
  have HSLc : Hid (small (cutT z 8 32)) := small_cut z 8 32
  obtain ⟨a, ha⟩ : ∃ a, cutT x 8 32 = a := ⟨_, rfl⟩
  obtain ⟨b, hb⟩ : ∃ b, cutT y 8 32 = b := ⟨_, rfl⟩
  obtain ⟨c, hc⟩ : ∃ c, cutT z 8 32 = c := ⟨_, rfl⟩
  rw [ha] at HCX HSLa
  rw [hb] at HCY HSLb
  rw [hc] at HCZ HSLc
  clear hX hY hZ ha hb hc
  have b0 : Below w.heap.size w (((w.alloc (.cells #[.int .i64 x.k, .bool x.b, .int .i64 x.n, .string x.s, .slice xx.pa x.m xx.pc, .slice xx.na x.q xx.nc] 25)).alloc (.cells #[.int .i64 y.k, .bool y.b, .int .i64 y.n, .string y.s, .slice yx.pa y.m yx.pc, .slice yx.na y.q yx.nc] 25)).alloc (.cells #[.int .i64 z.k, .bool z.b, .int .i64 z.n, .string z.s, .slice zx.pa z.m zx.pc, .slice zx.na z.q zx.nc] 25)) := (((Below.refl _ w).alloc (Nat.le_refl _) _).alloc (by simp) _).alloc (by simp; omega) _
  obtain ⟨W, hW⟩ : ∃ W, ((w.alloc (.cells #[.int .i64 x.k, .bool x.b, .int .i64 x.n, .string x.s, .slice xx.pa x.m xx.pc, .slice xx.na x.q xx.nc] 25)).alloc (.cells #[.int .i64 y.k, .bool y.b, .int .i64 y.n, .string y.s, .slice yx.pa y.m yx.pc, .slice yx.na y.q yx.nc] 25)).alloc (.cells #[.int .i64 z.k, .bool z.b, .int .i64 z.n, .string z.s, .slice zx.pa z.m zx.pc, .slice zx.na z.q zx.nc] 25) = W := ⟨_, rfl⟩
  have hrw : Below w.heap.size w W ∧ W.heap[w.heap.size]? = some (.cells #[.int .i64 x.k, .bool x.b, .int .i64 x.n, .string x.s, .slice xx.pa x.m xx.pc, .slice xx.na x.q xx.nc] 25 (0, 0)) ∧ W.heap[w.heap.size + 1]? = some (.cells #[.int .i64 y.k, .bool y.b, .int .i64 y.n, .string y.s, .slice yx.pa y.m yx.pc, .slice yx.na y.q yx.nc] 25 (0, 0)) ∧ W.heap[w.heap.size + 1 + 1]? = some (.cells #[.int .i64 z.k, .bool z.b, .int .i64 z.n, .string z.s, .slice zx.pa z.m zx.pc, .slice zx.na z.q zx.nc] 25 (0, 0)) ∧ w.heap.size + 1 + 1 + 1 ≤ W.heap.size := by
    rw [← hW]; exact rows_call3 (Below.refl _ _)
  obtain ⟨B0, r0, r1, r2, hsW⟩ := hrw
  clear b0
  go_enter Try.func6, Try.ntmps6
  go_upto_region 1 with fail
  try rw [hW]
  clear hW
  refine tri_region (ra := nth3 #[.int .i64 x.k, .bool x.b, .int .i64 x.n, .string x.s, .slice xx.pa x.m xx.pc, .slice xx.na x.q xx.nc] #[.int .i64 y.k, .bool y.b, .int .i64 y.n, .string y.s, .slice yx.pa y.m yx.pc, .slice yx.na y.q yx.nc] #[.int .i64 z.k, .bool z.b, .int .i64 z.n, .string z.s, .slice zx.pa z.m zx.pc, .slice zx.na z.q zx.nc]) (zr := #[.int .i64 0, .bool false, .int .i64 0, .string ⟨#[]⟩, .slice none 0 0, .slice none 0 0]) (T := nth3 a b c) (B := B) (bx := fun i => w.heap.size + i)
    (by kernel_rfl) rfl (by kernel_rfl) (three ⟨_, rfl, rfl, rfl, rfl⟩ ⟨_, rfl, rfl, rfl, rfl⟩ ⟨_, rfl, rfl, rfl, rfl⟩) (three ⟨_, rfl, rfl, rfl, ?e0⟩ ⟨_, rfl, rfl, rfl, ?e1⟩ ⟨_, rfl, rfl, rfl, ?e2⟩) (three ⟨_, rfl, rfl, rfl, ?a0⟩ ⟨_, rfl, rfl, rfl, ?a1⟩ ⟨_, rfl, rfl, rfl, ?a2⟩) (three ⟨_, rfl, rfl, rfl, rfl⟩ ⟨_, rfl, rfl, rfl, rfl⟩ ⟨_, rfl, rfl, rfl, rfl⟩) rfl (by decide : (23 : Nat) ≤ 114) (three rfl rfl rfl) (three r0 r1 r2) (three (by kernel_rfl) (by kernel_rfl) (by kernel_rfl)) (by kernel_rfl) (by omega)
    (three (fun V hv => HCX.out V (B0.trans (hv.mono (by omega)))) (fun V hv => HCY.out V (B0.trans (hv.mono (by omega)))) (fun V hv => HCZ.out V (B0.trans (hv.mono (by omega))))) ?post
  case e0 => intro a1 V h; have h' : a1.eval (.tmp 17) = .agg #[.int .i64 x.k, .bool x.b, .int .i64 x.n, .string x.s, .slice xx.pa x.m xx.pc, .slice xx.na x.q xx.nc] := h; go_simp
  case e1 => intro a1 V h; have h' : a1.eval (.tmp 19) = .agg #[.int .i64 y.k, .bool y.b, .int .i64 y.n, .string y.s, .slice yx.pa y.m yx.pc, .slice yx.na y.q yx.nc] := h; go_simp
  case e2 => intro a1 V h; have h' : a1.eval (.tmp 21) = .agg #[.int .i64 z.k, .bool z.b, .int .i64 z.n, .string z.s, .slice zx.pa z.m zx.pc, .slice zx.na z.q zx.nc] := h; go_simp
  case a0 => intro a1 V; go_simp
  case a1 => intro a1 V; go_simp
  case a2 => intro a1 V; go_simp
  case post =>
    intro W1 zz AA hb1 hall
    obtain ⟨p0, hz0, hLa⟩ := hall 0 (by decide)
    obtain ⟨p1, hz1, hLb⟩ := hall 1 (by decide)
    obtain ⟨p2, hz2, hLc⟩ := hall 2 (by decide)
    clear hall HCX HCY HCZ
    obtain ⟨za, hza⟩ : ∃ za, zz 0 = za := ⟨_, rfl⟩
    obtain ⟨zb, hzb⟩ : ∃ zb, zz 1 = zb := ⟨_, rfl⟩
    obtain ⟨zc, hzc⟩ : ∃ zc, zz 2 = zc := ⟨_, rfl⟩
    obtain ⟨A, hA⟩ : ∃ A, AA 0 = A := ⟨_, rfl⟩
    obtain ⟨A2, hA2⟩ : ∃ A2, AA 1 = A2 := ⟨_, rfl⟩
    obtain ⟨A3, hA3⟩ : ∃ A3, AA 2 = A3 := ⟨_, rfl⟩
    rw [hza, hA] at p0
    rw [hzb, hA2] at p1
    rw [hzc, hA3] at p2
    rw [hA] at hLa
    rw [hA2] at hLb
    rw [hA3] at hLc
    rw [hza, hzb, hzc, hA, hA2, hA3]
    clear hza hzb hzc hA hA2 hA3
    replace p0 : W1.heap[za]? = some (.cells #[.int .i64 a.k, .bool a.b, .int .i64 a.n, .string a.s, .slice A.pa a.m A.pc, .slice A.na a.q A.nc] 25 (0, 0)) := p0
    replace p1 : W1.heap[zb]? = some (.cells #[.int .i64 b.k, .bool b.b, .int .i64 b.n, .string b.s, .slice A2.pa b.m A2.pc, .slice A2.na b.q A2.nc] 25 (0, 0)) := p1
    replace p2 : W1.heap[zc]? = some (.cells #[.int .i64 c.k, .bool c.b, .int .i64 c.n, .string c.s, .slice A3.pa c.m A3.pc, .slice A3.na c.q A3.nc] 25 (0, 0)) := p2
    replace hLa : Lies W1.heap.size W1 a A := hLa
    replace hLb : Lies W1.heap.size W1 b A2 := hLb
    replace hLc : Lies W1.heap.size W1 c A3 := hLc
    have B1 : Below w.heap.size w W1 := B0.trans (hb1.mono (by omega))
    clear hb1 B0 r0 r1 r2 hz0 hz1 hz2
    simp only [nth3, Tr.val, Act.put, List.setIfInBounds_toArray, List.set_cons_zero, List.set_cons_succ]
    have HP : Hid (W1.heap[za]? = some (.cells #[.int .i64 a.k, .bool a.b, .int .i64 a.n, .string a.s, .slice A.pa a.m A.pc, .slice A.na a.q A.nc] 25 (0, 0)) ∧ W1.heap[zb]? = some (.cells #[.int .i64 b.k, .bool b.b, .int .i64 b.n, .string b.s, .slice A2.pa b.m A2.pc, .slice A2.na b.q A2.nc] 25 (0, 0)) ∧ W1.heap[zc]? = some (.cells #[.int .i64 c.k, .bool c.b, .int .i64 c.n, .string c.s, .slice A3.pa c.m A3.pc, .slice A3.na c.q A3.nc] 25 (0, 0))) := ⟨p0, p1, p2⟩
    have HZ : Hid (za < W1.heap.size ∧ zb < W1.heap.size ∧ zc < W1.heap.size) := ⟨lt_of_row p0, lt_of_row p1, lt_of_row p2⟩
    have HL : Hid (Lies W1.heap.size W1 a A ∧ Lies W1.heap.size W1 b A2 ∧ Lies W1.heap.size W1 c A3) := ⟨hLa, hLb, hLc⟩
    have HB1 : Hid (Below w.heap.size w W1) := B1
    have HE : Hid (Below W1.heap.size W1 W1) := Below.refl _ _
    clear p0 p1 p2 hLa hLb hLc B1 hsW
    obtain ⟨ka, hka⟩ : ∃ k, checkT a = k := ⟨_, rfl⟩
    obtain ⟨kb, hkb⟩ : ∃ k, checkT b = k := ⟨_, rfl⟩
    obtain ⟨kc, hkc⟩ : ∃ k, checkT c = k := ⟨_, rfl⟩
    have HKa : Hid (∀ V, Below W1.heap.size W1 V → Calls Try.prog 11 #[.agg #[.int .i64 a.k, .bool a.b, .int .i64 a.n, .string a.s, .slice A.pa a.m A.pc, .slice A.na a.q A.nc]] V fun e w' => e = .returned (.int .i64 ka) ∧ Below V.heap.size V w') := fun V hv => by
      have := check_any (HL.out.1.later hv) hv.size HSLa.out.2; rw [hka] at this; exact this
    have HKb : Hid (∀ V, Below W1.heap.size W1 V → Calls Try.prog 11 #[.agg #[.int .i64 b.k, .bool b.b, .int .i64 b.n, .string b.s, .slice A2.pa b.m A2.pc, .slice A2.na b.q A2.nc]] V fun e w' => e = .returned (.int .i64 kb) ∧ Below V.heap.size V w') := fun V hv => by
      have := check_any (HL.out.2.1.later hv) hv.size HSLb.out.2; rw [hkb] at this; exact this
    have HKc : Hid (∀ V, Below W1.heap.size W1 V → Calls Try.prog 11 #[.agg #[.int .i64 c.k, .bool c.b, .int .i64 c.n, .string c.s, .slice A3.pa c.m A3.pc, .slice A3.na c.q A3.nc]] V fun e w' => e = .returned (.int .i64 kc) ∧ Below V.heap.size V w') := fun V hv => by
      have := check_any (HL.out.2.2.later hv) hv.size HSLc.out; rw [hkc] at this; exact this
    have HKK : Hid (checkT a = ka ∧ checkT b = kb ∧ checkT c = kc) := ⟨hka, hkb, hkc⟩
    clear hka hkb hkc
    have qu := (HE.out.block za HZ.out.1).trans HP.out.1
    have u0 := cell_of_row W1 _ 0 _ _ _ qu
    have u1 := cell_of_row W1 _ 1 _ _ _ qu
    have u2 := cell_of_row W1 _ 2 _ _ _ qu
    have u3 := cell_of_row W1 _ 3 _ _ _ qu
    have u4 := cell_of_row W1 _ 4 _ _ _ qu
    have u5 := cell_of_row W1 _ 5 _ _ _ qu
    clear qu
    have qv := (HE.out.block zb HZ.out.2.1).trans HP.out.2.1
    have v0 := cell_of_row W1 _ 0 _ _ _ qv
    have v1 := cell_of_row W1 _ 1 _ _ _ qv
    have v2 := cell_of_row W1 _ 2 _ _ _ qv
    have v3 := cell_of_row W1 _ 3 _ _ _ qv
    have v4 := cell_of_row W1 _ 4 _ _ _ qv
    have v5 := cell_of_row W1 _ 5 _ _ _ qv
    clear qv
    have qt := (HE.out.block zc HZ.out.2.2).trans HP.out.2.2
    have t0 := cell_of_row W1 _ 0 _ _ _ qt
    have t1 := cell_of_row W1 _ 1 _ _ _ qt
    have t2 := cell_of_row W1 _ 2 _ _ _ qt
    have t3 := cell_of_row W1 _ 3 _ _ _ qt
    have t4 := cell_of_row W1 _ 4 _ _ _ qt
    have t5 := cell_of_row W1 _ 5 _ _ _ qt
    clear qt
    go_wp2_with fail
    refine (HKa.out _ HE.out).mono ?_
    rintro e w2 ⟨rfl, hb2⟩
    have HEo := HE
    clear HE u0 u1 u2 u3 u4 u5 v0 v1 v2 v3 v4 v5 t0 t1 t2 t3 t4 t5
    have HE : Hid (Below W1.heap.size W1 w2) := HEo.out.trans (hb2.mono HEo.out.size)
    clear hb2 HEo
    have qu := (HE.out.block za HZ.out.1).trans HP.out.1
    have u0 := cell_of_row w2 _ 0 _ _ _ qu
    have u1 := cell_of_row w2 _ 1 _ _ _ qu
    have u2 := cell_of_row w2 _ 2 _ _ _ qu
    have u3 := cell_of_row w2 _ 3 _ _ _ qu
    have u4 := cell_of_row w2 _ 4 _ _ _ qu
    have u5 := cell_of_row w2 _ 5 _ _ _ qu
    clear qu
    have qv := (HE.out.block zb HZ.out.2.1).trans HP.out.2.1
    have v0 := cell_of_row w2 _ 0 _ _ _ qv
    have v1 := cell_of_row w2 _ 1 _ _ _ qv
    have v2 := cell_of_row w2 _ 2 _ _ _ qv
    have v3 := cell_of_row w2 _ 3 _ _ _ qv
    have v4 := cell_of_row w2 _ 4 _ _ _ qv
    have v5 := cell_of_row w2 _ 5 _ _ _ qv
    clear qv
    have qt := (HE.out.block zc HZ.out.2.2).trans HP.out.2.2
    have t0 := cell_of_row w2 _ 0 _ _ _ qt
    have t1 := cell_of_row w2 _ 1 _ _ _ qt
    have t2 := cell_of_row w2 _ 2 _ _ _ qt
    have t3 := cell_of_row w2 _ 3 _ _ _ qt
    have t4 := cell_of_row w2 _ 4 _ _ _ qt
    have t5 := cell_of_row w2 _ 5 _ _ _ qt
    clear qt
    by_cases ka0 : ka = 0
    · subst ka0
      go_wp2_with fail
      refine (HKb.out _ HE.out).mono ?_
      rintro e w3 ⟨rfl, hb3⟩
      have HEo := HE
      clear HE u0 u1 u2 u3 u4 u5 v0 v1 v2 v3 v4 v5 t0 t1 t2 t3 t4 t5
      have HE : Hid (Below W1.heap.size W1 w3) := HEo.out.trans (hb3.mono HEo.out.size)
      clear hb3 HEo
      have qu := (HE.out.block za HZ.out.1).trans HP.out.1
      have u0 := cell_of_row w3 _ 0 _ _ _ qu
      have u1 := cell_of_row w3 _ 1 _ _ _ qu
      have u2 := cell_of_row w3 _ 2 _ _ _ qu
      have u3 := cell_of_row w3 _ 3 _ _ _ qu
      have u4 := cell_of_row w3 _ 4 _ _ _ qu
      have u5 := cell_of_row w3 _ 5 _ _ _ qu
      clear qu
      have qv := (HE.out.block zb HZ.out.2.1).trans HP.out.2.1
      have v0 := cell_of_row w3 _ 0 _ _ _ qv
      have v1 := cell_of_row w3 _ 1 _ _ _ qv
      have v2 := cell_of_row w3 _ 2 _ _ _ qv
      have v3 := cell_of_row w3 _ 3 _ _ _ qv
      have v4 := cell_of_row w3 _ 4 _ _ _ qv
      have v5 := cell_of_row w3 _ 5 _ _ _ qv
      clear qv
      have qt := (HE.out.block zc HZ.out.2.2).trans HP.out.2.2
      have t0 := cell_of_row w3 _ 0 _ _ _ qt
      have t1 := cell_of_row w3 _ 1 _ _ _ qt
      have t2 := cell_of_row w3 _ 2 _ _ _ qt
      have t3 := cell_of_row w3 _ 3 _ _ _ qt
      have t4 := cell_of_row w3 _ 4 _ _ _ qt
      have t5 := cell_of_row w3 _ 5 _ _ _ qt
      clear qt
      by_cases kb0 : kb = 0
      · subst kb0
        go_wp2_with fail
        refine (HKc.out _ HE.out).mono ?_
        rintro e w4 ⟨rfl, hb4⟩
        have HEo := HE
        clear HE u0 u1 u2 u3 u4 u5 v0 v1 v2 v3 v4 v5 t0 t1 t2 t3 t4 t5
        have HE : Hid (Below W1.heap.size W1 w4) := HEo.out.trans (hb4.mono HEo.out.size)
        clear hb4 HEo
        have qu := (HE.out.block za HZ.out.1).trans HP.out.1
        have u0 := cell_of_row w4 _ 0 _ _ _ qu
        have u1 := cell_of_row w4 _ 1 _ _ _ qu
        have u2 := cell_of_row w4 _ 2 _ _ _ qu
        have u3 := cell_of_row w4 _ 3 _ _ _ qu
        have u4 := cell_of_row w4 _ 4 _ _ _ qu
        have u5 := cell_of_row w4 _ 5 _ _ _ qu
        clear qu
        have qv := (HE.out.block zb HZ.out.2.1).trans HP.out.2.1
        have v0 := cell_of_row w4 _ 0 _ _ _ qv
        have v1 := cell_of_row w4 _ 1 _ _ _ qv
        have v2 := cell_of_row w4 _ 2 _ _ _ qv
        have v3 := cell_of_row w4 _ 3 _ _ _ qv
        have v4 := cell_of_row w4 _ 4 _ _ _ qv
        have v5 := cell_of_row w4 _ 5 _ _ _ qv
        clear qv
        have qt := (HE.out.block zc HZ.out.2.2).trans HP.out.2.2
        have t0 := cell_of_row w4 _ 0 _ _ _ qt
        have t1 := cell_of_row w4 _ 1 _ _ _ qt
        have t2 := cell_of_row w4 _ 2 _ _ _ qt
        have t3 := cell_of_row w4 _ 3 _ _ _ qt
        have t4 := cell_of_row w4 _ 4 _ _ _ qt
        have t5 := cell_of_row w4 _ 5 _ _ _ qt
        clear qt
        by_cases kc0 : kc = 0
        · subst kc0
          obtain ⟨n, hn⟩ : ∃ n, cmpT a b = n := ⟨_, rfl⟩
          obtain ⟨m, hm⟩ : ∃ m, cmpT b c = m := ⟨_, rfl⟩
          obtain ⟨k, hk⟩ : ∃ k, cmpT a c = k := ⟨_, rfl⟩
          have HC1 : Hid (∀ V, Below W1.heap.size W1 V → Calls Try.prog 19 #[.agg #[.int .i64 a.k, .bool a.b, .int .i64 a.n, .string a.s, .slice A.pa a.m A.pc, .slice A.na a.q A.nc], .agg #[.int .i64 b.k, .bool b.b, .int .i64 b.n, .string b.s, .slice A2.pa b.m A2.pc, .slice A2.na b.q A2.nc]] V fun e w' => e = .returned (.int .i64 n) ∧ Below V.heap.size V w') := fun V hv => by
            have := cmp_all a b _ _ _ _ (HL.out.1.later hv) (HL.out.2.1.later hv) hv.size; rw [hn] at this; exact this
          have HC2 : Hid (∀ V, Below W1.heap.size W1 V → Calls Try.prog 19 #[.agg #[.int .i64 b.k, .bool b.b, .int .i64 b.n, .string b.s, .slice A2.pa b.m A2.pc, .slice A2.na b.q A2.nc], .agg #[.int .i64 c.k, .bool c.b, .int .i64 c.n, .string c.s, .slice A3.pa c.m A3.pc, .slice A3.na c.q A3.nc]] V fun e w' => e = .returned (.int .i64 m) ∧ Below V.heap.size V w') := fun V hv => by
            have := cmp_all b c _ _ _ _ (HL.out.2.1.later hv) (HL.out.2.2.later hv) hv.size; rw [hm] at this; exact this
          have HC3 : Hid (∀ V, Below W1.heap.size W1 V → Calls Try.prog 19 #[.agg #[.int .i64 a.k, .bool a.b, .int .i64 a.n, .string a.s, .slice A.pa a.m A.pc, .slice A.na a.q A.nc], .agg #[.int .i64 c.k, .bool c.b, .int .i64 c.n, .string c.s, .slice A3.pa c.m A3.pc, .slice A3.na c.q A3.nc]] V fun e w' => e = .returned (.int .i64 k) ∧ Below V.heap.size V w') := fun V hv => by
            have := cmp_all a c _ _ _ _ (HL.out.1.later hv) (HL.out.2.2.later hv) hv.size; rw [hk] at this; exact this
          have ra := Lies.real a HL.out.1
          have rb := Lies.real b HL.out.2.1
          have rc := Lies.real c HL.out.2.2
          have hanti := anti_cmpT a b ra rb
          rw [hn] at hanti
          have HC4 : Hid (∀ V, Below W1.heap.size W1 V → Calls Try.prog 19 #[.agg #[.int .i64 b.k, .bool b.b, .int .i64 b.n, .string b.s, .slice A2.pa b.m A2.pc, .slice A2.na b.q A2.nc], .agg #[.int .i64 a.k, .bool a.b, .int .i64 a.n, .string a.s, .slice A.pa a.m A.pc, .slice A.na a.q A.nc]] V fun e w' => e = .returned (.int .i64 (-n)) ∧ Below V.heap.size V w') := fun V hv => by
            have := cmp_all b a _ _ _ _ (HL.out.2.1.later hv) (HL.out.1.later hv) hv.size; rw [hanti] at this; exact this
          have sa := check_sound HKK.out.1
          have sb := check_sound HKK.out.2.1
          have sc := check_sound HKK.out.2.2
          have HTRI : Hid (tri n m k) := by
            have := tri_cmpT a b c 1 1 1 ra rb rc sa sb sc; rw [hn, hm, hk] at this; exact this
          have HR1 : Hid (∀ (V : World) (P Q : Ad), Lies V.heap.size V a P → Lies V.heap.size V b Q → Calls Try.prog 20 #[.agg #[.int .i64 a.k, .bool a.b, .int .i64 a.n, .string a.s, .slice P.pa a.m P.pc, .slice P.na a.q P.nc], .agg #[.int .i64 b.k, .bool b.b, .int .i64 b.n, .string b.s, .slice Q.pa b.m Q.pc, .slice Q.na b.q Q.nc]] V fun e w' => e = .returned (.bool (decide (n < 0))) ∧ Below V.heap.size V w') := fun V P Q h1 h2 => by
            have := (bef_all a b 1 1 sa sb).1 _ _ _ _ h1 h2 (Nat.le_refl _); rw [hn] at this; exact this
          have HR2 : Hid (∀ (V : World) (P Q : Ad), Lies V.heap.size V a P → Lies V.heap.size V b Q → Calls Try.prog 20 #[.agg #[.int .i64 b.k, .bool b.b, .int .i64 b.n, .string b.s, .slice Q.pa b.m Q.pc, .slice Q.na b.q Q.nc], .agg #[.int .i64 a.k, .bool a.b, .int .i64 a.n, .string a.s, .slice P.pa a.m P.pc, .slice P.na a.q P.nc]] V fun e w' => e = .returned (.bool (decide (-n < 0))) ∧ Below V.heap.size V w') := fun V P Q h1 h2 => by
            have := (bef_all a b 1 1 sa sb).2 _ _ _ _ h2 h1 (Nat.le_refl _); rw [hanti] at this; exact this
          have HFa : Hid (∀ V, Below W1.heap.size W1 V → Calls Try.prog 13 #[.agg #[.int .i64 a.k, .bool a.b, .int .i64 a.n, .string a.s, .slice A.pa a.m A.pc, .slice A.na a.q A.nc]] V fun e w' => ∃ P : Ad, e = .returned (.agg #[.int .i64 a.k, .bool a.b, .int .i64 a.n, .string a.s, .slice P.pa a.m P.pc, .slice P.na a.q P.nc]) ∧ Lies w'.heap.size w' a P ∧ Below V.heap.size V w') := fun V hv => refc HSLa.out.1 (HL.out.1.later hv) hv.size
          have HFb : Hid (∀ V, Below W1.heap.size W1 V → Calls Try.prog 13 #[.agg #[.int .i64 b.k, .bool b.b, .int .i64 b.n, .string b.s, .slice A2.pa b.m A2.pc, .slice A2.na b.q A2.nc]] V fun e w' => ∃ Q : Ad, e = .returned (.agg #[.int .i64 b.k, .bool b.b, .int .i64 b.n, .string b.s, .slice Q.pa b.m Q.pc, .slice Q.na b.q Q.nc]) ∧ Lies w'.heap.size w' b Q ∧ Below V.heap.size V w') := fun V hv => refc HSLb.out.1 (HL.out.2.1.later hv) hv.size
          have hz := zero_iff HL.out.1 HL.out.2.1 HKK.out.1 HKK.out.2.1
          rw [hn] at hz
          obtain ⟨es, hes⟩ : ∃ es, encT a = es := ⟨_, rfl⟩
          obtain ⟨et, het⟩ : ∃ et, encT b = et := ⟨_, rfl⟩
          rw [hes, het] at hz
          have HZE : Hid (n = 0 ↔ es = et) := hz
          have HEa : Hid (∀ V, Below W1.heap.size W1 V → Calls Try.prog 14 #[.agg #[.int .i64 a.k, .bool a.b, .int .i64 a.n, .string a.s, .slice A.pa a.m A.pc, .slice A.na a.q A.nc]] V fun e w' => e = .returned (.tuple #[.string es, .int .i64 0]) ∧ Below V.heap.size V w') := fun V hv => by
            have := encode_any (HL.out.1.later hv) hv.size HSLa.out.2; rw [hes, HKK.out.1] at this; exact this
          have HEb : Hid (∀ V, Below W1.heap.size W1 V → Calls Try.prog 14 #[.agg #[.int .i64 b.k, .bool b.b, .int .i64 b.n, .string b.s, .slice A2.pa b.m A2.pc, .slice A2.na b.q A2.nc]] V fun e w' => e = .returned (.tuple #[.string et, .int .i64 0]) ∧ Below V.heap.size V w') := fun V hv => by
            have := encode_any (HL.out.2.1.later hv) hv.size HSLb.out.2; rw [het, HKK.out.2.1] at this; exact this
          have HSA : Hid (∀ V, Below W1.heap.size W1 V → Calls Try.prog 17 #[.agg #[.int .i64 a.k, .bool a.b, .int .i64 a.n, .string a.s, .slice A.pa a.m A.pc, .slice A.na a.q A.nc], .agg #[.int .i64 b.k, .bool b.b, .int .i64 b.n, .string b.s, .slice A2.pa b.m A2.pc, .slice A2.na b.q A2.nc]] V fun e w' => e = .returned (.bool (n == 0)) ∧ Below V.heap.size V w') := fun V hv => by
            have := same_all a b _ _ _ _ (HL.out.1.later hv) (HL.out.2.1.later hv) hv.size; rw [hn] at this; exact this
          clear hn hm hk ra rb rc hanti sa sb sc hz hes het HKa HKb HKc HKK
          go_wp2_with fail
          go_region_held3 (fun W => W.cell? ⟨za, 0, none⟩ = some (.int .i64 a.k) ∧ W.cell? ⟨za, 1, none⟩ = some (.bool a.b) ∧ W.cell? ⟨za, 2, none⟩ = some (.int .i64 a.n) ∧ W.cell? ⟨za, 3, none⟩ = some (.string a.s) ∧ W.cell? ⟨za, 4, none⟩ = some (.slice A.pa a.m A.pc) ∧ W.cell? ⟨za, 5, none⟩ = some (.slice A.na a.q A.nc) ∧ W.cell? ⟨zb, 0, none⟩ = some (.int .i64 b.k) ∧ W.cell? ⟨zb, 1, none⟩ = some (.bool b.b) ∧ W.cell? ⟨zb, 2, none⟩ = some (.int .i64 b.n) ∧ W.cell? ⟨zb, 3, none⟩ = some (.string b.s) ∧ W.cell? ⟨zb, 4, none⟩ = some (.slice A2.pa b.m A2.pc) ∧ W.cell? ⟨zb, 5, none⟩ = some (.slice A2.na b.q A2.nc) ∧ W.cell? ⟨zc, 0, none⟩ = some (.int .i64 c.k) ∧ W.cell? ⟨zc, 1, none⟩ = some (.bool c.b) ∧ W.cell? ⟨zc, 2, none⟩ = some (.int .i64 c.n) ∧ W.cell? ⟨zc, 3, none⟩ = some (.string c.s) ∧ W.cell? ⟨zc, 4, none⟩ = some (.slice A3.pa c.m A3.pc) ∧ W.cell? ⟨zc, 5, none⟩ = some (.slice A3.na c.q A3.nc)) (exact ⟨u0, u1, u2, u3, u4, u5, v0, v1, v2, v3, v4, v5, t0, t1, t2, t3, t4, t5⟩) (first
            | (go_at_call_of 19 A
               go_at_call_of 19 A2
               refine (HC1.out _ (by first | exact HE.out | exact HE.out.drew)).mono ?_
               rintro e w5 ⟨rfl, hbx⟩
               have HEo := HE
               clear HE u0 u1 u2 u3 u4 u5 v0 v1 v2 v3 v4 v5 t0 t1 t2 t3 t4 t5
               have HE : Hid (Below W1.heap.size W1 w5) := by first | exact HEo.out.trans (hbx.mono HEo.out.size) | exact HEo.out.drew.trans (hbx.mono HEo.out.size)
               clear hbx HEo
               have qu := (HE.out.block za HZ.out.1).trans HP.out.1
               have u0 := cell_of_row w5 _ 0 _ _ _ qu
               have u1 := cell_of_row w5 _ 1 _ _ _ qu
               have u2 := cell_of_row w5 _ 2 _ _ _ qu
               have u3 := cell_of_row w5 _ 3 _ _ _ qu
               have u4 := cell_of_row w5 _ 4 _ _ _ qu
               have u5 := cell_of_row w5 _ 5 _ _ _ qu
               clear qu
               have qv := (HE.out.block zb HZ.out.2.1).trans HP.out.2.1
               have v0 := cell_of_row w5 _ 0 _ _ _ qv
               have v1 := cell_of_row w5 _ 1 _ _ _ qv
               have v2 := cell_of_row w5 _ 2 _ _ _ qv
               have v3 := cell_of_row w5 _ 3 _ _ _ qv
               have v4 := cell_of_row w5 _ 4 _ _ _ qv
               have v5 := cell_of_row w5 _ 5 _ _ _ qv
               clear qv
               have qt := (HE.out.block zc HZ.out.2.2).trans HP.out.2.2
               have t0 := cell_of_row w5 _ 0 _ _ _ qt
               have t1 := cell_of_row w5 _ 1 _ _ _ qt
               have t2 := cell_of_row w5 _ 2 _ _ _ qt
               have t3 := cell_of_row w5 _ 3 _ _ _ qt
               have t4 := cell_of_row w5 _ 4 _ _ _ qt
               have t5 := cell_of_row w5 _ 5 _ _ _ qt
               clear qt)
            | (go_at_call_of 19 A2
               go_at_call_of 19 A3
               refine (HC2.out _ (by first | exact HE.out | exact HE.out.drew)).mono ?_
               rintro e w6 ⟨rfl, hbx⟩
               have HEo := HE
               clear HE u0 u1 u2 u3 u4 u5 v0 v1 v2 v3 v4 v5 t0 t1 t2 t3 t4 t5
               have HE : Hid (Below W1.heap.size W1 w6) := by first | exact HEo.out.trans (hbx.mono HEo.out.size) | exact HEo.out.drew.trans (hbx.mono HEo.out.size)
               clear hbx HEo
               have qu := (HE.out.block za HZ.out.1).trans HP.out.1
               have u0 := cell_of_row w6 _ 0 _ _ _ qu
               have u1 := cell_of_row w6 _ 1 _ _ _ qu
               have u2 := cell_of_row w6 _ 2 _ _ _ qu
               have u3 := cell_of_row w6 _ 3 _ _ _ qu
               have u4 := cell_of_row w6 _ 4 _ _ _ qu
               have u5 := cell_of_row w6 _ 5 _ _ _ qu
               clear qu
               have qv := (HE.out.block zb HZ.out.2.1).trans HP.out.2.1
               have v0 := cell_of_row w6 _ 0 _ _ _ qv
               have v1 := cell_of_row w6 _ 1 _ _ _ qv
               have v2 := cell_of_row w6 _ 2 _ _ _ qv
               have v3 := cell_of_row w6 _ 3 _ _ _ qv
               have v4 := cell_of_row w6 _ 4 _ _ _ qv
               have v5 := cell_of_row w6 _ 5 _ _ _ qv
               clear qv
               have qt := (HE.out.block zc HZ.out.2.2).trans HP.out.2.2
               have t0 := cell_of_row w6 _ 0 _ _ _ qt
               have t1 := cell_of_row w6 _ 1 _ _ _ qt
               have t2 := cell_of_row w6 _ 2 _ _ _ qt
               have t3 := cell_of_row w6 _ 3 _ _ _ qt
               have t4 := cell_of_row w6 _ 4 _ _ _ qt
               have t5 := cell_of_row w6 _ 5 _ _ _ qt
               clear qt)
            | (go_at_call_of 19 A
               go_at_call_of 19 A3
               refine (HC3.out _ (by first | exact HE.out | exact HE.out.drew)).mono ?_
               rintro e w7 ⟨rfl, hbx⟩
               have HEo := HE
               clear HE u0 u1 u2 u3 u4 u5 v0 v1 v2 v3 v4 v5 t0 t1 t2 t3 t4 t5
               have HE : Hid (Below W1.heap.size W1 w7) := by first | exact HEo.out.trans (hbx.mono HEo.out.size) | exact HEo.out.drew.trans (hbx.mono HEo.out.size)
               clear hbx HEo
               have qu := (HE.out.block za HZ.out.1).trans HP.out.1
               have u0 := cell_of_row w7 _ 0 _ _ _ qu
               have u1 := cell_of_row w7 _ 1 _ _ _ qu
               have u2 := cell_of_row w7 _ 2 _ _ _ qu
               have u3 := cell_of_row w7 _ 3 _ _ _ qu
               have u4 := cell_of_row w7 _ 4 _ _ _ qu
               have u5 := cell_of_row w7 _ 5 _ _ _ qu
               clear qu
               have qv := (HE.out.block zb HZ.out.2.1).trans HP.out.2.1
               have v0 := cell_of_row w7 _ 0 _ _ _ qv
               have v1 := cell_of_row w7 _ 1 _ _ _ qv
               have v2 := cell_of_row w7 _ 2 _ _ _ qv
               have v3 := cell_of_row w7 _ 3 _ _ _ qv
               have v4 := cell_of_row w7 _ 4 _ _ _ qv
               have v5 := cell_of_row w7 _ 5 _ _ _ qv
               clear qv
               have qt := (HE.out.block zc HZ.out.2.2).trans HP.out.2.2
               have t0 := cell_of_row w7 _ 0 _ _ _ qt
               have t1 := cell_of_row w7 _ 1 _ _ _ qt
               have t2 := cell_of_row w7 _ 2 _ _ _ qt
               have t3 := cell_of_row w7 _ 3 _ _ _ qt
               have t4 := cell_of_row w7 _ 4 _ _ _ qt
               have t5 := cell_of_row w7 _ 5 _ _ _ qt
               clear qt))
          rcases Int.lt_trichotomy n 0 with hn0 | hn0 | hn0
          · skip
            have MK1 : Hid True := trivial
            have HS1 : Hid (∀ (V : World) (P Q : Ad), Lies V.heap.size V a P → Lies V.heap.size V b Q → Calls Try.prog 20 #[.agg #[.int .i64 a.k, .bool a.b, .int .i64 a.n, .string a.s, .slice P.pa a.m P.pc, .slice P.na a.q P.nc], .agg #[.int .i64 b.k, .bool b.b, .int .i64 b.n, .string b.s, .slice Q.pa b.m Q.pc, .slice Q.na b.q Q.nc]] V fun e w' => e = .returned (.bool true) ∧ Below V.heap.size V w') := fun V P Q h1 h2 => by
              have := HR1.out V P Q h1 h2; rw [show decide (n < 0) = true from decide_eq_true (by omega)] at this; exact this
            have HS2 : Hid (∀ (V : World) (P Q : Ad), Lies V.heap.size V a P → Lies V.heap.size V b Q → Calls Try.prog 20 #[.agg #[.int .i64 b.k, .bool b.b, .int .i64 b.n, .string b.s, .slice Q.pa b.m Q.pc, .slice Q.na b.q Q.nc], .agg #[.int .i64 a.k, .bool a.b, .int .i64 a.n, .string a.s, .slice P.pa a.m P.pc, .slice P.na a.q P.nc]] V fun e w' => e = .returned (.bool false) ∧ Below V.heap.size V w') := fun V P Q h1 h2 => by
              have := HR2.out V P Q h1 h2; rw [show decide (-n < 0) = false from decide_eq_false (by omega)] at this; exact this
            have HS3 : Hid (∀ V, Below W1.heap.size W1 V → Calls Try.prog 17 #[.agg #[.int .i64 a.k, .bool a.b, .int .i64 a.n, .string a.s, .slice A.pa a.m A.pc, .slice A.na a.q A.nc], .agg #[.int .i64 b.k, .bool b.b, .int .i64 b.n, .string b.s, .slice A2.pa b.m A2.pc, .slice A2.na b.q A2.nc]] V fun e w' => e = .returned (.bool false) ∧ Below V.heap.size V w') := fun V hv => by
              have := HSA.out V hv; rw [show (n == 0) = false from by simp; omega] at this; exact this
            clear HR1 HR2 HSA
            have hee : (es.toList == et.toList) = false := (Lib.bytes_beq_false_iff _ _).2 (fun h => by have := HZE.out.2 h; omega)
            have hn1 : (n == 0) = false := by simp; omega
            clear HZE
            go_wp2_with fail
            go_region_held3 (fun W => W.cell? ⟨za, 0, none⟩ = some (.int .i64 a.k) ∧ W.cell? ⟨za, 1, none⟩ = some (.bool a.b) ∧ W.cell? ⟨za, 2, none⟩ = some (.int .i64 a.n) ∧ W.cell? ⟨za, 3, none⟩ = some (.string a.s) ∧ W.cell? ⟨za, 4, none⟩ = some (.slice A.pa a.m A.pc) ∧ W.cell? ⟨za, 5, none⟩ = some (.slice A.na a.q A.nc) ∧ W.cell? ⟨zb, 0, none⟩ = some (.int .i64 b.k) ∧ W.cell? ⟨zb, 1, none⟩ = some (.bool b.b) ∧ W.cell? ⟨zb, 2, none⟩ = some (.int .i64 b.n) ∧ W.cell? ⟨zb, 3, none⟩ = some (.string b.s) ∧ W.cell? ⟨zb, 4, none⟩ = some (.slice A2.pa b.m A2.pc) ∧ W.cell? ⟨zb, 5, none⟩ = some (.slice A2.na b.q A2.nc) ∧ W.cell? ⟨zc, 0, none⟩ = some (.int .i64 c.k) ∧ W.cell? ⟨zc, 1, none⟩ = some (.bool c.b) ∧ W.cell? ⟨zc, 2, none⟩ = some (.int .i64 c.n) ∧ W.cell? ⟨zc, 3, none⟩ = some (.string c.s) ∧ W.cell? ⟨zc, 4, none⟩ = some (.slice A3.pa c.m A3.pc) ∧ W.cell? ⟨zc, 5, none⟩ = some (.slice A3.na c.q A3.nc)) (exact ⟨u0, u1, u2, u3, u4, u5, v0, v1, v2, v3, v4, v5, t0, t1, t2, t3, t4, t5⟩) (first
              | (go_at_call 10
                 refine (awake_any _).mono ?_
                 rintro e w8 ⟨rfl, hbx⟩
                 have HEo := HE
                 clear HE u0 u1 u2 u3 u4 u5 v0 v1 v2 v3 v4 v5 t0 t1 t2 t3 t4 t5
                 have HE : Hid (Below W1.heap.size W1 w8) := by first | exact HEo.out.trans (hbx.mono HEo.out.size) | exact HEo.out.drew.trans (hbx.mono HEo.out.size)
                 clear hbx HEo
                 have qu := (HE.out.block za HZ.out.1).trans HP.out.1
                 have u0 := cell_of_row w8 _ 0 _ _ _ qu
                 have u1 := cell_of_row w8 _ 1 _ _ _ qu
                 have u2 := cell_of_row w8 _ 2 _ _ _ qu
                 have u3 := cell_of_row w8 _ 3 _ _ _ qu
                 have u4 := cell_of_row w8 _ 4 _ _ _ qu
                 have u5 := cell_of_row w8 _ 5 _ _ _ qu
                 clear qu
                 have qv := (HE.out.block zb HZ.out.2.1).trans HP.out.2.1
                 have v0 := cell_of_row w8 _ 0 _ _ _ qv
                 have v1 := cell_of_row w8 _ 1 _ _ _ qv
                 have v2 := cell_of_row w8 _ 2 _ _ _ qv
                 have v3 := cell_of_row w8 _ 3 _ _ _ qv
                 have v4 := cell_of_row w8 _ 4 _ _ _ qv
                 have v5 := cell_of_row w8 _ 5 _ _ _ qv
                 clear qv
                 have qt := (HE.out.block zc HZ.out.2.2).trans HP.out.2.2
                 have t0 := cell_of_row w8 _ 0 _ _ _ qt
                 have t1 := cell_of_row w8 _ 1 _ _ _ qt
                 have t2 := cell_of_row w8 _ 2 _ _ _ qt
                 have t3 := cell_of_row w8 _ 3 _ _ _ qt
                 have t4 := cell_of_row w8 _ 4 _ _ _ qt
                 have t5 := cell_of_row w8 _ 5 _ _ _ qt
                 clear qt)
              | (go_at_call_of 13 A
                 refine (HFa.out _ (by first | exact HE.out | exact HE.out.drew)).mono ?_
                 rintro e w8 ⟨P, rfl, hLP, hbx⟩
                 have HEo := HE
                 clear HE u0 u1 u2 u3 u4 u5 v0 v1 v2 v3 v4 v5 t0 t1 t2 t3 t4 t5
                 have HE : Hid (Below W1.heap.size W1 w8) := by first | exact HEo.out.trans (hbx.mono HEo.out.size) | exact HEo.out.drew.trans (hbx.mono HEo.out.size)
                 (try (have HLQo := HLQ; clear HLQ; have HLQ : Hid (Lies w8.heap.size w8 b Q) := (HLQo.out.later hbx).up hbx.size; clear HLQo))
                 have HLP : Hid (Lies w8.heap.size w8 a P) := hLP
                 clear hLP
                 clear hbx HEo
                 have qu := (HE.out.block za HZ.out.1).trans HP.out.1
                 have u0 := cell_of_row w8 _ 0 _ _ _ qu
                 have u1 := cell_of_row w8 _ 1 _ _ _ qu
                 have u2 := cell_of_row w8 _ 2 _ _ _ qu
                 have u3 := cell_of_row w8 _ 3 _ _ _ qu
                 have u4 := cell_of_row w8 _ 4 _ _ _ qu
                 have u5 := cell_of_row w8 _ 5 _ _ _ qu
                 clear qu
                 have qv := (HE.out.block zb HZ.out.2.1).trans HP.out.2.1
                 have v0 := cell_of_row w8 _ 0 _ _ _ qv
                 have v1 := cell_of_row w8 _ 1 _ _ _ qv
                 have v2 := cell_of_row w8 _ 2 _ _ _ qv
                 have v3 := cell_of_row w8 _ 3 _ _ _ qv
                 have v4 := cell_of_row w8 _ 4 _ _ _ qv
                 have v5 := cell_of_row w8 _ 5 _ _ _ qv
                 clear qv
                 have qt := (HE.out.block zc HZ.out.2.2).trans HP.out.2.2
                 have t0 := cell_of_row w8 _ 0 _ _ _ qt
                 have t1 := cell_of_row w8 _ 1 _ _ _ qt
                 have t2 := cell_of_row w8 _ 2 _ _ _ qt
                 have t3 := cell_of_row w8 _ 3 _ _ _ qt
                 have t4 := cell_of_row w8 _ 4 _ _ _ qt
                 have t5 := cell_of_row w8 _ 5 _ _ _ qt
                 clear qt)
              | (go_at_call_of 13 A2
                 refine (HFb.out _ (by first | exact HE.out | exact HE.out.drew)).mono ?_
                 rintro e w8 ⟨Q, rfl, hLQ, hbx⟩
                 have HEo := HE
                 clear HE u0 u1 u2 u3 u4 u5 v0 v1 v2 v3 v4 v5 t0 t1 t2 t3 t4 t5
                 have HE : Hid (Below W1.heap.size W1 w8) := by first | exact HEo.out.trans (hbx.mono HEo.out.size) | exact HEo.out.drew.trans (hbx.mono HEo.out.size)
                 (try (have HLPo := HLP; clear HLP; have HLP : Hid (Lies w8.heap.size w8 a P) := (HLPo.out.later hbx).up hbx.size; clear HLPo))
                 have HLQ : Hid (Lies w8.heap.size w8 b Q) := hLQ
                 clear hLQ
                 clear hbx HEo
                 have qu := (HE.out.block za HZ.out.1).trans HP.out.1
                 have u0 := cell_of_row w8 _ 0 _ _ _ qu
                 have u1 := cell_of_row w8 _ 1 _ _ _ qu
                 have u2 := cell_of_row w8 _ 2 _ _ _ qu
                 have u3 := cell_of_row w8 _ 3 _ _ _ qu
                 have u4 := cell_of_row w8 _ 4 _ _ _ qu
                 have u5 := cell_of_row w8 _ 5 _ _ _ qu
                 clear qu
                 have qv := (HE.out.block zb HZ.out.2.1).trans HP.out.2.1
                 have v0 := cell_of_row w8 _ 0 _ _ _ qv
                 have v1 := cell_of_row w8 _ 1 _ _ _ qv
                 have v2 := cell_of_row w8 _ 2 _ _ _ qv
                 have v3 := cell_of_row w8 _ 3 _ _ _ qv
                 have v4 := cell_of_row w8 _ 4 _ _ _ qv
                 have v5 := cell_of_row w8 _ 5 _ _ _ qv
                 clear qv
                 have qt := (HE.out.block zc HZ.out.2.2).trans HP.out.2.2
                 have t0 := cell_of_row w8 _ 0 _ _ _ qt
                 have t1 := cell_of_row w8 _ 1 _ _ _ qt
                 have t2 := cell_of_row w8 _ 2 _ _ _ qt
                 have t3 := cell_of_row w8 _ 3 _ _ _ qt
                 have t4 := cell_of_row w8 _ 4 _ _ _ qt
                 have t5 := cell_of_row w8 _ 5 _ _ _ qt
                 clear qt)
              | (go_at_call 20
                 clear MK1
                 refine (HS1.out _ P Q HLP.out HLQ.out).mono ?_
                 rintro e w8 ⟨rfl, hbx⟩
                 have HEo := HE
                 clear HE u0 u1 u2 u3 u4 u5 v0 v1 v2 v3 v4 v5 t0 t1 t2 t3 t4 t5
                 have HE : Hid (Below W1.heap.size W1 w8) := by first | exact HEo.out.trans (hbx.mono HEo.out.size) | exact HEo.out.drew.trans (hbx.mono HEo.out.size)
                 clear HLP HLQ
                 clear hbx HEo
                 have qu := (HE.out.block za HZ.out.1).trans HP.out.1
                 have u0 := cell_of_row w8 _ 0 _ _ _ qu
                 have u1 := cell_of_row w8 _ 1 _ _ _ qu
                 have u2 := cell_of_row w8 _ 2 _ _ _ qu
                 have u3 := cell_of_row w8 _ 3 _ _ _ qu
                 have u4 := cell_of_row w8 _ 4 _ _ _ qu
                 have u5 := cell_of_row w8 _ 5 _ _ _ qu
                 clear qu
                 have qv := (HE.out.block zb HZ.out.2.1).trans HP.out.2.1
                 have v0 := cell_of_row w8 _ 0 _ _ _ qv
                 have v1 := cell_of_row w8 _ 1 _ _ _ qv
                 have v2 := cell_of_row w8 _ 2 _ _ _ qv
                 have v3 := cell_of_row w8 _ 3 _ _ _ qv
                 have v4 := cell_of_row w8 _ 4 _ _ _ qv
                 have v5 := cell_of_row w8 _ 5 _ _ _ qv
                 clear qv
                 have qt := (HE.out.block zc HZ.out.2.2).trans HP.out.2.2
                 have t0 := cell_of_row w8 _ 0 _ _ _ qt
                 have t1 := cell_of_row w8 _ 1 _ _ _ qt
                 have t2 := cell_of_row w8 _ 2 _ _ _ qt
                 have t3 := cell_of_row w8 _ 3 _ _ _ qt
                 have t4 := cell_of_row w8 _ 4 _ _ _ qt
                 have t5 := cell_of_row w8 _ 5 _ _ _ qt
                 clear qt)
              | (go_at_call 20
                 refine (HS2.out _ P Q HLP.out HLQ.out).mono ?_
                 rintro e w8 ⟨rfl, hbx⟩
                 have HEo := HE
                 clear HE u0 u1 u2 u3 u4 u5 v0 v1 v2 v3 v4 v5 t0 t1 t2 t3 t4 t5
                 have HE : Hid (Below W1.heap.size W1 w8) := by first | exact HEo.out.trans (hbx.mono HEo.out.size) | exact HEo.out.drew.trans (hbx.mono HEo.out.size)
                 clear HLP HLQ
                 clear hbx HEo
                 have qu := (HE.out.block za HZ.out.1).trans HP.out.1
                 have u0 := cell_of_row w8 _ 0 _ _ _ qu
                 have u1 := cell_of_row w8 _ 1 _ _ _ qu
                 have u2 := cell_of_row w8 _ 2 _ _ _ qu
                 have u3 := cell_of_row w8 _ 3 _ _ _ qu
                 have u4 := cell_of_row w8 _ 4 _ _ _ qu
                 have u5 := cell_of_row w8 _ 5 _ _ _ qu
                 clear qu
                 have qv := (HE.out.block zb HZ.out.2.1).trans HP.out.2.1
                 have v0 := cell_of_row w8 _ 0 _ _ _ qv
                 have v1 := cell_of_row w8 _ 1 _ _ _ qv
                 have v2 := cell_of_row w8 _ 2 _ _ _ qv
                 have v3 := cell_of_row w8 _ 3 _ _ _ qv
                 have v4 := cell_of_row w8 _ 4 _ _ _ qv
                 have v5 := cell_of_row w8 _ 5 _ _ _ qv
                 clear qv
                 have qt := (HE.out.block zc HZ.out.2.2).trans HP.out.2.2
                 have t0 := cell_of_row w8 _ 0 _ _ _ qt
                 have t1 := cell_of_row w8 _ 1 _ _ _ qt
                 have t2 := cell_of_row w8 _ 2 _ _ _ qt
                 have t3 := cell_of_row w8 _ 3 _ _ _ qt
                 have t4 := cell_of_row w8 _ 4 _ _ _ qt
                 have t5 := cell_of_row w8 _ 5 _ _ _ qt
                 clear qt))
            all_goals
              go_wp2_with fail
              refine (HEa.out _ HE.out).mono ?_
              rintro e x1 ⟨rfl, hbx⟩
              have HEo := HE
              clear HE u0 u1 u2 u3 u4 u5 v0 v1 v2 v3 v4 v5 t0 t1 t2 t3 t4 t5
              have HE : Hid (Below W1.heap.size W1 x1) := by first | exact HEo.out.trans (hbx.mono HEo.out.size) | exact HEo.out.drew.trans (hbx.mono HEo.out.size)
              clear hbx HEo
              have qu := (HE.out.block za HZ.out.1).trans HP.out.1
              have u0 := cell_of_row x1 _ 0 _ _ _ qu
              have u1 := cell_of_row x1 _ 1 _ _ _ qu
              have u2 := cell_of_row x1 _ 2 _ _ _ qu
              have u3 := cell_of_row x1 _ 3 _ _ _ qu
              have u4 := cell_of_row x1 _ 4 _ _ _ qu
              have u5 := cell_of_row x1 _ 5 _ _ _ qu
              clear qu
              have qv := (HE.out.block zb HZ.out.2.1).trans HP.out.2.1
              have v0 := cell_of_row x1 _ 0 _ _ _ qv
              have v1 := cell_of_row x1 _ 1 _ _ _ qv
              have v2 := cell_of_row x1 _ 2 _ _ _ qv
              have v3 := cell_of_row x1 _ 3 _ _ _ qv
              have v4 := cell_of_row x1 _ 4 _ _ _ qv
              have v5 := cell_of_row x1 _ 5 _ _ _ qv
              clear qv
              have qt := (HE.out.block zc HZ.out.2.2).trans HP.out.2.2
              have t0 := cell_of_row x1 _ 0 _ _ _ qt
              have t1 := cell_of_row x1 _ 1 _ _ _ qt
              have t2 := cell_of_row x1 _ 2 _ _ _ qt
              have t3 := cell_of_row x1 _ 3 _ _ _ qt
              have t4 := cell_of_row x1 _ 4 _ _ _ qt
              have t5 := cell_of_row x1 _ 5 _ _ _ qt
              clear qt
              go_wp2_with fail
              refine (HEb.out _ HE.out).mono ?_
              rintro e x2 ⟨rfl, hbx⟩
              have HEo := HE
              clear HE u0 u1 u2 u3 u4 u5 v0 v1 v2 v3 v4 v5 t0 t1 t2 t3 t4 t5
              have HE : Hid (Below W1.heap.size W1 x2) := by first | exact HEo.out.trans (hbx.mono HEo.out.size) | exact HEo.out.drew.trans (hbx.mono HEo.out.size)
              clear hbx HEo
              have qu := (HE.out.block za HZ.out.1).trans HP.out.1
              have u0 := cell_of_row x2 _ 0 _ _ _ qu
              have u1 := cell_of_row x2 _ 1 _ _ _ qu
              have u2 := cell_of_row x2 _ 2 _ _ _ qu
              have u3 := cell_of_row x2 _ 3 _ _ _ qu
              have u4 := cell_of_row x2 _ 4 _ _ _ qu
              have u5 := cell_of_row x2 _ 5 _ _ _ qu
              clear qu
              have qv := (HE.out.block zb HZ.out.2.1).trans HP.out.2.1
              have v0 := cell_of_row x2 _ 0 _ _ _ qv
              have v1 := cell_of_row x2 _ 1 _ _ _ qv
              have v2 := cell_of_row x2 _ 2 _ _ _ qv
              have v3 := cell_of_row x2 _ 3 _ _ _ qv
              have v4 := cell_of_row x2 _ 4 _ _ _ qv
              have v5 := cell_of_row x2 _ 5 _ _ _ qv
              clear qv
              have qt := (HE.out.block zc HZ.out.2.2).trans HP.out.2.2
              have t0 := cell_of_row x2 _ 0 _ _ _ qt
              have t1 := cell_of_row x2 _ 1 _ _ _ qt
              have t2 := cell_of_row x2 _ 2 _ _ _ qt
              have t3 := cell_of_row x2 _ 3 _ _ _ qt
              have t4 := cell_of_row x2 _ 4 _ _ _ qt
              have t5 := cell_of_row x2 _ 5 _ _ _ qt
              clear qt
              go_wp2_with fail
              refine (HC4.out _ HE.out).mono ?_
              rintro e x3 ⟨rfl, hbx⟩
              have HEo := HE
              clear HE u0 u1 u2 u3 u4 u5 v0 v1 v2 v3 v4 v5 t0 t1 t2 t3 t4 t5
              have HE : Hid (Below W1.heap.size W1 x3) := by first | exact HEo.out.trans (hbx.mono HEo.out.size) | exact HEo.out.drew.trans (hbx.mono HEo.out.size)
              clear hbx HEo
              have qu := (HE.out.block za HZ.out.1).trans HP.out.1
              have u0 := cell_of_row x3 _ 0 _ _ _ qu
              have u1 := cell_of_row x3 _ 1 _ _ _ qu
              have u2 := cell_of_row x3 _ 2 _ _ _ qu
              have u3 := cell_of_row x3 _ 3 _ _ _ qu
              have u4 := cell_of_row x3 _ 4 _ _ _ qu
              have u5 := cell_of_row x3 _ 5 _ _ _ qu
              clear qu
              have qv := (HE.out.block zb HZ.out.2.1).trans HP.out.2.1
              have v0 := cell_of_row x3 _ 0 _ _ _ qv
              have v1 := cell_of_row x3 _ 1 _ _ _ qv
              have v2 := cell_of_row x3 _ 2 _ _ _ qv
              have v3 := cell_of_row x3 _ 3 _ _ _ qv
              have v4 := cell_of_row x3 _ 4 _ _ _ qv
              have v5 := cell_of_row x3 _ 5 _ _ _ qv
              clear qv
              have qt := (HE.out.block zc HZ.out.2.2).trans HP.out.2.2
              have t0 := cell_of_row x3 _ 0 _ _ _ qt
              have t1 := cell_of_row x3 _ 1 _ _ _ qt
              have t2 := cell_of_row x3 _ 2 _ _ _ qt
              have t3 := cell_of_row x3 _ 3 _ _ _ qt
              have t4 := cell_of_row x3 _ 4 _ _ _ qt
              have t5 := cell_of_row x3 _ 5 _ _ _ qt
              clear qt
              by_cases hm0 : m ≤ 0
              · have hk0 : ¬ 0 < k := by
                  have h1 := HTRI.out (by omega) hm0
                  omega
                have hk1 : decide (0 < k) = false := decide_eq_false hk0
                have hk2 : k ≤ 0 := by omega
                go_wp2_with fail
                refine (HS3.out _ HE.out).mono ?_
                rintro e x4 ⟨rfl, hbx⟩
                have HEo := HE
                clear HE u0 u1 u2 u3 u4 u5 v0 v1 v2 v3 v4 v5 t0 t1 t2 t3 t4 t5
                have HE : Hid (Below W1.heap.size W1 x4) := by first | exact HEo.out.trans (hbx.mono HEo.out.size) | exact HEo.out.drew.trans (hbx.mono HEo.out.size)
                clear hbx HEo
                have qu := (HE.out.block za HZ.out.1).trans HP.out.1
                have u0 := cell_of_row x4 _ 0 _ _ _ qu
                have u1 := cell_of_row x4 _ 1 _ _ _ qu
                have u2 := cell_of_row x4 _ 2 _ _ _ qu
                have u3 := cell_of_row x4 _ 3 _ _ _ qu
                have u4 := cell_of_row x4 _ 4 _ _ _ qu
                have u5 := cell_of_row x4 _ 5 _ _ _ qu
                clear qu
                have qv := (HE.out.block zb HZ.out.2.1).trans HP.out.2.1
                have v0 := cell_of_row x4 _ 0 _ _ _ qv
                have v1 := cell_of_row x4 _ 1 _ _ _ qv
                have v2 := cell_of_row x4 _ 2 _ _ _ qv
                have v3 := cell_of_row x4 _ 3 _ _ _ qv
                have v4 := cell_of_row x4 _ 4 _ _ _ qv
                have v5 := cell_of_row x4 _ 5 _ _ _ qv
                clear qv
                have qt := (HE.out.block zc HZ.out.2.2).trans HP.out.2.2
                have t0 := cell_of_row x4 _ 0 _ _ _ qt
                have t1 := cell_of_row x4 _ 1 _ _ _ qt
                have t2 := cell_of_row x4 _ 2 _ _ _ qt
                have t3 := cell_of_row x4 _ 3 _ _ _ qt
                have t4 := cell_of_row x4 _ 4 _ _ _ qt
                have t5 := cell_of_row x4 _ 5 _ _ _ qt
                clear qt
                clear u0 u1 u2 u3 u4 u5 v0 v1 v2 v3 v4 v5 t0 t1 t2 t3 t4 t5
                have BF : Below w.heap.size w x4 := HB1.out.trans (HE.out.mono HB1.out.size)
                go_wp2
                all_goals
                  go_ret
                  exact ⟨rfl, BF⟩
              · have hmd : decide (m ≤ 0) = false := decide_eq_false hm0
                have hmp : 0 < m := by omega
                go_wp2_with fail
                refine (HS3.out _ HE.out).mono ?_
                rintro e x4 ⟨rfl, hbx⟩
                have HEo := HE
                clear HE u0 u1 u2 u3 u4 u5 v0 v1 v2 v3 v4 v5 t0 t1 t2 t3 t4 t5
                have HE : Hid (Below W1.heap.size W1 x4) := by first | exact HEo.out.trans (hbx.mono HEo.out.size) | exact HEo.out.drew.trans (hbx.mono HEo.out.size)
                clear hbx HEo
                have qu := (HE.out.block za HZ.out.1).trans HP.out.1
                have u0 := cell_of_row x4 _ 0 _ _ _ qu
                have u1 := cell_of_row x4 _ 1 _ _ _ qu
                have u2 := cell_of_row x4 _ 2 _ _ _ qu
                have u3 := cell_of_row x4 _ 3 _ _ _ qu
                have u4 := cell_of_row x4 _ 4 _ _ _ qu
                have u5 := cell_of_row x4 _ 5 _ _ _ qu
                clear qu
                have qv := (HE.out.block zb HZ.out.2.1).trans HP.out.2.1
                have v0 := cell_of_row x4 _ 0 _ _ _ qv
                have v1 := cell_of_row x4 _ 1 _ _ _ qv
                have v2 := cell_of_row x4 _ 2 _ _ _ qv
                have v3 := cell_of_row x4 _ 3 _ _ _ qv
                have v4 := cell_of_row x4 _ 4 _ _ _ qv
                have v5 := cell_of_row x4 _ 5 _ _ _ qv
                clear qv
                have qt := (HE.out.block zc HZ.out.2.2).trans HP.out.2.2
                have t0 := cell_of_row x4 _ 0 _ _ _ qt
                have t1 := cell_of_row x4 _ 1 _ _ _ qt
                have t2 := cell_of_row x4 _ 2 _ _ _ qt
                have t3 := cell_of_row x4 _ 3 _ _ _ qt
                have t4 := cell_of_row x4 _ 4 _ _ _ qt
                have t5 := cell_of_row x4 _ 5 _ _ _ qt
                clear qt
                clear u0 u1 u2 u3 u4 u5 v0 v1 v2 v3 v4 v5 t0 t1 t2 t3 t4 t5
                have BF : Below w.heap.size w x4 := HB1.out.trans (HE.out.mono HB1.out.size)
                go_wp2
                all_goals
                  go_ret
                  exact ⟨rfl, BF⟩
          · skip
            have MK1 : Hid True := trivial
            have HS1 : Hid (∀ (V : World) (P Q : Ad), Lies V.heap.size V a P → Lies V.heap.size V b Q → Calls Try.prog 20 #[.agg #[.int .i64 a.k, .bool a.b, .int .i64 a.n, .string a.s, .slice P.pa a.m P.pc, .slice P.na a.q P.nc], .agg #[.int .i64 b.k, .bool b.b, .int .i64 b.n, .string b.s, .slice Q.pa b.m Q.pc, .slice Q.na b.q Q.nc]] V fun e w' => e = .returned (.bool false) ∧ Below V.heap.size V w') := fun V P Q h1 h2 => by
              have := HR1.out V P Q h1 h2; rw [show decide (n < 0) = false from decide_eq_false (by omega)] at this; exact this
            have HS2 : Hid (∀ (V : World) (P Q : Ad), Lies V.heap.size V a P → Lies V.heap.size V b Q → Calls Try.prog 20 #[.agg #[.int .i64 b.k, .bool b.b, .int .i64 b.n, .string b.s, .slice Q.pa b.m Q.pc, .slice Q.na b.q Q.nc], .agg #[.int .i64 a.k, .bool a.b, .int .i64 a.n, .string a.s, .slice P.pa a.m P.pc, .slice P.na a.q P.nc]] V fun e w' => e = .returned (.bool false) ∧ Below V.heap.size V w') := fun V P Q h1 h2 => by
              have := HR2.out V P Q h1 h2; rw [show decide (-n < 0) = false from decide_eq_false (by omega)] at this; exact this
            have HS3 : Hid (∀ V, Below W1.heap.size W1 V → Calls Try.prog 17 #[.agg #[.int .i64 a.k, .bool a.b, .int .i64 a.n, .string a.s, .slice A.pa a.m A.pc, .slice A.na a.q A.nc], .agg #[.int .i64 b.k, .bool b.b, .int .i64 b.n, .string b.s, .slice A2.pa b.m A2.pc, .slice A2.na b.q A2.nc]] V fun e w' => e = .returned (.bool true) ∧ Below V.heap.size V w') := fun V hv => by
              have := HSA.out V hv; rw [show (n == 0) = true from by rw [hn0]; rfl] at this; exact this
            clear HR1 HR2 HSA
            have hee : es = et := HZE.out.1 hn0
            subst hee
            subst hn0
            clear HZE
            go_wp2_with fail
            go_region_held3 (fun W => W.cell? ⟨za, 0, none⟩ = some (.int .i64 a.k) ∧ W.cell? ⟨za, 1, none⟩ = some (.bool a.b) ∧ W.cell? ⟨za, 2, none⟩ = some (.int .i64 a.n) ∧ W.cell? ⟨za, 3, none⟩ = some (.string a.s) ∧ W.cell? ⟨za, 4, none⟩ = some (.slice A.pa a.m A.pc) ∧ W.cell? ⟨za, 5, none⟩ = some (.slice A.na a.q A.nc) ∧ W.cell? ⟨zb, 0, none⟩ = some (.int .i64 b.k) ∧ W.cell? ⟨zb, 1, none⟩ = some (.bool b.b) ∧ W.cell? ⟨zb, 2, none⟩ = some (.int .i64 b.n) ∧ W.cell? ⟨zb, 3, none⟩ = some (.string b.s) ∧ W.cell? ⟨zb, 4, none⟩ = some (.slice A2.pa b.m A2.pc) ∧ W.cell? ⟨zb, 5, none⟩ = some (.slice A2.na b.q A2.nc) ∧ W.cell? ⟨zc, 0, none⟩ = some (.int .i64 c.k) ∧ W.cell? ⟨zc, 1, none⟩ = some (.bool c.b) ∧ W.cell? ⟨zc, 2, none⟩ = some (.int .i64 c.n) ∧ W.cell? ⟨zc, 3, none⟩ = some (.string c.s) ∧ W.cell? ⟨zc, 4, none⟩ = some (.slice A3.pa c.m A3.pc) ∧ W.cell? ⟨zc, 5, none⟩ = some (.slice A3.na c.q A3.nc)) (exact ⟨u0, u1, u2, u3, u4, u5, v0, v1, v2, v3, v4, v5, t0, t1, t2, t3, t4, t5⟩) (first
              | (go_at_call 10
                 refine (awake_any _).mono ?_
                 rintro e w8 ⟨rfl, hbx⟩
                 have HEo := HE
                 clear HE u0 u1 u2 u3 u4 u5 v0 v1 v2 v3 v4 v5 t0 t1 t2 t3 t4 t5
                 have HE : Hid (Below W1.heap.size W1 w8) := by first | exact HEo.out.trans (hbx.mono HEo.out.size) | exact HEo.out.drew.trans (hbx.mono HEo.out.size)
                 clear hbx HEo
                 have qu := (HE.out.block za HZ.out.1).trans HP.out.1
                 have u0 := cell_of_row w8 _ 0 _ _ _ qu
                 have u1 := cell_of_row w8 _ 1 _ _ _ qu
                 have u2 := cell_of_row w8 _ 2 _ _ _ qu
                 have u3 := cell_of_row w8 _ 3 _ _ _ qu
                 have u4 := cell_of_row w8 _ 4 _ _ _ qu
                 have u5 := cell_of_row w8 _ 5 _ _ _ qu
                 clear qu
                 have qv := (HE.out.block zb HZ.out.2.1).trans HP.out.2.1
                 have v0 := cell_of_row w8 _ 0 _ _ _ qv
                 have v1 := cell_of_row w8 _ 1 _ _ _ qv
                 have v2 := cell_of_row w8 _ 2 _ _ _ qv
                 have v3 := cell_of_row w8 _ 3 _ _ _ qv
                 have v4 := cell_of_row w8 _ 4 _ _ _ qv
                 have v5 := cell_of_row w8 _ 5 _ _ _ qv
                 clear qv
                 have qt := (HE.out.block zc HZ.out.2.2).trans HP.out.2.2
                 have t0 := cell_of_row w8 _ 0 _ _ _ qt
                 have t1 := cell_of_row w8 _ 1 _ _ _ qt
                 have t2 := cell_of_row w8 _ 2 _ _ _ qt
                 have t3 := cell_of_row w8 _ 3 _ _ _ qt
                 have t4 := cell_of_row w8 _ 4 _ _ _ qt
                 have t5 := cell_of_row w8 _ 5 _ _ _ qt
                 clear qt)
              | (go_at_call_of 13 A
                 refine (HFa.out _ (by first | exact HE.out | exact HE.out.drew)).mono ?_
                 rintro e w8 ⟨P, rfl, hLP, hbx⟩
                 have HEo := HE
                 clear HE u0 u1 u2 u3 u4 u5 v0 v1 v2 v3 v4 v5 t0 t1 t2 t3 t4 t5
                 have HE : Hid (Below W1.heap.size W1 w8) := by first | exact HEo.out.trans (hbx.mono HEo.out.size) | exact HEo.out.drew.trans (hbx.mono HEo.out.size)
                 (try (have HLQo := HLQ; clear HLQ; have HLQ : Hid (Lies w8.heap.size w8 b Q) := (HLQo.out.later hbx).up hbx.size; clear HLQo))
                 have HLP : Hid (Lies w8.heap.size w8 a P) := hLP
                 clear hLP
                 clear hbx HEo
                 have qu := (HE.out.block za HZ.out.1).trans HP.out.1
                 have u0 := cell_of_row w8 _ 0 _ _ _ qu
                 have u1 := cell_of_row w8 _ 1 _ _ _ qu
                 have u2 := cell_of_row w8 _ 2 _ _ _ qu
                 have u3 := cell_of_row w8 _ 3 _ _ _ qu
                 have u4 := cell_of_row w8 _ 4 _ _ _ qu
                 have u5 := cell_of_row w8 _ 5 _ _ _ qu
                 clear qu
                 have qv := (HE.out.block zb HZ.out.2.1).trans HP.out.2.1
                 have v0 := cell_of_row w8 _ 0 _ _ _ qv
                 have v1 := cell_of_row w8 _ 1 _ _ _ qv
                 have v2 := cell_of_row w8 _ 2 _ _ _ qv
                 have v3 := cell_of_row w8 _ 3 _ _ _ qv
                 have v4 := cell_of_row w8 _ 4 _ _ _ qv
                 have v5 := cell_of_row w8 _ 5 _ _ _ qv
                 clear qv
                 have qt := (HE.out.block zc HZ.out.2.2).trans HP.out.2.2
                 have t0 := cell_of_row w8 _ 0 _ _ _ qt
                 have t1 := cell_of_row w8 _ 1 _ _ _ qt
                 have t2 := cell_of_row w8 _ 2 _ _ _ qt
                 have t3 := cell_of_row w8 _ 3 _ _ _ qt
                 have t4 := cell_of_row w8 _ 4 _ _ _ qt
                 have t5 := cell_of_row w8 _ 5 _ _ _ qt
                 clear qt)
              | (go_at_call_of 13 A2
                 refine (HFb.out _ (by first | exact HE.out | exact HE.out.drew)).mono ?_
                 rintro e w8 ⟨Q, rfl, hLQ, hbx⟩
                 have HEo := HE
                 clear HE u0 u1 u2 u3 u4 u5 v0 v1 v2 v3 v4 v5 t0 t1 t2 t3 t4 t5
                 have HE : Hid (Below W1.heap.size W1 w8) := by first | exact HEo.out.trans (hbx.mono HEo.out.size) | exact HEo.out.drew.trans (hbx.mono HEo.out.size)
                 (try (have HLPo := HLP; clear HLP; have HLP : Hid (Lies w8.heap.size w8 a P) := (HLPo.out.later hbx).up hbx.size; clear HLPo))
                 have HLQ : Hid (Lies w8.heap.size w8 b Q) := hLQ
                 clear hLQ
                 clear hbx HEo
                 have qu := (HE.out.block za HZ.out.1).trans HP.out.1
                 have u0 := cell_of_row w8 _ 0 _ _ _ qu
                 have u1 := cell_of_row w8 _ 1 _ _ _ qu
                 have u2 := cell_of_row w8 _ 2 _ _ _ qu
                 have u3 := cell_of_row w8 _ 3 _ _ _ qu
                 have u4 := cell_of_row w8 _ 4 _ _ _ qu
                 have u5 := cell_of_row w8 _ 5 _ _ _ qu
                 clear qu
                 have qv := (HE.out.block zb HZ.out.2.1).trans HP.out.2.1
                 have v0 := cell_of_row w8 _ 0 _ _ _ qv
                 have v1 := cell_of_row w8 _ 1 _ _ _ qv
                 have v2 := cell_of_row w8 _ 2 _ _ _ qv
                 have v3 := cell_of_row w8 _ 3 _ _ _ qv
                 have v4 := cell_of_row w8 _ 4 _ _ _ qv
                 have v5 := cell_of_row w8 _ 5 _ _ _ qv
                 clear qv
                 have qt := (HE.out.block zc HZ.out.2.2).trans HP.out.2.2
                 have t0 := cell_of_row w8 _ 0 _ _ _ qt
                 have t1 := cell_of_row w8 _ 1 _ _ _ qt
                 have t2 := cell_of_row w8 _ 2 _ _ _ qt
                 have t3 := cell_of_row w8 _ 3 _ _ _ qt
                 have t4 := cell_of_row w8 _ 4 _ _ _ qt
                 have t5 := cell_of_row w8 _ 5 _ _ _ qt
                 clear qt)
              | (go_at_call 20
                 clear MK1
                 refine (HS1.out _ P Q HLP.out HLQ.out).mono ?_
                 rintro e w8 ⟨rfl, hbx⟩
                 have HEo := HE
                 clear HE u0 u1 u2 u3 u4 u5 v0 v1 v2 v3 v4 v5 t0 t1 t2 t3 t4 t5
                 have HE : Hid (Below W1.heap.size W1 w8) := by first | exact HEo.out.trans (hbx.mono HEo.out.size) | exact HEo.out.drew.trans (hbx.mono HEo.out.size)
                 clear HLP HLQ
                 clear hbx HEo
                 have qu := (HE.out.block za HZ.out.1).trans HP.out.1
                 have u0 := cell_of_row w8 _ 0 _ _ _ qu
                 have u1 := cell_of_row w8 _ 1 _ _ _ qu
                 have u2 := cell_of_row w8 _ 2 _ _ _ qu
                 have u3 := cell_of_row w8 _ 3 _ _ _ qu
                 have u4 := cell_of_row w8 _ 4 _ _ _ qu
                 have u5 := cell_of_row w8 _ 5 _ _ _ qu
                 clear qu
                 have qv := (HE.out.block zb HZ.out.2.1).trans HP.out.2.1
                 have v0 := cell_of_row w8 _ 0 _ _ _ qv
                 have v1 := cell_of_row w8 _ 1 _ _ _ qv
                 have v2 := cell_of_row w8 _ 2 _ _ _ qv
                 have v3 := cell_of_row w8 _ 3 _ _ _ qv
                 have v4 := cell_of_row w8 _ 4 _ _ _ qv
                 have v5 := cell_of_row w8 _ 5 _ _ _ qv
                 clear qv
                 have qt := (HE.out.block zc HZ.out.2.2).trans HP.out.2.2
                 have t0 := cell_of_row w8 _ 0 _ _ _ qt
                 have t1 := cell_of_row w8 _ 1 _ _ _ qt
                 have t2 := cell_of_row w8 _ 2 _ _ _ qt
                 have t3 := cell_of_row w8 _ 3 _ _ _ qt
                 have t4 := cell_of_row w8 _ 4 _ _ _ qt
                 have t5 := cell_of_row w8 _ 5 _ _ _ qt
                 clear qt)
              | (go_at_call 20
                 refine (HS2.out _ P Q HLP.out HLQ.out).mono ?_
                 rintro e w8 ⟨rfl, hbx⟩
                 have HEo := HE
                 clear HE u0 u1 u2 u3 u4 u5 v0 v1 v2 v3 v4 v5 t0 t1 t2 t3 t4 t5
                 have HE : Hid (Below W1.heap.size W1 w8) := by first | exact HEo.out.trans (hbx.mono HEo.out.size) | exact HEo.out.drew.trans (hbx.mono HEo.out.size)
                 clear HLP HLQ
                 clear hbx HEo
                 have qu := (HE.out.block za HZ.out.1).trans HP.out.1
                 have u0 := cell_of_row w8 _ 0 _ _ _ qu
                 have u1 := cell_of_row w8 _ 1 _ _ _ qu
                 have u2 := cell_of_row w8 _ 2 _ _ _ qu
                 have u3 := cell_of_row w8 _ 3 _ _ _ qu
                 have u4 := cell_of_row w8 _ 4 _ _ _ qu
                 have u5 := cell_of_row w8 _ 5 _ _ _ qu
                 clear qu
                 have qv := (HE.out.block zb HZ.out.2.1).trans HP.out.2.1
                 have v0 := cell_of_row w8 _ 0 _ _ _ qv
                 have v1 := cell_of_row w8 _ 1 _ _ _ qv
                 have v2 := cell_of_row w8 _ 2 _ _ _ qv
                 have v3 := cell_of_row w8 _ 3 _ _ _ qv
                 have v4 := cell_of_row w8 _ 4 _ _ _ qv
                 have v5 := cell_of_row w8 _ 5 _ _ _ qv
                 clear qv
                 have qt := (HE.out.block zc HZ.out.2.2).trans HP.out.2.2
                 have t0 := cell_of_row w8 _ 0 _ _ _ qt
                 have t1 := cell_of_row w8 _ 1 _ _ _ qt
                 have t2 := cell_of_row w8 _ 2 _ _ _ qt
                 have t3 := cell_of_row w8 _ 3 _ _ _ qt
                 have t4 := cell_of_row w8 _ 4 _ _ _ qt
                 have t5 := cell_of_row w8 _ 5 _ _ _ qt
                 clear qt))
            all_goals
              go_wp2_with fail
              refine (HEa.out _ HE.out).mono ?_
              rintro e x1 ⟨rfl, hbx⟩
              have HEo := HE
              clear HE u0 u1 u2 u3 u4 u5 v0 v1 v2 v3 v4 v5 t0 t1 t2 t3 t4 t5
              have HE : Hid (Below W1.heap.size W1 x1) := by first | exact HEo.out.trans (hbx.mono HEo.out.size) | exact HEo.out.drew.trans (hbx.mono HEo.out.size)
              clear hbx HEo
              have qu := (HE.out.block za HZ.out.1).trans HP.out.1
              have u0 := cell_of_row x1 _ 0 _ _ _ qu
              have u1 := cell_of_row x1 _ 1 _ _ _ qu
              have u2 := cell_of_row x1 _ 2 _ _ _ qu
              have u3 := cell_of_row x1 _ 3 _ _ _ qu
              have u4 := cell_of_row x1 _ 4 _ _ _ qu
              have u5 := cell_of_row x1 _ 5 _ _ _ qu
              clear qu
              have qv := (HE.out.block zb HZ.out.2.1).trans HP.out.2.1
              have v0 := cell_of_row x1 _ 0 _ _ _ qv
              have v1 := cell_of_row x1 _ 1 _ _ _ qv
              have v2 := cell_of_row x1 _ 2 _ _ _ qv
              have v3 := cell_of_row x1 _ 3 _ _ _ qv
              have v4 := cell_of_row x1 _ 4 _ _ _ qv
              have v5 := cell_of_row x1 _ 5 _ _ _ qv
              clear qv
              have qt := (HE.out.block zc HZ.out.2.2).trans HP.out.2.2
              have t0 := cell_of_row x1 _ 0 _ _ _ qt
              have t1 := cell_of_row x1 _ 1 _ _ _ qt
              have t2 := cell_of_row x1 _ 2 _ _ _ qt
              have t3 := cell_of_row x1 _ 3 _ _ _ qt
              have t4 := cell_of_row x1 _ 4 _ _ _ qt
              have t5 := cell_of_row x1 _ 5 _ _ _ qt
              clear qt
              go_wp2_with fail
              refine (HEb.out _ HE.out).mono ?_
              rintro e x2 ⟨rfl, hbx⟩
              have HEo := HE
              clear HE u0 u1 u2 u3 u4 u5 v0 v1 v2 v3 v4 v5 t0 t1 t2 t3 t4 t5
              have HE : Hid (Below W1.heap.size W1 x2) := by first | exact HEo.out.trans (hbx.mono HEo.out.size) | exact HEo.out.drew.trans (hbx.mono HEo.out.size)
              clear hbx HEo
              have qu := (HE.out.block za HZ.out.1).trans HP.out.1
              have u0 := cell_of_row x2 _ 0 _ _ _ qu
              have u1 := cell_of_row x2 _ 1 _ _ _ qu
              have u2 := cell_of_row x2 _ 2 _ _ _ qu
              have u3 := cell_of_row x2 _ 3 _ _ _ qu
              have u4 := cell_of_row x2 _ 4 _ _ _ qu
              have u5 := cell_of_row x2 _ 5 _ _ _ qu
              clear qu
              have qv := (HE.out.block zb HZ.out.2.1).trans HP.out.2.1
              have v0 := cell_of_row x2 _ 0 _ _ _ qv
              have v1 := cell_of_row x2 _ 1 _ _ _ qv
              have v2 := cell_of_row x2 _ 2 _ _ _ qv
              have v3 := cell_of_row x2 _ 3 _ _ _ qv
              have v4 := cell_of_row x2 _ 4 _ _ _ qv
              have v5 := cell_of_row x2 _ 5 _ _ _ qv
              clear qv
              have qt := (HE.out.block zc HZ.out.2.2).trans HP.out.2.2
              have t0 := cell_of_row x2 _ 0 _ _ _ qt
              have t1 := cell_of_row x2 _ 1 _ _ _ qt
              have t2 := cell_of_row x2 _ 2 _ _ _ qt
              have t3 := cell_of_row x2 _ 3 _ _ _ qt
              have t4 := cell_of_row x2 _ 4 _ _ _ qt
              have t5 := cell_of_row x2 _ 5 _ _ _ qt
              clear qt
              go_wp2_with fail
              refine (HC4.out _ HE.out).mono ?_
              rintro e x3 ⟨rfl, hbx⟩
              have HEo := HE
              clear HE u0 u1 u2 u3 u4 u5 v0 v1 v2 v3 v4 v5 t0 t1 t2 t3 t4 t5
              have HE : Hid (Below W1.heap.size W1 x3) := by first | exact HEo.out.trans (hbx.mono HEo.out.size) | exact HEo.out.drew.trans (hbx.mono HEo.out.size)
              clear hbx HEo
              have qu := (HE.out.block za HZ.out.1).trans HP.out.1
              have u0 := cell_of_row x3 _ 0 _ _ _ qu
              have u1 := cell_of_row x3 _ 1 _ _ _ qu
              have u2 := cell_of_row x3 _ 2 _ _ _ qu
              have u3 := cell_of_row x3 _ 3 _ _ _ qu
              have u4 := cell_of_row x3 _ 4 _ _ _ qu
              have u5 := cell_of_row x3 _ 5 _ _ _ qu
              clear qu
              have qv := (HE.out.block zb HZ.out.2.1).trans HP.out.2.1
              have v0 := cell_of_row x3 _ 0 _ _ _ qv
              have v1 := cell_of_row x3 _ 1 _ _ _ qv
              have v2 := cell_of_row x3 _ 2 _ _ _ qv
              have v3 := cell_of_row x3 _ 3 _ _ _ qv
              have v4 := cell_of_row x3 _ 4 _ _ _ qv
              have v5 := cell_of_row x3 _ 5 _ _ _ qv
              clear qv
              have qt := (HE.out.block zc HZ.out.2.2).trans HP.out.2.2
              have t0 := cell_of_row x3 _ 0 _ _ _ qt
              have t1 := cell_of_row x3 _ 1 _ _ _ qt
              have t2 := cell_of_row x3 _ 2 _ _ _ qt
              have t3 := cell_of_row x3 _ 3 _ _ _ qt
              have t4 := cell_of_row x3 _ 4 _ _ _ qt
              have t5 := cell_of_row x3 _ 5 _ _ _ qt
              clear qt
              by_cases hm0 : m ≤ 0
              · have hk0 : ¬ 0 < k := by
                  have h1 := HTRI.out (by omega) hm0
                  omega
                have hk1 : decide (0 < k) = false := decide_eq_false hk0
                have hk2 : k ≤ 0 := by omega
                go_wp2_with fail
                refine (HS3.out _ HE.out).mono ?_
                rintro e x4 ⟨rfl, hbx⟩
                have HEo := HE
                clear HE u0 u1 u2 u3 u4 u5 v0 v1 v2 v3 v4 v5 t0 t1 t2 t3 t4 t5
                have HE : Hid (Below W1.heap.size W1 x4) := by first | exact HEo.out.trans (hbx.mono HEo.out.size) | exact HEo.out.drew.trans (hbx.mono HEo.out.size)
                clear hbx HEo
                have qu := (HE.out.block za HZ.out.1).trans HP.out.1
                have u0 := cell_of_row x4 _ 0 _ _ _ qu
                have u1 := cell_of_row x4 _ 1 _ _ _ qu
                have u2 := cell_of_row x4 _ 2 _ _ _ qu
                have u3 := cell_of_row x4 _ 3 _ _ _ qu
                have u4 := cell_of_row x4 _ 4 _ _ _ qu
                have u5 := cell_of_row x4 _ 5 _ _ _ qu
                clear qu
                have qv := (HE.out.block zb HZ.out.2.1).trans HP.out.2.1
                have v0 := cell_of_row x4 _ 0 _ _ _ qv
                have v1 := cell_of_row x4 _ 1 _ _ _ qv
                have v2 := cell_of_row x4 _ 2 _ _ _ qv
                have v3 := cell_of_row x4 _ 3 _ _ _ qv
                have v4 := cell_of_row x4 _ 4 _ _ _ qv
                have v5 := cell_of_row x4 _ 5 _ _ _ qv
                clear qv
                have qt := (HE.out.block zc HZ.out.2.2).trans HP.out.2.2
                have t0 := cell_of_row x4 _ 0 _ _ _ qt
                have t1 := cell_of_row x4 _ 1 _ _ _ qt
                have t2 := cell_of_row x4 _ 2 _ _ _ qt
                have t3 := cell_of_row x4 _ 3 _ _ _ qt
                have t4 := cell_of_row x4 _ 4 _ _ _ qt
                have t5 := cell_of_row x4 _ 5 _ _ _ qt
                clear qt
                clear u0 u1 u2 u3 u4 u5 v0 v1 v2 v3 v4 v5 t0 t1 t2 t3 t4 t5
                have BF : Below w.heap.size w x4 := HB1.out.trans (HE.out.mono HB1.out.size)
                go_wp2
                all_goals
                  go_ret
                  exact ⟨rfl, BF⟩
              · have hmd : decide (m ≤ 0) = false := decide_eq_false hm0
                have hmp : 0 < m := by omega
                go_wp2_with fail
                refine (HS3.out _ HE.out).mono ?_
                rintro e x4 ⟨rfl, hbx⟩
                have HEo := HE
                clear HE u0 u1 u2 u3 u4 u5 v0 v1 v2 v3 v4 v5 t0 t1 t2 t3 t4 t5
                have HE : Hid (Below W1.heap.size W1 x4) := by first | exact HEo.out.trans (hbx.mono HEo.out.size) | exact HEo.out.drew.trans (hbx.mono HEo.out.size)
                clear hbx HEo
                have qu := (HE.out.block za HZ.out.1).trans HP.out.1
                have u0 := cell_of_row x4 _ 0 _ _ _ qu
                have u1 := cell_of_row x4 _ 1 _ _ _ qu
                have u2 := cell_of_row x4 _ 2 _ _ _ qu
                have u3 := cell_of_row x4 _ 3 _ _ _ qu
                have u4 := cell_of_row x4 _ 4 _ _ _ qu
                have u5 := cell_of_row x4 _ 5 _ _ _ qu
                clear qu
                have qv := (HE.out.block zb HZ.out.2.1).trans HP.out.2.1
                have v0 := cell_of_row x4 _ 0 _ _ _ qv
                have v1 := cell_of_row x4 _ 1 _ _ _ qv
                have v2 := cell_of_row x4 _ 2 _ _ _ qv
                have v3 := cell_of_row x4 _ 3 _ _ _ qv
                have v4 := cell_of_row x4 _ 4 _ _ _ qv
                have v5 := cell_of_row x4 _ 5 _ _ _ qv
                clear qv
                have qt := (HE.out.block zc HZ.out.2.2).trans HP.out.2.2
                have t0 := cell_of_row x4 _ 0 _ _ _ qt
                have t1 := cell_of_row x4 _ 1 _ _ _ qt
                have t2 := cell_of_row x4 _ 2 _ _ _ qt
                have t3 := cell_of_row x4 _ 3 _ _ _ qt
                have t4 := cell_of_row x4 _ 4 _ _ _ qt
                have t5 := cell_of_row x4 _ 5 _ _ _ qt
                clear qt
                clear u0 u1 u2 u3 u4 u5 v0 v1 v2 v3 v4 v5 t0 t1 t2 t3 t4 t5
                have BF : Below w.heap.size w x4 := HB1.out.trans (HE.out.mono HB1.out.size)
                go_wp2
                all_goals
                  go_ret
                  exact ⟨rfl, BF⟩
          · skip
            have hn2 : ¬ n < 0 := by omega
            have hn3 : decide (n < 0) = false := decide_eq_false hn2
            have hn4 : decide (n ≤ 0) = false := decide_eq_false (by omega)
            have hn5 : ¬ n ≤ 0 := by omega
            have MK1 : Hid True := trivial
            have HS1 : Hid (∀ (V : World) (P Q : Ad), Lies V.heap.size V a P → Lies V.heap.size V b Q → Calls Try.prog 20 #[.agg #[.int .i64 a.k, .bool a.b, .int .i64 a.n, .string a.s, .slice P.pa a.m P.pc, .slice P.na a.q P.nc], .agg #[.int .i64 b.k, .bool b.b, .int .i64 b.n, .string b.s, .slice Q.pa b.m Q.pc, .slice Q.na b.q Q.nc]] V fun e w' => e = .returned (.bool false) ∧ Below V.heap.size V w') := fun V P Q h1 h2 => by
              have := HR1.out V P Q h1 h2; rw [show decide (n < 0) = false from decide_eq_false (by omega)] at this; exact this
            have HS2 : Hid (∀ (V : World) (P Q : Ad), Lies V.heap.size V a P → Lies V.heap.size V b Q → Calls Try.prog 20 #[.agg #[.int .i64 b.k, .bool b.b, .int .i64 b.n, .string b.s, .slice Q.pa b.m Q.pc, .slice Q.na b.q Q.nc], .agg #[.int .i64 a.k, .bool a.b, .int .i64 a.n, .string a.s, .slice P.pa a.m P.pc, .slice P.na a.q P.nc]] V fun e w' => e = .returned (.bool true) ∧ Below V.heap.size V w') := fun V P Q h1 h2 => by
              have := HR2.out V P Q h1 h2; rw [show decide (-n < 0) = true from decide_eq_true (by omega)] at this; exact this
            have HS3 : Hid (∀ V, Below W1.heap.size W1 V → Calls Try.prog 17 #[.agg #[.int .i64 a.k, .bool a.b, .int .i64 a.n, .string a.s, .slice A.pa a.m A.pc, .slice A.na a.q A.nc], .agg #[.int .i64 b.k, .bool b.b, .int .i64 b.n, .string b.s, .slice A2.pa b.m A2.pc, .slice A2.na b.q A2.nc]] V fun e w' => e = .returned (.bool false) ∧ Below V.heap.size V w') := fun V hv => by
              have := HSA.out V hv; rw [show (n == 0) = false from by simp; omega] at this; exact this
            clear HR1 HR2 HSA
            have hee : (es.toList == et.toList) = false := (Lib.bytes_beq_false_iff _ _).2 (fun h => by have := HZE.out.2 h; omega)
            have hn1 : (n == 0) = false := by simp; omega
            clear HZE
            go_wp2_with fail
            go_region_held3 (fun W => W.cell? ⟨za, 0, none⟩ = some (.int .i64 a.k) ∧ W.cell? ⟨za, 1, none⟩ = some (.bool a.b) ∧ W.cell? ⟨za, 2, none⟩ = some (.int .i64 a.n) ∧ W.cell? ⟨za, 3, none⟩ = some (.string a.s) ∧ W.cell? ⟨za, 4, none⟩ = some (.slice A.pa a.m A.pc) ∧ W.cell? ⟨za, 5, none⟩ = some (.slice A.na a.q A.nc) ∧ W.cell? ⟨zb, 0, none⟩ = some (.int .i64 b.k) ∧ W.cell? ⟨zb, 1, none⟩ = some (.bool b.b) ∧ W.cell? ⟨zb, 2, none⟩ = some (.int .i64 b.n) ∧ W.cell? ⟨zb, 3, none⟩ = some (.string b.s) ∧ W.cell? ⟨zb, 4, none⟩ = some (.slice A2.pa b.m A2.pc) ∧ W.cell? ⟨zb, 5, none⟩ = some (.slice A2.na b.q A2.nc) ∧ W.cell? ⟨zc, 0, none⟩ = some (.int .i64 c.k) ∧ W.cell? ⟨zc, 1, none⟩ = some (.bool c.b) ∧ W.cell? ⟨zc, 2, none⟩ = some (.int .i64 c.n) ∧ W.cell? ⟨zc, 3, none⟩ = some (.string c.s) ∧ W.cell? ⟨zc, 4, none⟩ = some (.slice A3.pa c.m A3.pc) ∧ W.cell? ⟨zc, 5, none⟩ = some (.slice A3.na c.q A3.nc)) (exact ⟨u0, u1, u2, u3, u4, u5, v0, v1, v2, v3, v4, v5, t0, t1, t2, t3, t4, t5⟩) (first
              | (go_at_call 10
                 refine (awake_any _).mono ?_
                 rintro e w8 ⟨rfl, hbx⟩
                 have HEo := HE
                 clear HE u0 u1 u2 u3 u4 u5 v0 v1 v2 v3 v4 v5 t0 t1 t2 t3 t4 t5
                 have HE : Hid (Below W1.heap.size W1 w8) := by first | exact HEo.out.trans (hbx.mono HEo.out.size) | exact HEo.out.drew.trans (hbx.mono HEo.out.size)
                 clear hbx HEo
                 have qu := (HE.out.block za HZ.out.1).trans HP.out.1
                 have u0 := cell_of_row w8 _ 0 _ _ _ qu
                 have u1 := cell_of_row w8 _ 1 _ _ _ qu
                 have u2 := cell_of_row w8 _ 2 _ _ _ qu
                 have u3 := cell_of_row w8 _ 3 _ _ _ qu
                 have u4 := cell_of_row w8 _ 4 _ _ _ qu
                 have u5 := cell_of_row w8 _ 5 _ _ _ qu
                 clear qu
                 have qv := (HE.out.block zb HZ.out.2.1).trans HP.out.2.1
                 have v0 := cell_of_row w8 _ 0 _ _ _ qv
                 have v1 := cell_of_row w8 _ 1 _ _ _ qv
                 have v2 := cell_of_row w8 _ 2 _ _ _ qv
                 have v3 := cell_of_row w8 _ 3 _ _ _ qv
                 have v4 := cell_of_row w8 _ 4 _ _ _ qv
                 have v5 := cell_of_row w8 _ 5 _ _ _ qv
                 clear qv
                 have qt := (HE.out.block zc HZ.out.2.2).trans HP.out.2.2
                 have t0 := cell_of_row w8 _ 0 _ _ _ qt
                 have t1 := cell_of_row w8 _ 1 _ _ _ qt
                 have t2 := cell_of_row w8 _ 2 _ _ _ qt
                 have t3 := cell_of_row w8 _ 3 _ _ _ qt
                 have t4 := cell_of_row w8 _ 4 _ _ _ qt
                 have t5 := cell_of_row w8 _ 5 _ _ _ qt
                 clear qt)
              | (go_at_call_of 13 A
                 refine (HFa.out _ (by first | exact HE.out | exact HE.out.drew)).mono ?_
                 rintro e w8 ⟨P, rfl, hLP, hbx⟩
                 have HEo := HE
                 clear HE u0 u1 u2 u3 u4 u5 v0 v1 v2 v3 v4 v5 t0 t1 t2 t3 t4 t5
                 have HE : Hid (Below W1.heap.size W1 w8) := by first | exact HEo.out.trans (hbx.mono HEo.out.size) | exact HEo.out.drew.trans (hbx.mono HEo.out.size)
                 (try (have HLQo := HLQ; clear HLQ; have HLQ : Hid (Lies w8.heap.size w8 b Q) := (HLQo.out.later hbx).up hbx.size; clear HLQo))
                 have HLP : Hid (Lies w8.heap.size w8 a P) := hLP
                 clear hLP
                 clear hbx HEo
                 have qu := (HE.out.block za HZ.out.1).trans HP.out.1
                 have u0 := cell_of_row w8 _ 0 _ _ _ qu
                 have u1 := cell_of_row w8 _ 1 _ _ _ qu
                 have u2 := cell_of_row w8 _ 2 _ _ _ qu
                 have u3 := cell_of_row w8 _ 3 _ _ _ qu
                 have u4 := cell_of_row w8 _ 4 _ _ _ qu
                 have u5 := cell_of_row w8 _ 5 _ _ _ qu
                 clear qu
                 have qv := (HE.out.block zb HZ.out.2.1).trans HP.out.2.1
                 have v0 := cell_of_row w8 _ 0 _ _ _ qv
                 have v1 := cell_of_row w8 _ 1 _ _ _ qv
                 have v2 := cell_of_row w8 _ 2 _ _ _ qv
                 have v3 := cell_of_row w8 _ 3 _ _ _ qv
                 have v4 := cell_of_row w8 _ 4 _ _ _ qv
                 have v5 := cell_of_row w8 _ 5 _ _ _ qv
                 clear qv
                 have qt := (HE.out.block zc HZ.out.2.2).trans HP.out.2.2
                 have t0 := cell_of_row w8 _ 0 _ _ _ qt
                 have t1 := cell_of_row w8 _ 1 _ _ _ qt
                 have t2 := cell_of_row w8 _ 2 _ _ _ qt
                 have t3 := cell_of_row w8 _ 3 _ _ _ qt
                 have t4 := cell_of_row w8 _ 4 _ _ _ qt
                 have t5 := cell_of_row w8 _ 5 _ _ _ qt
                 clear qt)
              | (go_at_call_of 13 A2
                 refine (HFb.out _ (by first | exact HE.out | exact HE.out.drew)).mono ?_
                 rintro e w8 ⟨Q, rfl, hLQ, hbx⟩
                 have HEo := HE
                 clear HE u0 u1 u2 u3 u4 u5 v0 v1 v2 v3 v4 v5 t0 t1 t2 t3 t4 t5
                 have HE : Hid (Below W1.heap.size W1 w8) := by first | exact HEo.out.trans (hbx.mono HEo.out.size) | exact HEo.out.drew.trans (hbx.mono HEo.out.size)
                 (try (have HLPo := HLP; clear HLP; have HLP : Hid (Lies w8.heap.size w8 a P) := (HLPo.out.later hbx).up hbx.size; clear HLPo))
                 have HLQ : Hid (Lies w8.heap.size w8 b Q) := hLQ
                 clear hLQ
                 clear hbx HEo
                 have qu := (HE.out.block za HZ.out.1).trans HP.out.1
                 have u0 := cell_of_row w8 _ 0 _ _ _ qu
                 have u1 := cell_of_row w8 _ 1 _ _ _ qu
                 have u2 := cell_of_row w8 _ 2 _ _ _ qu
                 have u3 := cell_of_row w8 _ 3 _ _ _ qu
                 have u4 := cell_of_row w8 _ 4 _ _ _ qu
                 have u5 := cell_of_row w8 _ 5 _ _ _ qu
                 clear qu
                 have qv := (HE.out.block zb HZ.out.2.1).trans HP.out.2.1
                 have v0 := cell_of_row w8 _ 0 _ _ _ qv
                 have v1 := cell_of_row w8 _ 1 _ _ _ qv
                 have v2 := cell_of_row w8 _ 2 _ _ _ qv
                 have v3 := cell_of_row w8 _ 3 _ _ _ qv
                 have v4 := cell_of_row w8 _ 4 _ _ _ qv
                 have v5 := cell_of_row w8 _ 5 _ _ _ qv
                 clear qv
                 have qt := (HE.out.block zc HZ.out.2.2).trans HP.out.2.2
                 have t0 := cell_of_row w8 _ 0 _ _ _ qt
                 have t1 := cell_of_row w8 _ 1 _ _ _ qt
                 have t2 := cell_of_row w8 _ 2 _ _ _ qt
                 have t3 := cell_of_row w8 _ 3 _ _ _ qt
                 have t4 := cell_of_row w8 _ 4 _ _ _ qt
                 have t5 := cell_of_row w8 _ 5 _ _ _ qt
                 clear qt)
              | (go_at_call 20
                 clear MK1
                 refine (HS1.out _ P Q HLP.out HLQ.out).mono ?_
                 rintro e w8 ⟨rfl, hbx⟩
                 have HEo := HE
                 clear HE u0 u1 u2 u3 u4 u5 v0 v1 v2 v3 v4 v5 t0 t1 t2 t3 t4 t5
                 have HE : Hid (Below W1.heap.size W1 w8) := by first | exact HEo.out.trans (hbx.mono HEo.out.size) | exact HEo.out.drew.trans (hbx.mono HEo.out.size)
                 clear HLP HLQ
                 clear hbx HEo
                 have qu := (HE.out.block za HZ.out.1).trans HP.out.1
                 have u0 := cell_of_row w8 _ 0 _ _ _ qu
                 have u1 := cell_of_row w8 _ 1 _ _ _ qu
                 have u2 := cell_of_row w8 _ 2 _ _ _ qu
                 have u3 := cell_of_row w8 _ 3 _ _ _ qu
                 have u4 := cell_of_row w8 _ 4 _ _ _ qu
                 have u5 := cell_of_row w8 _ 5 _ _ _ qu
                 clear qu
                 have qv := (HE.out.block zb HZ.out.2.1).trans HP.out.2.1
                 have v0 := cell_of_row w8 _ 0 _ _ _ qv
                 have v1 := cell_of_row w8 _ 1 _ _ _ qv
                 have v2 := cell_of_row w8 _ 2 _ _ _ qv
                 have v3 := cell_of_row w8 _ 3 _ _ _ qv
                 have v4 := cell_of_row w8 _ 4 _ _ _ qv
                 have v5 := cell_of_row w8 _ 5 _ _ _ qv
                 clear qv
                 have qt := (HE.out.block zc HZ.out.2.2).trans HP.out.2.2
                 have t0 := cell_of_row w8 _ 0 _ _ _ qt
                 have t1 := cell_of_row w8 _ 1 _ _ _ qt
                 have t2 := cell_of_row w8 _ 2 _ _ _ qt
                 have t3 := cell_of_row w8 _ 3 _ _ _ qt
                 have t4 := cell_of_row w8 _ 4 _ _ _ qt
                 have t5 := cell_of_row w8 _ 5 _ _ _ qt
                 clear qt)
              | (go_at_call 20
                 refine (HS2.out _ P Q HLP.out HLQ.out).mono ?_
                 rintro e w8 ⟨rfl, hbx⟩
                 have HEo := HE
                 clear HE u0 u1 u2 u3 u4 u5 v0 v1 v2 v3 v4 v5 t0 t1 t2 t3 t4 t5
                 have HE : Hid (Below W1.heap.size W1 w8) := by first | exact HEo.out.trans (hbx.mono HEo.out.size) | exact HEo.out.drew.trans (hbx.mono HEo.out.size)
                 clear HLP HLQ
                 clear hbx HEo
                 have qu := (HE.out.block za HZ.out.1).trans HP.out.1
                 have u0 := cell_of_row w8 _ 0 _ _ _ qu
                 have u1 := cell_of_row w8 _ 1 _ _ _ qu
                 have u2 := cell_of_row w8 _ 2 _ _ _ qu
                 have u3 := cell_of_row w8 _ 3 _ _ _ qu
                 have u4 := cell_of_row w8 _ 4 _ _ _ qu
                 have u5 := cell_of_row w8 _ 5 _ _ _ qu
                 clear qu
                 have qv := (HE.out.block zb HZ.out.2.1).trans HP.out.2.1
                 have v0 := cell_of_row w8 _ 0 _ _ _ qv
                 have v1 := cell_of_row w8 _ 1 _ _ _ qv
                 have v2 := cell_of_row w8 _ 2 _ _ _ qv
                 have v3 := cell_of_row w8 _ 3 _ _ _ qv
                 have v4 := cell_of_row w8 _ 4 _ _ _ qv
                 have v5 := cell_of_row w8 _ 5 _ _ _ qv
                 clear qv
                 have qt := (HE.out.block zc HZ.out.2.2).trans HP.out.2.2
                 have t0 := cell_of_row w8 _ 0 _ _ _ qt
                 have t1 := cell_of_row w8 _ 1 _ _ _ qt
                 have t2 := cell_of_row w8 _ 2 _ _ _ qt
                 have t3 := cell_of_row w8 _ 3 _ _ _ qt
                 have t4 := cell_of_row w8 _ 4 _ _ _ qt
                 have t5 := cell_of_row w8 _ 5 _ _ _ qt
                 clear qt))
            all_goals
              go_wp2_with fail
              refine (HEa.out _ HE.out).mono ?_
              rintro e x1 ⟨rfl, hbx⟩
              have HEo := HE
              clear HE u0 u1 u2 u3 u4 u5 v0 v1 v2 v3 v4 v5 t0 t1 t2 t3 t4 t5
              have HE : Hid (Below W1.heap.size W1 x1) := by first | exact HEo.out.trans (hbx.mono HEo.out.size) | exact HEo.out.drew.trans (hbx.mono HEo.out.size)
              clear hbx HEo
              have qu := (HE.out.block za HZ.out.1).trans HP.out.1
              have u0 := cell_of_row x1 _ 0 _ _ _ qu
              have u1 := cell_of_row x1 _ 1 _ _ _ qu
              have u2 := cell_of_row x1 _ 2 _ _ _ qu
              have u3 := cell_of_row x1 _ 3 _ _ _ qu
              have u4 := cell_of_row x1 _ 4 _ _ _ qu
              have u5 := cell_of_row x1 _ 5 _ _ _ qu
              clear qu
              have qv := (HE.out.block zb HZ.out.2.1).trans HP.out.2.1
              have v0 := cell_of_row x1 _ 0 _ _ _ qv
              have v1 := cell_of_row x1 _ 1 _ _ _ qv
              have v2 := cell_of_row x1 _ 2 _ _ _ qv
              have v3 := cell_of_row x1 _ 3 _ _ _ qv
              have v4 := cell_of_row x1 _ 4 _ _ _ qv
              have v5 := cell_of_row x1 _ 5 _ _ _ qv
              clear qv
              have qt := (HE.out.block zc HZ.out.2.2).trans HP.out.2.2
              have t0 := cell_of_row x1 _ 0 _ _ _ qt
              have t1 := cell_of_row x1 _ 1 _ _ _ qt
              have t2 := cell_of_row x1 _ 2 _ _ _ qt
              have t3 := cell_of_row x1 _ 3 _ _ _ qt
              have t4 := cell_of_row x1 _ 4 _ _ _ qt
              have t5 := cell_of_row x1 _ 5 _ _ _ qt
              clear qt
              go_wp2_with fail
              refine (HEb.out _ HE.out).mono ?_
              rintro e x2 ⟨rfl, hbx⟩
              have HEo := HE
              clear HE u0 u1 u2 u3 u4 u5 v0 v1 v2 v3 v4 v5 t0 t1 t2 t3 t4 t5
              have HE : Hid (Below W1.heap.size W1 x2) := by first | exact HEo.out.trans (hbx.mono HEo.out.size) | exact HEo.out.drew.trans (hbx.mono HEo.out.size)
              clear hbx HEo
              have qu := (HE.out.block za HZ.out.1).trans HP.out.1
              have u0 := cell_of_row x2 _ 0 _ _ _ qu
              have u1 := cell_of_row x2 _ 1 _ _ _ qu
              have u2 := cell_of_row x2 _ 2 _ _ _ qu
              have u3 := cell_of_row x2 _ 3 _ _ _ qu
              have u4 := cell_of_row x2 _ 4 _ _ _ qu
              have u5 := cell_of_row x2 _ 5 _ _ _ qu
              clear qu
              have qv := (HE.out.block zb HZ.out.2.1).trans HP.out.2.1
              have v0 := cell_of_row x2 _ 0 _ _ _ qv
              have v1 := cell_of_row x2 _ 1 _ _ _ qv
              have v2 := cell_of_row x2 _ 2 _ _ _ qv
              have v3 := cell_of_row x2 _ 3 _ _ _ qv
              have v4 := cell_of_row x2 _ 4 _ _ _ qv
              have v5 := cell_of_row x2 _ 5 _ _ _ qv
              clear qv
              have qt := (HE.out.block zc HZ.out.2.2).trans HP.out.2.2
              have t0 := cell_of_row x2 _ 0 _ _ _ qt
              have t1 := cell_of_row x2 _ 1 _ _ _ qt
              have t2 := cell_of_row x2 _ 2 _ _ _ qt
              have t3 := cell_of_row x2 _ 3 _ _ _ qt
              have t4 := cell_of_row x2 _ 4 _ _ _ qt
              have t5 := cell_of_row x2 _ 5 _ _ _ qt
              clear qt
              go_wp2_with fail
              refine (HC4.out _ HE.out).mono ?_
              rintro e x3 ⟨rfl, hbx⟩
              have HEo := HE
              clear HE u0 u1 u2 u3 u4 u5 v0 v1 v2 v3 v4 v5 t0 t1 t2 t3 t4 t5
              have HE : Hid (Below W1.heap.size W1 x3) := by first | exact HEo.out.trans (hbx.mono HEo.out.size) | exact HEo.out.drew.trans (hbx.mono HEo.out.size)
              clear hbx HEo
              have qu := (HE.out.block za HZ.out.1).trans HP.out.1
              have u0 := cell_of_row x3 _ 0 _ _ _ qu
              have u1 := cell_of_row x3 _ 1 _ _ _ qu
              have u2 := cell_of_row x3 _ 2 _ _ _ qu
              have u3 := cell_of_row x3 _ 3 _ _ _ qu
              have u4 := cell_of_row x3 _ 4 _ _ _ qu
              have u5 := cell_of_row x3 _ 5 _ _ _ qu
              clear qu
              have qv := (HE.out.block zb HZ.out.2.1).trans HP.out.2.1
              have v0 := cell_of_row x3 _ 0 _ _ _ qv
              have v1 := cell_of_row x3 _ 1 _ _ _ qv
              have v2 := cell_of_row x3 _ 2 _ _ _ qv
              have v3 := cell_of_row x3 _ 3 _ _ _ qv
              have v4 := cell_of_row x3 _ 4 _ _ _ qv
              have v5 := cell_of_row x3 _ 5 _ _ _ qv
              clear qv
              have qt := (HE.out.block zc HZ.out.2.2).trans HP.out.2.2
              have t0 := cell_of_row x3 _ 0 _ _ _ qt
              have t1 := cell_of_row x3 _ 1 _ _ _ qt
              have t2 := cell_of_row x3 _ 2 _ _ _ qt
              have t3 := cell_of_row x3 _ 3 _ _ _ qt
              have t4 := cell_of_row x3 _ 4 _ _ _ qt
              have t5 := cell_of_row x3 _ 5 _ _ _ qt
              clear qt
              go_wp2_with fail
              refine (HS3.out _ HE.out).mono ?_
              rintro e x4 ⟨rfl, hbx⟩
              have HEo := HE
              clear HE u0 u1 u2 u3 u4 u5 v0 v1 v2 v3 v4 v5 t0 t1 t2 t3 t4 t5
              have HE : Hid (Below W1.heap.size W1 x4) := by first | exact HEo.out.trans (hbx.mono HEo.out.size) | exact HEo.out.drew.trans (hbx.mono HEo.out.size)
              clear hbx HEo
              have qu := (HE.out.block za HZ.out.1).trans HP.out.1
              have u0 := cell_of_row x4 _ 0 _ _ _ qu
              have u1 := cell_of_row x4 _ 1 _ _ _ qu
              have u2 := cell_of_row x4 _ 2 _ _ _ qu
              have u3 := cell_of_row x4 _ 3 _ _ _ qu
              have u4 := cell_of_row x4 _ 4 _ _ _ qu
              have u5 := cell_of_row x4 _ 5 _ _ _ qu
              clear qu
              have qv := (HE.out.block zb HZ.out.2.1).trans HP.out.2.1
              have v0 := cell_of_row x4 _ 0 _ _ _ qv
              have v1 := cell_of_row x4 _ 1 _ _ _ qv
              have v2 := cell_of_row x4 _ 2 _ _ _ qv
              have v3 := cell_of_row x4 _ 3 _ _ _ qv
              have v4 := cell_of_row x4 _ 4 _ _ _ qv
              have v5 := cell_of_row x4 _ 5 _ _ _ qv
              clear qv
              have qt := (HE.out.block zc HZ.out.2.2).trans HP.out.2.2
              have t0 := cell_of_row x4 _ 0 _ _ _ qt
              have t1 := cell_of_row x4 _ 1 _ _ _ qt
              have t2 := cell_of_row x4 _ 2 _ _ _ qt
              have t3 := cell_of_row x4 _ 3 _ _ _ qt
              have t4 := cell_of_row x4 _ 4 _ _ _ qt
              have t5 := cell_of_row x4 _ 5 _ _ _ qt
              clear qt
              clear u0 u1 u2 u3 u4 u5 v0 v1 v2 v3 v4 v5 t0 t1 t2 t3 t4 t5
              have BF : Below w.heap.size w x4 := HB1.out.trans (HE.out.mono HB1.out.size)
              go_wp2
              all_goals
                go_ret
                exact ⟨rfl, BF⟩
        · have kc1 : (kc != 0) = true := by simpa using kc0
          go_wp2_with fail
          refine (awake_any _).mono ?_
          rintro e wz ⟨rfl, hbz⟩
          have BZ : Below w.heap.size w wz := HB1.out.trans ((HE.out.trans (hbz.mono HE.out.size)).mono HB1.out.size)
          clear u0 u1 u2 u3 u4 u5 v0 v1 v2 v3 v4 v5 t0 t1 t2 t3 t4 t5 hbz
          go_wp2
          go_ret
          exact ⟨rfl, BZ⟩
      · have kb1 : (kb != 0) = true := by simpa using kb0
        go_wp2_with fail
        refine (awake_any _).mono ?_
        rintro e wz ⟨rfl, hbz⟩
        have BZ : Below w.heap.size w wz := HB1.out.trans ((HE.out.trans (hbz.mono HE.out.size)).mono HB1.out.size)
        clear u0 u1 u2 u3 u4 u5 v0 v1 v2 v3 v4 v5 t0 t1 t2 t3 t4 t5 hbz
        go_wp2
        go_ret
        exact ⟨rfl, BZ⟩
    · have ka1 : (ka != 0) = true := by simpa using ka0
      go_wp2_with fail
      refine (awake_any _).mono ?_
      rintro e wz ⟨rfl, hbz⟩
      have BZ : Below w.heap.size w wz := HB1.out.trans ((HE.out.trans (hbz.mono HE.out.size)).mono HB1.out.size)
      clear u0 u1 u2 u3 u4 u5 v0 v1 v2 v3 v4 v5 t0 t1 t2 t3 t4 t5 hbz
      go_wp2
      go_ret
      exact ⟨rfl, BZ⟩
end Go.Proofs.Ytjmjlijmeahmfaa
