/- The first error of a value that stands within so many (sound). -/
import Derived.Test.YtjmjlijmeahmfaaNamed
import Derived.Test.YtjmjlijmeahmfaaForm
namespace Go.Proofs.Ytjmjlijmeahmfaa
open Go.RowKit
def fe : Nat → (Nat → Int) → Int
  | 0, _ => 0
  | m + 1, F => if fe m F = 0 then F m else fe m F
theorem fe_at {F : Nat → Int} {i : Nat} : ∀ m, i < m → fe i F = 0 → F i ≠ 0 → fe m F = F i
  | 0, h, _, _ => by omega
  | m + 1, h, h1, h2 => by
    show (if fe m F = 0 then F m else fe m F) = F i
    rcases Nat.lt_or_ge i m with k | k
    · have e := fe_at m k h1 h2
      rw [e, if_neg h2]
    · obtain rfl : i = m := by omega
      rw [if_pos h1]
theorem fe_step {F : Nat → Int} {i : Nat} (h : fe i F = 0) (h1 : F i = 0) : fe (i + 1) F = 0 := by
  show (if fe i F = 0 then F i else fe i F) = 0
  rw [if_pos h, h1]
def soundT : Tr → Int → Int
  | .no, _ => 0
  | .mk k b n s m f q g, d =>
    if 8 < d then 30 else if formedB k b n s m q = false then 6 else if 32 < m then 3 else if k = 6 ∧ namedB q m g = false then 31
    else fe m (fun i => soundT (f i) (d + 1))
set_option maxHeartbeats 4000000 in
theorem sound_in {B : Nat} {w : World} {k : Int} {b : Bool} {n : Int} {s : ByteArray} {m : Nat} {f : Nat → Tr} {q : Nat} {g : Nat → ByteArray} {x : Ad} (d : Int) (h0 : 0 ≤ d) (h8 : ¬ 8 < d)
    (hL : Lies B w (.mk k b n s m f q g) x) (hB : B ≤ w.heap.size) (hf : formedB k b n s m q = true) (h32 : ¬ 32 < m) (h6 : ¬ (k = 6 ∧ namedB q m g = false))
    (ih : ∀ i, i < m → ∀ (w : World) (A : Ad), Lies B w (f i) A → B ≤ w.heap.size → Calls Try.prog 37 #[(f i).val A, .int .i64 (d + 1)] w fun e w' => e = .returned (.int .i64 (soundT (f i) (d + 1))) ∧ Below w.heap.size w w') :
    Calls Try.prog 37 #[(Tr.mk k b n s m f q g).val x, .int .i64 d] w fun e w' => e = .returned (.int .i64 (fe m (fun i => soundT (f i) (d + 1)))) ∧ Below w.heap.size w w' := by
  have hfm := fun (W : World) => formed_any (.mk k b n s m f q g) x W
  have hF : Tr.formed (.mk k b n s m f q g) = true := hf
  have hnm := fun (W : World) (hb : Below B w W) (hs : B ≤ W.heap.size) => named_any (t := .mk k b n s m f q g) (x := x) ((hL.lims).2.2.2.2.later hb) hs
  obtain ⟨A, hp, hr⟩ := hL.part
  obtain ⟨pa, pc, na, nc⟩ := x
  obtain ⟨R, hR⟩ : ∃ R : Nat → Int, (fun i => soundT (f i) (d + 1)) = R := ⟨_, rfl⟩
  have hRi : ∀ i, soundT (f i) (d + 1) = R i := fun i => congrFun hR i
  rw [hR]
  clear hR
  simp only [hRi] at ih
  rw [hF] at hfm
  have hd : IntKind.i64.wrap (d + 1) = d + 1 := by rw [IntKind.wrap_i64]; omega
  have h8' : d ≤ 8 := by omega
  have h32' : (m : Int) ≤ 32 := by omega
  have hV : (Tr.mk k b n s m f q g).val ⟨pa, pc, na, nc⟩ = .agg #[.int .i64 k, .bool b, .int .i64 n, .string s, .slice pa m pc, .slice na q nc] := rfl
  rw [hV] at hfm hnm ⊢
  clear hV hF hf
  have HI : Hid (∀ i, i < m → ∀ (w : World) (A : Ad), Lies B w (f i) A → B ≤ w.heap.size → Calls Try.prog 37 #[(f i).val A, .int .i64 (d + 1)] w fun e w' => e = .returned (.int .i64 (R i)) ∧ Below w.heap.size w w') := ih
  clear ih hRi
  have HP : Hid (0 < m → ∃ b o, pa = some ⟨b, o, none⟩ ∧ b < B ∧ ∀ i, i < m → At6 w b (o + i * 6) (f i) (A i)) := hp
  clear hp
  go_enter Try.func37, Try.ntmps37
  go_wp2_with fail
  refine (hfm _).mono ?_
  rintro e w1 ⟨rfl, hb1⟩
  have hrow := (hb1.block w.heap.size (by simp)).trans (heap_alloc_new w (.cells #[.int .i64 k, .bool b, .int .i64 n, .string s, .slice pa m pc, .slice na q nc] 25))
  have hb0 : Below w.heap.size w w1 := ((Below.refl _ w).alloc (Nat.le_refl _) _).trans (hb1.mono (by simp))
  have c0 := cell_of_row w1 _ 0 _ _ _ hrow
  have c1 := cell_of_row w1 _ 1 _ _ _ hrow
  have c2 := cell_of_row w1 _ 2 _ _ _ hrow
  have c3 := cell_of_row w1 _ 3 _ _ _ hrow
  have c4 := cell_of_row w1 _ 4 _ _ _ hrow
  have c5 := cell_of_row w1 _ 5 _ _ _ hrow
  by_cases h66 : k = 6
  · subst h66
    have hnt : namedB q m g = true := by
      cases h : namedB q m g with
      | true => rfl
      | false => exact absurd ⟨rfl, h⟩ h6
    rw [show (Tr.mk 6 b n s m f q g).q = q from rfl, show (Tr.mk 6 b n s m f q g).m = m from rfl, show (Tr.mk 6 b n s m f q g).g = g from rfl, hnt] at hnm
    go_wp2_with fail
    refine (hnm _ (hb0.mono hB) (by have := hb0.size; omega)).mono ?_
    rintro e W ⟨rfl, hb2⟩
    replace hb0 := hb0.trans (hb2.mono hb0.size)
    clear c0 c1 c2 c3 c4 c5 hrow
    have c4 := cell_of_row W _ 4 _ _ _ ((hb2.block w.heap.size (by have := hb1.size; simp at this; omega)).trans ((hb1.block w.heap.size (by simp)).trans (heap_alloc_new w (.cells #[.int .i64 6, .bool b, .int .i64 n, .string s, .slice pa m pc, .slice na q nc] 25))))
    go_wp2_with fail
    go_loopw [32] (fun c32 wr => ∃ i : Nat, i ≤ m ∧ c32 = .int .i64 (i : Int) ∧ fe i R = 0 ∧ Below W.heap.size W wr) (fun c32 _ => m - (intOf c32).toNat)
    case atStart => exact ⟨0, by omega, rfl, rfl, Below.refl _ _⟩
    case round =>
      obtain ⟨i, hi, rfl, hfe, hbr⟩ := hrel
      have HE : Hid (fe i R = 0) := hfe
      clear hfe
      by_cases him : i < m
      · have him' : (i : Int) < (m : Int) := by omega
        obtain ⟨pb, po, rfl, hpb, hat⟩ := HP.out (by omega)
        have hbw : Below B w wr := (hb0.mono hB).trans (hbr.mono (by have := hb0.size; omega))
        have h6a := (hat i him).later hpb hbw
        have d0 := h6a.c0
        have d1 := h6a.c1
        have d2 := h6a.c2
        have d3 := h6a.c3
        have d4 := h6a.c4
        have d5 := h6a.c5
        have hLi := (hr i him).later hbw
        have hsz := hbw.size
        go_wp2_with fail
        refine (HI.out i him _ (A i) (hLi.later ((Below.refl _ _).alloc (by omega) _)) (by simp; omega)).mono ?_
        rintro e w3 ⟨rfl, hb3⟩
        have hbx := (hbr.alloc hbr.size _).trans (hb3.mono (by have := hbr.size; simp; omega))
        clear hb3
        obtain ⟨y, hy⟩ : ∃ y, R i = y := ⟨_, rfl⟩
        rw [hy]
        have HY : Hid (R i = y) := hy
        clear hy
        by_cases hy0 : y = 0
        · subst hy0
          go_wp2
          go_roundw
          case rel => exact ⟨i + 1, by omega, by go_num, fe_step HE.out HY.out, hbx⟩
          case measure => simp [intOf]; omega
        · have hy1 : (y != 0) = true := by simpa using hy0
          go_wp2
          go_ret
          rw [fe_at m him HE.out (by rw [HY.out]; exact hy0), HY.out]
          exact ⟨rfl, hb0.trans (hbx.mono hb0.size)⟩
      · obtain rfl : i = m := by omega
        go_wp2
        go_ret
        rw [HE.out]
        exact ⟨rfl, hb0.trans (hbr.mono hb0.size)⟩
  · have h66' : (k == 6) = false := by simpa using h66
    obtain ⟨W, hW⟩ : ∃ W, w1 = W := ⟨_, rfl⟩
    subst hW
    go_wp2_with fail
    go_loopw [32] (fun c32 wr => ∃ i : Nat, i ≤ m ∧ c32 = .int .i64 (i : Int) ∧ fe i R = 0 ∧ Below w1.heap.size w1 wr) (fun c32 _ => m - (intOf c32).toNat)
    case atStart => exact ⟨0, by omega, rfl, rfl, Below.refl _ _⟩
    case round =>
      obtain ⟨i, hi, rfl, hfe, hbr⟩ := hrel
      have HE : Hid (fe i R = 0) := hfe
      clear hfe
      by_cases him : i < m
      · have him' : (i : Int) < (m : Int) := by omega
        obtain ⟨pb, po, rfl, hpb, hat⟩ := HP.out (by omega)
        have hbw : Below B w wr := (hb0.mono hB).trans (hbr.mono (by have := hb0.size; omega))
        have h6a := (hat i him).later hpb hbw
        have d0 := h6a.c0
        have d1 := h6a.c1
        have d2 := h6a.c2
        have d3 := h6a.c3
        have d4 := h6a.c4
        have d5 := h6a.c5
        have hLi := (hr i him).later hbw
        have hsz := hbw.size
        go_wp2_with fail
        refine (HI.out i him _ (A i) (hLi.later ((Below.refl _ _).alloc (by omega) _)) (by simp; omega)).mono ?_
        rintro e w3 ⟨rfl, hb3⟩
        have hbx := (hbr.alloc hbr.size _).trans (hb3.mono (by have := hbr.size; simp; omega))
        clear hb3
        obtain ⟨y, hy⟩ : ∃ y, R i = y := ⟨_, rfl⟩
        rw [hy]
        have HY : Hid (R i = y) := hy
        clear hy
        by_cases hy0 : y = 0
        · subst hy0
          go_wp2
          go_roundw
          case rel => exact ⟨i + 1, by omega, by go_num, fe_step HE.out HY.out, hbx⟩
          case measure => simp [intOf]; omega
        · have hy1 : (y != 0) = true := by simpa using hy0
          go_wp2
          go_ret
          rw [fe_at m him HE.out (by rw [HY.out]; exact hy0), HY.out]
          exact ⟨rfl, hb0.trans (hbx.mono hb0.size)⟩
      · obtain rfl : i = m := by omega
        go_wp2
        go_ret
        rw [HE.out]
        exact ⟨rfl, hb0.trans (hbr.mono hb0.size)⟩
set_option maxHeartbeats 4000000 in
theorem sound_any (t : Tr) : ∀ (B : Nat) (w : World) (x : Ad) (d : Int), 0 ≤ d → d < 9223372036854775808 → Lies B w t x → B ≤ w.heap.size →
    Calls Try.prog 37 #[t.val x, .int .i64 d] w fun e w' => e = .returned (.int .i64 (soundT t d)) ∧ Below w.heap.size w w' := by
  induction t with
  | no => exact fun _ _ _ _ _ _ hL _ => hL.no.elim
  | mk k b n s m f q g ih =>
    intro B w x d h0 h63 hL hB
    by_cases h8 : 8 < d
    · have hS : soundT (.mk k b n s m f q g) d = 30 := by unfold soundT; rw [if_pos h8]
      rw [hS]
      obtain ⟨pa, pc, na, nc⟩ := x
      show Calls Try.prog 37 #[.agg #[.int .i64 k, .bool b, .int .i64 n, .string s, .slice pa m pc, .slice na q nc], .int .i64 d] w _
      go_enter Try.func37, Try.ntmps37
      go_wp2
      go_ret
      exact ⟨rfl, (Below.refl _ _).alloc (Nat.le_refl _) _⟩
    · cases hf : formedB k b n s m q with
      | false =>
        have hS : soundT (.mk k b n s m f q g) d = 6 := by unfold soundT; rw [if_neg h8, if_pos hf]
        rw [hS]
        have hfm := fun (W : World) => formed_any (.mk k b n s m f q g) x W
        rw [show Tr.formed (.mk k b n s m f q g) = false from hf] at hfm
        obtain ⟨pa, pc, na, nc⟩ := x
        have hV : (Tr.mk k b n s m f q g).val ⟨pa, pc, na, nc⟩ = .agg #[.int .i64 k, .bool b, .int .i64 n, .string s, .slice pa m pc, .slice na q nc] := rfl
        rw [hV] at hfm ⊢
        have h8' : d ≤ 8 := by omega
        go_enter Try.func37, Try.ntmps37
        go_wp2_with fail
        refine (hfm _).mono ?_
        rintro e w1 ⟨rfl, hb1⟩
        go_wp2
        go_ret
        exact ⟨rfl, ((Below.refl _ w).alloc (Nat.le_refl _) _).trans (hb1.mono (by simp))⟩
      | true =>
        by_cases h32 : 32 < m
        · have hS : soundT (.mk k b n s m f q g) d = 3 := by unfold soundT; rw [if_neg h8, if_neg (by rw [hf]; decide), if_pos h32]
          rw [hS]
          have hfm := fun (W : World) => formed_any (.mk k b n s m f q g) x W
          rw [show Tr.formed (.mk k b n s m f q g) = true from hf] at hfm
          obtain ⟨pa, pc, na, nc⟩ := x
          have hV : (Tr.mk k b n s m f q g).val ⟨pa, pc, na, nc⟩ = .agg #[.int .i64 k, .bool b, .int .i64 n, .string s, .slice pa m pc, .slice na q nc] := rfl
          rw [hV] at hfm ⊢
          have h8' : d ≤ 8 := by omega
          have h32' : (32 : Int) < (m : Int) := by omega
          go_enter Try.func37, Try.ntmps37
          go_wp2_with fail
          refine (hfm _).mono ?_
          rintro e w1 ⟨rfl, hb1⟩
          have hrow := (hb1.block w.heap.size (by simp)).trans (heap_alloc_new w (.cells #[.int .i64 k, .bool b, .int .i64 n, .string s, .slice pa m pc, .slice na q nc] 25))
          have c4 := cell_of_row w1 _ 4 _ _ _ hrow
          go_wp2
          go_ret
          exact ⟨rfl, ((Below.refl _ w).alloc (Nat.le_refl _) _).trans (hb1.mono (by simp))⟩
        · by_cases h6 : k = 6 ∧ namedB q m g = false
          · obtain ⟨rfl, hnf⟩ := h6
            have hS : soundT (.mk 6 b n s m f q g) d = 31 := by unfold soundT; rw [if_neg h8, if_neg (by rw [hf]; decide), if_neg h32, if_pos ⟨rfl, hnf⟩]
            rw [hS]
            have hfm := fun (W : World) => formed_any (.mk 6 b n s m f q g) x W
            rw [show Tr.formed (.mk 6 b n s m f q g) = true from hf] at hfm
            have hnm := fun (W : World) (hb : Below B w W) (hs : B ≤ W.heap.size) => named_any (t := .mk 6 b n s m f q g) (x := x) ((hL.lims).2.2.2.2.later hb) hs
            rw [show (Tr.mk 6 b n s m f q g).q = q from rfl, show (Tr.mk 6 b n s m f q g).m = m from rfl, show (Tr.mk 6 b n s m f q g).g = g from rfl, hnf] at hnm
            obtain ⟨pa, pc, na, nc⟩ := x
            have hV : (Tr.mk 6 b n s m f q g).val ⟨pa, pc, na, nc⟩ = .agg #[.int .i64 6, .bool b, .int .i64 n, .string s, .slice pa m pc, .slice na q nc] := rfl
            rw [hV] at hfm hnm ⊢
            have h8' : d ≤ 8 := by omega
            have h32' : (m : Int) ≤ 32 := by omega
            go_enter Try.func37, Try.ntmps37
            go_wp2_with fail
            refine (hfm _).mono ?_
            rintro e w1 ⟨rfl, hb1⟩
            have hrow := (hb1.block w.heap.size (by simp)).trans (heap_alloc_new w (.cells #[.int .i64 6, .bool b, .int .i64 n, .string s, .slice pa m pc, .slice na q nc] 25))
            have hb0 : Below w.heap.size w w1 := ((Below.refl _ w).alloc (Nat.le_refl _) _).trans (hb1.mono (by simp))
            have c0 := cell_of_row w1 _ 0 _ _ _ hrow
            have c1 := cell_of_row w1 _ 1 _ _ _ hrow
            have c2 := cell_of_row w1 _ 2 _ _ _ hrow
            have c3 := cell_of_row w1 _ 3 _ _ _ hrow
            have c4 := cell_of_row w1 _ 4 _ _ _ hrow
            have c5 := cell_of_row w1 _ 5 _ _ _ hrow
            go_wp2_with fail
            refine (hnm _ (hb0.mono hB) (by have := hb0.size; omega)).mono ?_
            rintro e w2 ⟨rfl, hb2⟩
            go_wp2
            go_ret
            exact ⟨rfl, hb0.trans (hb2.mono hb0.size)⟩
          · have hS : soundT (.mk k b n s m f q g) d = fe m (fun i => soundT (f i) (d + 1)) := by rw [soundT, if_neg h8, if_neg (by rw [hf]; decide), if_neg h32, if_neg h6]
            rw [hS]
            exact sound_in d h0 h8 hL hB hf h32 h6 (fun i _ w A hA hBw => ih i B w A (d + 1) (by omega) (by omega) hA hBw)
end Go.Proofs.Ytjmjlijmeahmfaa
