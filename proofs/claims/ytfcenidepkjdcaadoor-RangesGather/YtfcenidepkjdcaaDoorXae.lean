/- The first error of a value that stands within so many (sound). The bytes of a number (Uint): of any number the call returns the bytes that the plain facts have, and nothing that was there has changed. -/
import Derived.Test.YtfcenidepkjdcaaDoorXad
import Derived.Test.YtfcenidepkjdcaaDoorXab
import Derived.WalkKit
import Derived.WalkSpells
import Derived.WalkLawsBesides
import Derived.Deep.QuietTactic
import Derived.BigQuiet
import Derived.Lib.Strings
import Derived.Laws.BitsAllLaws
namespace Go.Proofs.YtfcenidepkjdcaaDoor.V
open Go.RowKit
def fe : Nat → (Nat → Int) → Int
  | 0, _ => 0
  | m + 1, F => if fe m F = 0 then F m else fe m F
set_option maxRecDepth 100000 in
theorem fe_at {F : Nat → Int} {i : Nat} : ∀ m, i < m → fe i F = 0 → F i ≠ 0 → fe m F = F i
  | 0, h, _, _ => by omega
  | m + 1, h, h1, h2 => by
    show (if fe m F = 0 then F m else fe m F) = F i
    rcases Nat.lt_or_ge i m with k | k
    · have e := fe_at m k h1 h2
      rw [e, if_neg h2]
    · obtain rfl : i = m := by omega
      rw [if_pos h1]
set_option maxRecDepth 100000 in
theorem fe_step {F : Nat → Int} {i : Nat} (h : fe i F = 0) (h1 : F i = 0) : fe (i + 1) F = 0 := by
  show (if fe i F = 0 then F i else fe i F) = 0
  rw [if_pos h, h1]
def soundT : Tr → Int → Int
  | .no, _ => 0
  | .mk k b n s m f q g, d =>
    if 8 < d then 30 else if formedB k b n s m q = false then 6 else if 32 < m then 3 else if k = 6 ∧ namedB q m g = false then 31
    else fe m (fun i => soundT (f i) (d + 1))
set_option maxRecDepth 100000 in
set_option maxHeartbeats 4000000 in
theorem sound_in {B : Nat} {w : World} {k : Int} {b : Bool} {n : Int} {s : ByteArray} {m : Nat} {f : Nat → Tr} {q : Nat} {g : Nat → ByteArray} {x : Ad} (d : Int) (h0 : 0 ≤ d) (h8 : ¬ 8 < d)
    (hL : Lies B w (.mk k b n s m f q g) x) (hB : B ≤ w.heap.size) (hf : formedB k b n s m q = true) (h32 : ¬ 32 < m) (h6 : ¬ (k = 6 ∧ namedB q m g = false))
    (ih : ∀ i, i < m → ∀ (w : World) (A : Ad), Lies B w (f i) A → B ≤ w.heap.size → Calls Tryd.prog 56 #[(f i).val A, .int .i64 (d + 1)] w fun e w' => e = .returned (.int .i64 (soundT (f i) (d + 1))) ∧ Below w.heap.size w w') :
    Calls Tryd.prog 56 #[(Tr.mk k b n s m f q g).val x, .int .i64 d] w fun e w' => e = .returned (.int .i64 (fe m (fun i => soundT (f i) (d + 1)))) ∧ Below w.heap.size w w' := by
  have hfm := fun (W : World) => formed_any (.mk k b n s m f q g) x W
  have hF : Tr.formed (.mk k b n s m f q g) = true := hf
  have hnm := fun (W : World) (hb : Below B w W) (hs : B ≤ W.heap.size) => named_any (t := .mk k b n s m f q g) (x := x) ((hL.lims).2.2.2.2.later hb) hs
  obtain ⟨A, hp, hr⟩ := hL.part
  obtain ⟨pa, pc, na, nc⟩ := x
  obtain ⟨R, hR⟩ : ∃ R : Nat → Int, (fun i => soundT (f i) (d + 1)) = R := ⟨_, rfl⟩
  have hRi : ∀ i, soundT (f i) (d + 1) = R i := fun i => congrFun hR i
  rw [hR]
  clear hR
  simp only [hRi] at ih
  rw [hF] at hfm
  have hd : IntKind.i64.wrap (d + 1) = d + 1 := by rw [IntKind.wrap_i64]; omega
  have h8' : d ≤ 8 := by omega
  have h32' : (m : Int) ≤ 32 := by omega
  have hV : (Tr.mk k b n s m f q g).val ⟨pa, pc, na, nc⟩ = .agg #[.int .i64 k, .bool b, .int .i64 n, .string s, .slice pa m pc, .slice na q nc] := rfl
  rw [hV] at hfm hnm ⊢
  clear hV hF hf
  have HI : Hid (∀ i, i < m → ∀ (w : World) (A : Ad), Lies B w (f i) A → B ≤ w.heap.size → Calls Tryd.prog 56 #[(f i).val A, .int .i64 (d + 1)] w fun e w' => e = .returned (.int .i64 (R i)) ∧ Below w.heap.size w w') := ih
  clear ih hRi
  have HP : Hid (0 < m → ∃ b o, pa = some ⟨b, o, none⟩ ∧ b < B ∧ ∀ i, i < m → At6 w b (o + i * 6) (f i) (A i)) := hp
  clear hp
  go_enter Tryd.func56, Tryd.ntmps56
  go_wp2_with fail
  refine (hfm _).mono ?_
  rintro e w1 ⟨rfl, hb1⟩
  have hrow := (hb1.block w.heap.size (by simp)).trans (heap_alloc_new w (.cells #[.int .i64 k, .bool b, .int .i64 n, .string s, .slice pa m pc, .slice na q nc] 29))
  have hb0 : Below w.heap.size w w1 := ((Below.refl _ w).alloc (Nat.le_refl _) _).trans (hb1.mono (by simp))
  have c0 := cell_of_row w1 _ 0 _ _ _ hrow
  have c1 := cell_of_row w1 _ 1 _ _ _ hrow
  have c2 := cell_of_row w1 _ 2 _ _ _ hrow
  have c3 := cell_of_row w1 _ 3 _ _ _ hrow
  have c4 := cell_of_row w1 _ 4 _ _ _ hrow
  have c5 := cell_of_row w1 _ 5 _ _ _ hrow
  by_cases h66 : k = 6
  · subst h66
    have hnt : namedB q m g = true := by
      cases h : namedB q m g with
      | true => rfl
      | false => exact absurd ⟨rfl, h⟩ h6
    rw [show (Tr.mk 6 b n s m f q g).q = q from rfl, show (Tr.mk 6 b n s m f q g).m = m from rfl, show (Tr.mk 6 b n s m f q g).g = g from rfl, hnt] at hnm
    go_wp2_with fail
    refine (hnm _ (hb0.mono hB) (by have := hb0.size; omega)).mono ?_
    rintro e W ⟨rfl, hb2⟩
    replace hb0 := hb0.trans (hb2.mono hb0.size)
    clear c0 c1 c2 c3 c4 c5 hrow
    have c4 := cell_of_row W _ 4 _ _ _ ((hb2.block w.heap.size (by have := hb1.size; simp at this; omega)).trans ((hb1.block w.heap.size (by simp)).trans (heap_alloc_new w (.cells #[.int .i64 6, .bool b, .int .i64 n, .string s, .slice pa m pc, .slice na q nc] 29))))
    go_wp2_with fail
    go_loopw [32] (fun c32 wr => ∃ i : Nat, i ≤ m ∧ c32 = .int .i64 (i : Int) ∧ fe i R = 0 ∧ Below W.heap.size W wr) (fun c32 _ => m - (intOf c32).toNat)
    case atStart => exact ⟨0, by omega, rfl, rfl, Below.refl _ _⟩
    case round =>
      obtain ⟨i, hi, rfl, hfe, hbr⟩ := hrel
      have HE : Hid (fe i R = 0) := hfe
      clear hfe
      by_cases him : i < m
      · have him' : (i : Int) < (m : Int) := by omega
        obtain ⟨pb, po, rfl, hpb, hat⟩ := HP.out (by omega)
        have hbw : Below B w wr := (hb0.mono hB).trans (hbr.mono (by have := hb0.size; omega))
        have h6a := (hat i him).later hpb hbw
        have d0 := h6a.c0
        have d1 := h6a.c1
        have d2 := h6a.c2
        have d3 := h6a.c3
        have d4 := h6a.c4
        have d5 := h6a.c5
        have hLi := (hr i him).later hbw
        have hsz := hbw.size
        go_wp2_with fail
        refine (HI.out i him _ (A i) (hLi.later ((Below.refl _ _).alloc (by omega) _)) (by simp; omega)).mono ?_
        rintro e w3 ⟨rfl, hb3⟩
        have hbx := (hbr.alloc hbr.size _).trans (hb3.mono (by have := hbr.size; simp; omega))
        clear hb3
        obtain ⟨y, hy⟩ : ∃ y, R i = y := ⟨_, rfl⟩
        rw [hy]
        have HY : Hid (R i = y) := hy
        clear hy
        by_cases hy0 : y = 0
        · subst hy0
          go_wp2
          go_roundw
          case rel => exact ⟨i + 1, by omega, by go_num, fe_step HE.out HY.out, hbx⟩
          case measure => simp [intOf]; omega
        · have hy1 : (y != 0) = true := by simpa using hy0
          go_wp2
          go_ret
          rw [fe_at m him HE.out (by rw [HY.out]; exact hy0), HY.out]
          exact ⟨rfl, hb0.trans (hbx.mono hb0.size)⟩
      · obtain rfl : i = m := by omega
        go_wp2
        go_ret
        rw [HE.out]
        exact ⟨rfl, hb0.trans (hbr.mono hb0.size)⟩
  · have h66' : (k == 6) = false := by simpa using h66
    obtain ⟨W, hW⟩ : ∃ W, w1 = W := ⟨_, rfl⟩
    subst hW
    go_wp2_with fail
    go_loopw [32] (fun c32 wr => ∃ i : Nat, i ≤ m ∧ c32 = .int .i64 (i : Int) ∧ fe i R = 0 ∧ Below w1.heap.size w1 wr) (fun c32 _ => m - (intOf c32).toNat)
    case atStart => exact ⟨0, by omega, rfl, rfl, Below.refl _ _⟩
    case round =>
      obtain ⟨i, hi, rfl, hfe, hbr⟩ := hrel
      have HE : Hid (fe i R = 0) := hfe
      clear hfe
      by_cases him : i < m
      · have him' : (i : Int) < (m : Int) := by omega
        obtain ⟨pb, po, rfl, hpb, hat⟩ := HP.out (by omega)
        have hbw : Below B w wr := (hb0.mono hB).trans (hbr.mono (by have := hb0.size; omega))
        have h6a := (hat i him).later hpb hbw
        have d0 := h6a.c0
        have d1 := h6a.c1
        have d2 := h6a.c2
        have d3 := h6a.c3
        have d4 := h6a.c4
        have d5 := h6a.c5
        have hLi := (hr i him).later hbw
        have hsz := hbw.size
        go_wp2_with fail
        refine (HI.out i him _ (A i) (hLi.later ((Below.refl _ _).alloc (by omega) _)) (by simp; omega)).mono ?_
        rintro e w3 ⟨rfl, hb3⟩
        have hbx := (hbr.alloc hbr.size _).trans (hb3.mono (by have := hbr.size; simp; omega))
        clear hb3
        obtain ⟨y, hy⟩ : ∃ y, R i = y := ⟨_, rfl⟩
        rw [hy]
        have HY : Hid (R i = y) := hy
        clear hy
        by_cases hy0 : y = 0
        · subst hy0
          go_wp2
          go_roundw
          case rel => exact ⟨i + 1, by omega, by go_num, fe_step HE.out HY.out, hbx⟩
          case measure => simp [intOf]; omega
        · have hy1 : (y != 0) = true := by simpa using hy0
          go_wp2
          go_ret
          rw [fe_at m him HE.out (by rw [HY.out]; exact hy0), HY.out]
          exact ⟨rfl, hb0.trans (hbx.mono hb0.size)⟩
      · obtain rfl : i = m := by omega
        go_wp2
        go_ret
        rw [HE.out]
        exact ⟨rfl, hb0.trans (hbr.mono hb0.size)⟩
set_option maxRecDepth 100000 in
set_option maxHeartbeats 4000000 in
theorem sound_any (t : Tr) : ∀ (B : Nat) (w : World) (x : Ad) (d : Int), 0 ≤ d → d < 9223372036854775808 → Lies B w t x → B ≤ w.heap.size →
    Calls Tryd.prog 56 #[t.val x, .int .i64 d] w fun e w' => e = .returned (.int .i64 (soundT t d)) ∧ Below w.heap.size w w' := by
  induction t with
  | no => exact fun _ _ _ _ _ _ hL _ => hL.no.elim
  | mk k b n s m f q g ih =>
    intro B w x d h0 h63 hL hB
    by_cases h8 : 8 < d
    · have hS : soundT (.mk k b n s m f q g) d = 30 := by unfold soundT; rw [if_pos h8]
      rw [hS]
      obtain ⟨pa, pc, na, nc⟩ := x
      show Calls Tryd.prog 56 #[.agg #[.int .i64 k, .bool b, .int .i64 n, .string s, .slice pa m pc, .slice na q nc], .int .i64 d] w _
      go_enter Tryd.func56, Tryd.ntmps56
      go_wp2
      go_ret
      exact ⟨rfl, (Below.refl _ _).alloc (Nat.le_refl _) _⟩
    · cases hf : formedB k b n s m q with
      | false =>
        have hS : soundT (.mk k b n s m f q g) d = 6 := by unfold soundT; rw [if_neg h8, if_pos hf]
        rw [hS]
        have hfm := fun (W : World) => formed_any (.mk k b n s m f q g) x W
        rw [show Tr.formed (.mk k b n s m f q g) = false from hf] at hfm
        obtain ⟨pa, pc, na, nc⟩ := x
        have hV : (Tr.mk k b n s m f q g).val ⟨pa, pc, na, nc⟩ = .agg #[.int .i64 k, .bool b, .int .i64 n, .string s, .slice pa m pc, .slice na q nc] := rfl
        rw [hV] at hfm ⊢
        have h8' : d ≤ 8 := by omega
        go_enter Tryd.func56, Tryd.ntmps56
        go_wp2_with fail
        refine (hfm _).mono ?_
        rintro e w1 ⟨rfl, hb1⟩
        go_wp2
        go_ret
        exact ⟨rfl, ((Below.refl _ w).alloc (Nat.le_refl _) _).trans (hb1.mono (by simp))⟩
      | true =>
        by_cases h32 : 32 < m
        · have hS : soundT (.mk k b n s m f q g) d = 3 := by unfold soundT; rw [if_neg h8, if_neg (by rw [hf]; decide), if_pos h32]
          rw [hS]
          have hfm := fun (W : World) => formed_any (.mk k b n s m f q g) x W
          rw [show Tr.formed (.mk k b n s m f q g) = true from hf] at hfm
          obtain ⟨pa, pc, na, nc⟩ := x
          have hV : (Tr.mk k b n s m f q g).val ⟨pa, pc, na, nc⟩ = .agg #[.int .i64 k, .bool b, .int .i64 n, .string s, .slice pa m pc, .slice na q nc] := rfl
          rw [hV] at hfm ⊢
          have h8' : d ≤ 8 := by omega
          have h32' : (32 : Int) < (m : Int) := by omega
          go_enter Tryd.func56, Tryd.ntmps56
          go_wp2_with fail
          refine (hfm _).mono ?_
          rintro e w1 ⟨rfl, hb1⟩
          have hrow := (hb1.block w.heap.size (by simp)).trans (heap_alloc_new w (.cells #[.int .i64 k, .bool b, .int .i64 n, .string s, .slice pa m pc, .slice na q nc] 29))
          have c4 := cell_of_row w1 _ 4 _ _ _ hrow
          go_wp2
          go_ret
          exact ⟨rfl, ((Below.refl _ w).alloc (Nat.le_refl _) _).trans (hb1.mono (by simp))⟩
        · by_cases h6 : k = 6 ∧ namedB q m g = false
          · obtain ⟨rfl, hnf⟩ := h6
            have hS : soundT (.mk 6 b n s m f q g) d = 31 := by unfold soundT; rw [if_neg h8, if_neg (by rw [hf]; decide), if_neg h32, if_pos ⟨rfl, hnf⟩]
            rw [hS]
            have hfm := fun (W : World) => formed_any (.mk 6 b n s m f q g) x W
            rw [show Tr.formed (.mk 6 b n s m f q g) = true from hf] at hfm
            have hnm := fun (W : World) (hb : Below B w W) (hs : B ≤ W.heap.size) => named_any (t := .mk 6 b n s m f q g) (x := x) ((hL.lims).2.2.2.2.later hb) hs
            rw [show (Tr.mk 6 b n s m f q g).q = q from rfl, show (Tr.mk 6 b n s m f q g).m = m from rfl, show (Tr.mk 6 b n s m f q g).g = g from rfl, hnf] at hnm
            obtain ⟨pa, pc, na, nc⟩ := x
            have hV : (Tr.mk 6 b n s m f q g).val ⟨pa, pc, na, nc⟩ = .agg #[.int .i64 6, .bool b, .int .i64 n, .string s, .slice pa m pc, .slice na q nc] := rfl
            rw [hV] at hfm hnm ⊢
            have h8' : d ≤ 8 := by omega
            have h32' : (m : Int) ≤ 32 := by omega
            go_enter Tryd.func56, Tryd.ntmps56
            go_wp2_with fail
            refine (hfm _).mono ?_
            rintro e w1 ⟨rfl, hb1⟩
            have hrow := (hb1.block w.heap.size (by simp)).trans (heap_alloc_new w (.cells #[.int .i64 6, .bool b, .int .i64 n, .string s, .slice pa m pc, .slice na q nc] 29))
            have hb0 : Below w.heap.size w w1 := ((Below.refl _ w).alloc (Nat.le_refl _) _).trans (hb1.mono (by simp))
            have c0 := cell_of_row w1 _ 0 _ _ _ hrow
            have c1 := cell_of_row w1 _ 1 _ _ _ hrow
            have c2 := cell_of_row w1 _ 2 _ _ _ hrow
            have c3 := cell_of_row w1 _ 3 _ _ _ hrow
            have c4 := cell_of_row w1 _ 4 _ _ _ hrow
            have c5 := cell_of_row w1 _ 5 _ _ _ hrow
            go_wp2_with fail
            refine (hnm _ (hb0.mono hB) (by have := hb0.size; omega)).mono ?_
            rintro e w2 ⟨rfl, hb2⟩
            go_wp2
            go_ret
            exact ⟨rfl, hb0.trans (hb2.mono hb0.size)⟩
          · have hS : soundT (.mk k b n s m f q g) d = fe m (fun i => soundT (f i) (d + 1)) := by rw [soundT, if_neg h8, if_neg (by rw [hf]; decide), if_neg h32, if_neg h6]
            rw [hS]
            exact sound_in d h0 h8 hL hB hf h32 h6 (fun i _ w A hA hBw => ih i B w A (d + 1) (by omega) (by omega) hA hBw)
end Go.Proofs.YtfcenidepkjdcaaDoor.V
namespace Go.Proofs.YtfcenidepkjdcaaDoor.V
open Go.RowKit
def bcs (l : List UInt8) : Array Value := (Lib.byteCells l).toArray
set_option maxRecDepth 100000 in
theorem bcs_get (l : List UInt8) (i : Nat) (hi : i < l.length) : (bcs l)[i]? = some (.int .u8 ((l.getD i 0).toNat : Int)) := by
  simp [bcs, Lib.byteCells, List.getD_eq_getElem?_getD, hi]
set_option maxRecDepth 100000 in
theorem bcs_set (l : List UInt8) (n : Nat) (b : UInt8) : (bcs l).setIfInBounds n (.int .u8 (b.toNat : Int)) = bcs (l.set n b) := by
  unfold bcs Lib.byteCells
  rw [List.map_set, List.setIfInBounds_toArray]
set_option maxRecDepth 100000 in
theorem brow_cell {W : World} {g : Nat} {l : List UInt8} {t : TypeId} {fr : Nat × Nat} (h : W.heap[g]? = some (.cells (bcs l) t fr)) (i : Nat) (hi : i < l.length) : W.cell? ⟨g, i, none⟩ = some (.int .u8 ((l.getD i 0).toNat : Int)) := by
  rw [cell_of_row W g i _ t fr h, bcs_get l i hi]
set_option maxRecDepth 100000 in
theorem brow_set {W : World} {g : Nat} {l : List UInt8} {t : TypeId} (h : W.heap[g]? = some (.cells (bcs l) t (0, 0))) (n : Nat) (b : UInt8) (v : Int) (hv : v = (b.toNat : Int)) :
    (W.setCell ⟨g, n, none⟩ (.int .u8 v)).heap[g]? = some (.cells (bcs (l.set n b)) t (0, 0)) := by
  rw [row_setCell h, hv, bcs_set]
def padz (m : Nat) (l : List UInt8) : List UInt8 := l ++ List.replicate (m - l.length) 0
set_option maxRecDepth 100000 in
theorem padz_len (m : Nat) (l : List UInt8) (h : l.length ≤ m) : (padz m l).length = m := by simp [padz]; omega
set_option maxRecDepth 100000 in
theorem padz_set (m : Nat) (l : List UInt8) (x : UInt8) (n : Nat) (hn : n = l.length) (h : l.length < m) : (padz m l).set n x = padz m (l ++ [x]) := by
  subst hn
  unfold padz
  obtain ⟨q, hq⟩ : ∃ q, m - l.length = q + 1 := ⟨m - l.length - 1, by omega⟩
  have hq' : m - (l ++ [x]).length = q := by simp; omega
  rw [hq, hq', List.set_append_right _ _ (Nat.le_refl _), Nat.sub_self, List.replicate_succ, List.set_cons_zero]
  simp
set_option maxRecDepth 100000 in
theorem padz_get (m : Nat) (l : List UInt8) (j : Nat) (h : j < l.length) : (padz m l).getD j 0 = l[j] := by
  unfold padz
  rw [List.getD_eq_getElem?_getD, List.getElem?_append_left h, List.getElem?_eq_getElem h]
  rfl
set_option maxRecDepth 100000 in
theorem zero10 : (#[Value.int IntKind.u8 0, Value.int IntKind.u8 0, Value.int IntKind.u8 0, Value.int IntKind.u8 0, Value.int IntKind.u8 0, Value.int IntKind.u8 0, Value.int IntKind.u8 0, Value.int IntKind.u8 0, Value.int IntKind.u8 0, Value.int IntKind.u8 0] : Array Value) = bcs (padz 10 []) := rfl
set_option maxRecDepth 100000 in
theorem or128 {n : Nat} : bits BinOp.or IntKind.u8 (IntKind.u8.wrap (n : Int)) 128 = ((UInt8.ofNat (n % 128 + 128)).toNat : Int) := by
  rw [toNat_ofNat_lt (by omega), IntKind.wrap_u8']
  have e : ((n : Int) % 256) = ((n % 256 : Nat) : Int) := by omega
  have e2 : (128 : Int) = ((128 : Nat) : Int) := rfl
  rw [e, e2, u8_or_nat _ _ (by omega) (by omega)]
  congr 1
  have h : ∀ m : Nat, m < 256 → m ||| 128 = m % 128 + 128 := by decide +kernel
  rw [h _ (by omega)]
  omega
set_option maxRecDepth 100000 in
theorem slice10 (g i : Nat) (hi : i ≤ 9) (W : World) : (Instr.sliceAt 119 (.pointer (some ⟨g, 0, none⟩)) none (some (.int .i64 ((i : Int) + 1))) none).run Tryd.prog W = .ok (.slice (some ⟨g, 0, none⟩) (i + 1) 10) W := by
  have e10 : Tryd.prog.arrayLen 119 = 10 := by kernel_rfl
  have hs : (sizeOf (Tryd.prog.elem 119)).run Tryd.prog W = .ok 1 W := by kernel_rfl
  rw [run_sliceAt_array_h W 119 ⟨g, 0, none⟩ (by kernel_rfl) .i64 ((i : Int) + 1) (by omega) (by rw [e10]; omega), hs, e10]
  show Result.ok (slicedAt ⟨g, 0, none⟩ 0 ((i : Int) + 1).toNat 10 1) W = _
  have e : ((i : Int) + 1).toNat = i + 1 := by omega
  rw [e]
  rfl
set_option maxRecDepth 100000 in
theorem conv_put {W : World} {g : Nat} {P : List UInt8} (H : W.heap[g]? = some (.cells (bcs (padz 10 P)) 119 (0, 0))) (hP : P.length ≤ 10) (k : Nat) (hk : k = P.length) :
    (convert 88 9 (.slice (some ⟨g, 0, none⟩) k 10)).run Tryd.prog W = .ok (.string ⟨P.toArray⟩) W := by
  subst hk
  have hl := padz_len 10 P hP
  refine run_convert_bytes_back (P := Tryd.prog) W 88 9 5 ⟨g, 0, none⟩ 10 P Tryd.underlying88 Tryd.underlying5 Tryd.underlying9 (fun j hj => ?_)
  have e : (⟨g, 0, none⟩ : Addr).add j = ⟨g, j, none⟩ := by unfold Addr.add; split <;> simp_all
  rw [e, brow_cell H j (by omega), padz_get 10 P j hj]
set_option maxRecDepth 100000 in
theorem put_step {W : World} {g i : Nat} {P : List UInt8} (H : W.heap[g]? = some (.cells (bcs (padz 10 P)) 119 (0, 0))) (hP : P.length = i) (hi : i ≤ 9) (x : UInt8) (v : Int) (hv : v = (x.toNat : Int)) :
    (W.setCell ⟨g, i, none⟩ (.int .u8 v)).heap[g]? = some (.cells (bcs (padz 10 (P ++ [x]))) 119 (0, 0)) := by
  rw [brow_set H i x v hv, padz_set 10 P x i hP.symm (by omega)]
set_option maxRecDepth 100000 in
theorem or128' {n : Nat} : bits BinOp.or IntKind.u8 ((n : Int) % 256) 128 = ((UInt8.ofNat (n % 128 + 128)).toNat : Int) := by
  rw [← or128, IntKind.wrap_u8']
set_option maxRecDepth 100000 in
theorem le9 {m i : Nat} (h : m * 128 ^ i < 18446744073709551616) (hm : 128 ≤ m) : i + 1 ≤ 9 := by
  rcases Nat.lt_or_ge i 9 with h9 | h9
  · exact h9
  · have h1 : (128 : Nat) ^ 9 ≤ 128 ^ i := Nat.pow_le_pow_right (by omega) h9
    have h2 : 128 * 128 ^ 9 ≤ m * 128 ^ i := Nat.mul_le_mul hm h1
    have h3 : (128 : Nat) * 128 ^ 9 = 1180591620717411303424 := by decide
    omega
set_option maxRecDepth 100000 in
theorem next64 {m i : Nat} (h : m * 128 ^ i < 18446744073709551616) : m / 128 * 128 ^ (i + 1) < 18446744073709551616 := by
  have h1 : m / 128 * 128 ≤ m := Nat.div_mul_le_self m 128
  have h2 : m / 128 * 128 ^ (i + 1) = m / 128 * 128 * 128 ^ i := by rw [Nat.pow_succ, Nat.mul_comm (128 ^ i), Nat.mul_assoc]
  have h3 : m / 128 * 128 * 128 ^ i ≤ m * 128 ^ i := Nat.mul_le_mul_right _ h1
  omega
set_option maxRecDepth 100000 in
set_option maxHeartbeats 1000000 in
theorem put_any (n : Nat) (hn : n < 18446744073709551616) (w : World) :
    Calls Tryd.prog 83 #[.int .u64 (n : Int)] w fun e w' => e = .returned (.string ⟨(put n).toArray⟩) ∧ Below w.heap.size w w' := by
  go_enter Tryd.func83, Tryd.ntmps83
  go_wp2
  rw [zero10]
  have HN : Hid (put n = put n) := rfl
  go_loopw [0, 4] (fun c0 c4 wr => ∃ (m i : Nat) (P : List UInt8), P.length = i ∧ i ≤ 9 ∧ m * 128 ^ i < 18446744073709551616 ∧ P ++ put m = put n ∧ c0 = .int .u64 (m : Int) ∧ c4 = .int .i64 (i : Int) ∧ wr.heap[w.heap.size]? = some (.cells (bcs (padz 10 P)) 119 (0, 0)) ∧ Below w.heap.size w wr) (fun c0 _ _ => (intOf c0).toNat)
  case atStart =>
    exact ⟨n, 0, [], rfl, by omega, by simpa using hn, rfl, rfl, rfl, heap_alloc_new _ _, (Below.refl _ _).alloc (Nat.le_refl _) _⟩
  case round =>
    obtain ⟨m, i, P, hP, h9, hm, hput, rfl, rfl, hh, hb⟩ := hrel
    have HM : Hid (m * 128 ^ i < 18446744073709551616) := hm
    have HP : Hid (P ++ put m = put n) := hput
    have hm64 : m < 18446744073709551616 := by
      have : 1 ≤ 128 ^ i := Nat.one_le_pow _ _ (by omega)
      have : m * 1 ≤ m * 128 ^ i := Nat.mul_le_mul_left _ this
      omega
    have hpl := padz_len 10 P (by omega)
    have hc := brow_cell hh i (by omega)
    have hf := frozen_of_row wr _ i _ _ hh
    obtain ⟨v, hv⟩ : ∃ v : Int, (((padz 10 P).getD i 0).toNat : Int) = v := ⟨_, rfl⟩
    rw [hv] at hc
    clear hv hpl hm hput
    by_cases h128 : 128 ≤ m
    · have h128' : (128 : Int) ≤ (m : Int) := by omega
      have HS : Hid (P ++ [UInt8.ofNat (m % 128 + 128)] ++ put (m / 128) = put n) := by
        show _ = _
        rw [← HP.out, put_ge h128, List.append_assoc]; rfl
      clear HN
      go_wp2
      go_roundw
      case rel =>
        refine ⟨m / 128, i + 1, P ++ [UInt8.ofNat (m % 128 + 128)], by simp [hP], le9 HM.out h128, next64 HM.out, HS.out, by go_num, by go_num, put_step hh hP h9 _ _ or128', hb.setCell (by simp) _⟩
      case measure => simp [intOf]; omega
    · have h128' : ¬ (128 : Int) ≤ (m : Int) := by omega
      have hsl := fun W => slice10 w.heap.size i h9 W
      have hmw : IntKind.u8.wrap (m : Int) = (m : Int) := by rw [IntKind.wrap_u8']; omega
      have hrow := put_step hh hP h9 (UInt8.ofNat m) (m : Int) (by rw [toNat_ofNat_lt (by omega)])
      have hcv := conv_put hrow (by simp; omega) (i + 1) (by simp [hP])
      have HS : Hid (P ++ [UInt8.ofNat m] = put n) := by
        show _ = _
        rw [← HP.out, put_lt (by omega)]
      clear hrow HN
      go_wp2
      go_ret
      rw [HS.out]
      exact ⟨rfl, hb.setCell (by simp) _⟩
end Go.Proofs.YtfcenidepkjdcaaDoor.V
