/- The first error of a value that stands within so many (sound). The order of texts and of numbers (strings.Compare, cmp.Compare). The place of a name (slices.IndexFunc with the closure of Get). The order of names (slices.SortStableFunc with Struct's closure, up to 12 of them) and the place of a name (slices.IndexFunc with Get's): the library's contracts, laid in plain words. -/
import Derived.Test.YtniljoojoafiaaaGreatDoorXal
import Derived.Test.YtniljoojoafiaaaGreatDoorXaj
import Derived.Lib.Bytealg
import Derived.Laws.Externs
import Derived.BigGuardPart
import Derived.Test.YtniljoojoafiaaaGreatDoorXae
import Derived.Shelf.SlSortCmp.Insertion
import Derived.Shelf.SlicesE.IndexFunc
namespace Go.Proofs.YtniljoojoafiaaaGreatDoor.V
open Go.RowKit
def fe : Nat → (Nat → Int) → Int
  | 0, _ => 0
  | m + 1, F => if fe m F = 0 then F m else fe m F
set_option maxRecDepth 100000 in
theorem fe_at {F : Nat → Int} {i : Nat} : ∀ m, i < m → fe i F = 0 → F i ≠ 0 → fe m F = F i
  | 0, h, _, _ => by omega
  | m + 1, h, h1, h2 => by
    show (if fe m F = 0 then F m else fe m F) = F i
    rcases Nat.lt_or_ge i m with k | k
    · have e := fe_at m k h1 h2
      rw [e, if_neg h2]
    · obtain rfl : i = m := by omega
      rw [if_pos h1]
set_option maxRecDepth 100000 in
theorem fe_step {F : Nat → Int} {i : Nat} (h : fe i F = 0) (h1 : F i = 0) : fe (i + 1) F = 0 := by
  show (if fe i F = 0 then F i else fe i F) = 0
  rw [if_pos h, h1]
def soundT : Tr → Int → Int
  | .no, _ => 0
  | .mk k b n s m f q g, d =>
    if 8 < d then 30 else if formedB k b n s m q = false then 6 else if 32 < m then 3 else if k = 6 ∧ namedB q m g = false then 31
    else fe m (fun i => soundT (f i) (d + 1))
set_option maxRecDepth 100000 in
set_option maxHeartbeats 4000000 in
theorem sound_in {B : Nat} {w : World} {k : Int} {b : Bool} {n : Int} {s : ByteArray} {m : Nat} {f : Nat → Tr} {q : Nat} {g : Nat → ByteArray} {x : Ad} (d : Int) (h0 : 0 ≤ d) (h8 : ¬ 8 < d)
    (hL : Lies B w (.mk k b n s m f q g) x) (hB : B ≤ w.heap.size) (hf : formedB k b n s m q = true) (h32 : ¬ 32 < m) (h6 : ¬ (k = 6 ∧ namedB q m g = false))
    (ih : ∀ i, i < m → ∀ (w : World) (A : Ad), Lies B w (f i) A → B ≤ w.heap.size → Calls Tryz.prog 62 #[(f i).val A, .int .i64 (d + 1)] w fun e w' => e = .returned (.int .i64 (soundT (f i) (d + 1))) ∧ Below w.heap.size w w') :
    Calls Tryz.prog 62 #[(Tr.mk k b n s m f q g).val x, .int .i64 d] w fun e w' => e = .returned (.int .i64 (fe m (fun i => soundT (f i) (d + 1)))) ∧ Below w.heap.size w w' := by
  have hfm := fun (W : World) => formed_any (.mk k b n s m f q g) x W
  have hF : Tr.formed (.mk k b n s m f q g) = true := hf
  have hnm := fun (W : World) (hb : Below B w W) (hs : B ≤ W.heap.size) => named_any (t := .mk k b n s m f q g) (x := x) ((hL.lims).2.2.2.2.later hb) hs
  obtain ⟨A, hp, hr⟩ := hL.part
  obtain ⟨pa, pc, na, nc⟩ := x
  obtain ⟨R, hR⟩ : ∃ R : Nat → Int, (fun i => soundT (f i) (d + 1)) = R := ⟨_, rfl⟩
  have hRi : ∀ i, soundT (f i) (d + 1) = R i := fun i => congrFun hR i
  rw [hR]
  clear hR
  simp only [hRi] at ih
  rw [hF] at hfm
  have hd : IntKind.i64.wrap (d + 1) = d + 1 := by rw [IntKind.wrap_i64]; omega
  have h8' : d ≤ 8 := by omega
  have h32' : (m : Int) ≤ 32 := by omega
  have hV : (Tr.mk k b n s m f q g).val ⟨pa, pc, na, nc⟩ = .agg #[.int .i64 k, .bool b, .int .i64 n, .string s, .slice pa m pc, .slice na q nc] := rfl
  rw [hV] at hfm hnm ⊢
  clear hV hF hf
  have HI : Hid (∀ i, i < m → ∀ (w : World) (A : Ad), Lies B w (f i) A → B ≤ w.heap.size → Calls Tryz.prog 62 #[(f i).val A, .int .i64 (d + 1)] w fun e w' => e = .returned (.int .i64 (R i)) ∧ Below w.heap.size w w') := ih
  clear ih hRi
  have HP : Hid (0 < m → ∃ b o, pa = some ⟨b, o, none⟩ ∧ b < B ∧ ∀ i, i < m → At6 w b (o + i * 6) (f i) (A i)) := hp
  clear hp
  go_enter Tryz.func62, Tryz.ntmps62
  go_wp2_with fail
  refine (hfm _).mono ?_
  rintro e w1 ⟨rfl, hb1⟩
  have hrow := (hb1.block w.heap.size (by simp)).trans (heap_alloc_new w (.cells #[.int .i64 k, .bool b, .int .i64 n, .string s, .slice pa m pc, .slice na q nc] 34))
  have hb0 : Below w.heap.size w w1 := ((Below.refl _ w).alloc (Nat.le_refl _) _).trans (hb1.mono (by simp))
  have c0 := cell_of_row w1 _ 0 _ _ _ hrow
  have c1 := cell_of_row w1 _ 1 _ _ _ hrow
  have c2 := cell_of_row w1 _ 2 _ _ _ hrow
  have c3 := cell_of_row w1 _ 3 _ _ _ hrow
  have c4 := cell_of_row w1 _ 4 _ _ _ hrow
  have c5 := cell_of_row w1 _ 5 _ _ _ hrow
  by_cases h66 : k = 6
  · subst h66
    have hnt : namedB q m g = true := by
      cases h : namedB q m g with
      | true => rfl
      | false => exact absurd ⟨rfl, h⟩ h6
    rw [show (Tr.mk 6 b n s m f q g).q = q from rfl, show (Tr.mk 6 b n s m f q g).m = m from rfl, show (Tr.mk 6 b n s m f q g).g = g from rfl, hnt] at hnm
    go_wp2_with fail
    refine (hnm _ (hb0.mono hB) (by have := hb0.size; omega)).mono ?_
    rintro e W ⟨rfl, hb2⟩
    replace hb0 := hb0.trans (hb2.mono hb0.size)
    clear c0 c1 c2 c3 c4 c5 hrow
    have c4 := cell_of_row W _ 4 _ _ _ ((hb2.block w.heap.size (by have := hb1.size; simp at this; omega)).trans ((hb1.block w.heap.size (by simp)).trans (heap_alloc_new w (.cells #[.int .i64 6, .bool b, .int .i64 n, .string s, .slice pa m pc, .slice na q nc] 34))))
    go_wp2_with fail
    go_loopw [32] (fun c32 wr => ∃ i : Nat, i ≤ m ∧ c32 = .int .i64 (i : Int) ∧ fe i R = 0 ∧ Below W.heap.size W wr) (fun c32 _ => m - (intOf c32).toNat)
    case atStart => exact ⟨0, by omega, rfl, rfl, Below.refl _ _⟩
    case round =>
      obtain ⟨i, hi, rfl, hfe, hbr⟩ := hrel
      have HE : Hid (fe i R = 0) := hfe
      clear hfe
      by_cases him : i < m
      · have him' : (i : Int) < (m : Int) := by omega
        obtain ⟨pb, po, rfl, hpb, hat⟩ := HP.out (by omega)
        have hbw : Below B w wr := (hb0.mono hB).trans (hbr.mono (by have := hb0.size; omega))
        have h6a := (hat i him).later hpb hbw
        have d0 := h6a.c0
        have d1 := h6a.c1
        have d2 := h6a.c2
        have d3 := h6a.c3
        have d4 := h6a.c4
        have d5 := h6a.c5
        have hLi := (hr i him).later hbw
        have hsz := hbw.size
        go_wp2_with fail
        refine (HI.out i him _ (A i) (hLi.later ((Below.refl _ _).alloc (by omega) _)) (by simp; omega)).mono ?_
        rintro e w3 ⟨rfl, hb3⟩
        have hbx := (hbr.alloc hbr.size _).trans (hb3.mono (by have := hbr.size; simp; omega))
        clear hb3
        obtain ⟨y, hy⟩ : ∃ y, R i = y := ⟨_, rfl⟩
        rw [hy]
        have HY : Hid (R i = y) := hy
        clear hy
        by_cases hy0 : y = 0
        · subst hy0
          go_wp2
          go_roundw
          case rel => exact ⟨i + 1, by omega, by go_num, fe_step HE.out HY.out, hbx⟩
          case measure => simp [intOf]; omega
        · have hy1 : (y != 0) = true := by simpa using hy0
          go_wp2
          go_ret
          rw [fe_at m him HE.out (by rw [HY.out]; exact hy0), HY.out]
          exact ⟨rfl, hb0.trans (hbx.mono hb0.size)⟩
      · obtain rfl : i = m := by omega
        go_wp2
        go_ret
        rw [HE.out]
        exact ⟨rfl, hb0.trans (hbr.mono hb0.size)⟩
  · have h66' : (k == 6) = false := by simpa using h66
    obtain ⟨W, hW⟩ : ∃ W, w1 = W := ⟨_, rfl⟩
    subst hW
    go_wp2_with fail
    go_loopw [32] (fun c32 wr => ∃ i : Nat, i ≤ m ∧ c32 = .int .i64 (i : Int) ∧ fe i R = 0 ∧ Below w1.heap.size w1 wr) (fun c32 _ => m - (intOf c32).toNat)
    case atStart => exact ⟨0, by omega, rfl, rfl, Below.refl _ _⟩
    case round =>
      obtain ⟨i, hi, rfl, hfe, hbr⟩ := hrel
      have HE : Hid (fe i R = 0) := hfe
      clear hfe
      by_cases him : i < m
      · have him' : (i : Int) < (m : Int) := by omega
        obtain ⟨pb, po, rfl, hpb, hat⟩ := HP.out (by omega)
        have hbw : Below B w wr := (hb0.mono hB).trans (hbr.mono (by have := hb0.size; omega))
        have h6a := (hat i him).later hpb hbw
        have d0 := h6a.c0
        have d1 := h6a.c1
        have d2 := h6a.c2
        have d3 := h6a.c3
        have d4 := h6a.c4
        have d5 := h6a.c5
        have hLi := (hr i him).later hbw
        have hsz := hbw.size
        go_wp2_with fail
        refine (HI.out i him _ (A i) (hLi.later ((Below.refl _ _).alloc (by omega) _)) (by simp; omega)).mono ?_
        rintro e w3 ⟨rfl, hb3⟩
        have hbx := (hbr.alloc hbr.size _).trans (hb3.mono (by have := hbr.size; simp; omega))
        clear hb3
        obtain ⟨y, hy⟩ : ∃ y, R i = y := ⟨_, rfl⟩
        rw [hy]
        have HY : Hid (R i = y) := hy
        clear hy
        by_cases hy0 : y = 0
        · subst hy0
          go_wp2
          go_roundw
          case rel => exact ⟨i + 1, by omega, by go_num, fe_step HE.out HY.out, hbx⟩
          case measure => simp [intOf]; omega
        · have hy1 : (y != 0) = true := by simpa using hy0
          go_wp2
          go_ret
          rw [fe_at m him HE.out (by rw [HY.out]; exact hy0), HY.out]
          exact ⟨rfl, hb0.trans (hbx.mono hb0.size)⟩
      · obtain rfl : i = m := by omega
        go_wp2
        go_ret
        rw [HE.out]
        exact ⟨rfl, hb0.trans (hbr.mono hb0.size)⟩
set_option maxRecDepth 100000 in
set_option maxHeartbeats 4000000 in
theorem sound_any (t : Tr) : ∀ (B : Nat) (w : World) (x : Ad) (d : Int), 0 ≤ d → d < 9223372036854775808 → Lies B w t x → B ≤ w.heap.size →
    Calls Tryz.prog 62 #[t.val x, .int .i64 d] w fun e w' => e = .returned (.int .i64 (soundT t d)) ∧ Below w.heap.size w w' := by
  induction t with
  | no => exact fun _ _ _ _ _ _ hL _ => hL.no.elim
  | mk k b n s m f q g ih =>
    intro B w x d h0 h63 hL hB
    by_cases h8 : 8 < d
    · have hS : soundT (.mk k b n s m f q g) d = 30 := by unfold soundT; rw [if_pos h8]
      rw [hS]
      obtain ⟨pa, pc, na, nc⟩ := x
      show Calls Tryz.prog 62 #[.agg #[.int .i64 k, .bool b, .int .i64 n, .string s, .slice pa m pc, .slice na q nc], .int .i64 d] w _
      go_enter Tryz.func62, Tryz.ntmps62
      go_wp2
      go_ret
      exact ⟨rfl, (Below.refl _ _).alloc (Nat.le_refl _) _⟩
    · cases hf : formedB k b n s m q with
      | false =>
        have hS : soundT (.mk k b n s m f q g) d = 6 := by unfold soundT; rw [if_neg h8, if_pos hf]
        rw [hS]
        have hfm := fun (W : World) => formed_any (.mk k b n s m f q g) x W
        rw [show Tr.formed (.mk k b n s m f q g) = false from hf] at hfm
        obtain ⟨pa, pc, na, nc⟩ := x
        have hV : (Tr.mk k b n s m f q g).val ⟨pa, pc, na, nc⟩ = .agg #[.int .i64 k, .bool b, .int .i64 n, .string s, .slice pa m pc, .slice na q nc] := rfl
        rw [hV] at hfm ⊢
        have h8' : d ≤ 8 := by omega
        go_enter Tryz.func62, Tryz.ntmps62
        go_wp2_with fail
        refine (hfm _).mono ?_
        rintro e w1 ⟨rfl, hb1⟩
        go_wp2
        go_ret
        exact ⟨rfl, ((Below.refl _ w).alloc (Nat.le_refl _) _).trans (hb1.mono (by simp))⟩
      | true =>
        by_cases h32 : 32 < m
        · have hS : soundT (.mk k b n s m f q g) d = 3 := by unfold soundT; rw [if_neg h8, if_neg (by rw [hf]; decide), if_pos h32]
          rw [hS]
          have hfm := fun (W : World) => formed_any (.mk k b n s m f q g) x W
          rw [show Tr.formed (.mk k b n s m f q g) = true from hf] at hfm
          obtain ⟨pa, pc, na, nc⟩ := x
          have hV : (Tr.mk k b n s m f q g).val ⟨pa, pc, na, nc⟩ = .agg #[.int .i64 k, .bool b, .int .i64 n, .string s, .slice pa m pc, .slice na q nc] := rfl
          rw [hV] at hfm ⊢
          have h8' : d ≤ 8 := by omega
          have h32' : (32 : Int) < (m : Int) := by omega
          go_enter Tryz.func62, Tryz.ntmps62
          go_wp2_with fail
          refine (hfm _).mono ?_
          rintro e w1 ⟨rfl, hb1⟩
          have hrow := (hb1.block w.heap.size (by simp)).trans (heap_alloc_new w (.cells #[.int .i64 k, .bool b, .int .i64 n, .string s, .slice pa m pc, .slice na q nc] 34))
          have c4 := cell_of_row w1 _ 4 _ _ _ hrow
          go_wp2
          go_ret
          exact ⟨rfl, ((Below.refl _ w).alloc (Nat.le_refl _) _).trans (hb1.mono (by simp))⟩
        · by_cases h6 : k = 6 ∧ namedB q m g = false
          · obtain ⟨rfl, hnf⟩ := h6
            have hS : soundT (.mk 6 b n s m f q g) d = 31 := by unfold soundT; rw [if_neg h8, if_neg (by rw [hf]; decide), if_neg h32, if_pos ⟨rfl, hnf⟩]
            rw [hS]
            have hfm := fun (W : World) => formed_any (.mk 6 b n s m f q g) x W
            rw [show Tr.formed (.mk 6 b n s m f q g) = true from hf] at hfm
            have hnm := fun (W : World) (hb : Below B w W) (hs : B ≤ W.heap.size) => named_any (t := .mk 6 b n s m f q g) (x := x) ((hL.lims).2.2.2.2.later hb) hs
            rw [show (Tr.mk 6 b n s m f q g).q = q from rfl, show (Tr.mk 6 b n s m f q g).m = m from rfl, show (Tr.mk 6 b n s m f q g).g = g from rfl, hnf] at hnm
            obtain ⟨pa, pc, na, nc⟩ := x
            have hV : (Tr.mk 6 b n s m f q g).val ⟨pa, pc, na, nc⟩ = .agg #[.int .i64 6, .bool b, .int .i64 n, .string s, .slice pa m pc, .slice na q nc] := rfl
            rw [hV] at hfm hnm ⊢
            have h8' : d ≤ 8 := by omega
            have h32' : (m : Int) ≤ 32 := by omega
            go_enter Tryz.func62, Tryz.ntmps62
            go_wp2_with fail
            refine (hfm _).mono ?_
            rintro e w1 ⟨rfl, hb1⟩
            have hrow := (hb1.block w.heap.size (by simp)).trans (heap_alloc_new w (.cells #[.int .i64 6, .bool b, .int .i64 n, .string s, .slice pa m pc, .slice na q nc] 34))
            have hb0 : Below w.heap.size w w1 := ((Below.refl _ w).alloc (Nat.le_refl _) _).trans (hb1.mono (by simp))
            have c0 := cell_of_row w1 _ 0 _ _ _ hrow
            have c1 := cell_of_row w1 _ 1 _ _ _ hrow
            have c2 := cell_of_row w1 _ 2 _ _ _ hrow
            have c3 := cell_of_row w1 _ 3 _ _ _ hrow
            have c4 := cell_of_row w1 _ 4 _ _ _ hrow
            have c5 := cell_of_row w1 _ 5 _ _ _ hrow
            go_wp2_with fail
            refine (hnm _ (hb0.mono hB) (by have := hb0.size; omega)).mono ?_
            rintro e w2 ⟨rfl, hb2⟩
            go_wp2
            go_ret
            exact ⟨rfl, hb0.trans (hb2.mono hb0.size)⟩
          · have hS : soundT (.mk k b n s m f q g) d = fe m (fun i => soundT (f i) (d + 1)) := by rw [soundT, if_neg h8, if_neg (by rw [hf]; decide), if_neg h32, if_neg h6]
            rw [hS]
            exact sound_in d h0 h8 hL hB hf h32 h6 (fun i _ w A hA hBw => ih i B w A (d + 1) (by omega) (by omega) hA hBw)
end Go.Proofs.YtniljoojoafiaaaGreatDoor.V
namespace Go.Proofs.YtniljoojoafiaaaGreatDoor.V
open Go.RowKit
def cmpI (x y : Int) : Int := if x < y then -1 else if y < x then 1 else 0
def cmpB (a b : ByteArray) : Int := Lib.compareBytes a.data.toList b.data.toList
set_option maxRecDepth 100000 in
set_option maxHeartbeats 1000000 in
theorem scmp0 (a b : ByteArray) (w : World) : Calls Tryz.prog 60 #[.string a, .string b] w fun e w' => e = .returned (.int .i64 (cmpB a b)) ∧ w' = w := by
  have h : (callFunc 89 #[.string a, .string b]).run Tryz.prog w = .ok (.value (.int .i64 (cmpB a b))) w := by
    rw [run_callFunc_extern Tryz.func89 (by kernel_rfl) (by kernel_rfl) (by kernel_rfl) (e := Extern.BytealgCompare.compare) (by kernel_rfl), Lib.run_compareString]
    rfl
  go_enter Tryz.func60, Tryz.ntmps60
  go_wp2
  go_ret
  exact ⟨rfl, rfl⟩
set_option maxRecDepth 100000 in
set_option maxHeartbeats 1000000 in
theorem scmp (a b : ByteArray) (w : World) : Calls Tryz.prog 36 #[.string a, .string b] w fun e w' => e = .returned (.int .i64 (cmpB a b)) ∧ w' = w := by
  go_enter Tryz.func36, Tryz.ntmps36
  go_wp2_with fail
  refine (scmp0 a b _).mono ?_
  rintro e w ⟨rfl, rfl⟩
  go_wp2
  go_ret
  exact ⟨rfl, rfl⟩
def cmpF (q uq : Nat) (g ug : Nat → ByteArray) (C : Nat → Int) (i : Nat) : Int := if i < min q uq ∧ (g i).data.toList ≠ (ug i).data.toList then cmpB (g i) (ug i) else C i
def cmpT : Tr → Tr → Int
  | .no, _ => 0
  | .mk k b n s m f q g, u =>
    if k = u.k then
      (if k = 1 then cmpB (boolB b) (boolB u.b) else if k = 2 then cmpI n u.n else if k = 3 ∨ k = 4 then cmpB s u.s
       else if k = 5 ∨ k = 6 then (if fe (min m u.m) (cmpF q u.q g u.g (fun i => cmpT (f i) (u.f i))) = 0 then cmpI m u.m else fe (min m u.m) (cmpF q u.q g u.g (fun i => cmpT (f i) (u.f i)))) else 0)
    else cmpI k u.k
end Go.Proofs.YtniljoojoafiaaaGreatDoor.V
namespace Go.Proofs.YtniljoojoafiaaaGreatDoor.V
open Go.RowKit
set_option maxRecDepth 100000 in
set_option maxHeartbeats 1000000 in
theorem get1 (n s : ByteArray) (z : Nat) (w : World) (hz : w.cell? ⟨z, 0, none⟩ = some (.string s)) : Calls Tryz.prog 85 #[.string n, .pointer (some ⟨z, 0, none⟩)] w fun r w' => r = .returned (.bool (n.toList == s.toList)) ∧ w' = w := by
  go_enter Tryz.func85, Tryz.ntmps85
  go_wp2
  go_ret
  exact ⟨rfl, rfl⟩
end Go.Proofs.YtniljoojoafiaaaGreatDoor.V
namespace Go.Proofs.YtniljoojoafiaaaGreatDoor.V
open Go.Shelf Go.RowKit Go.Lib Go.Sort
def insR : Go.Shelf.Ren := ⟨fun | 20 => 87 | n => n, fun | 22 => 81 | 24 => 3 | 25 => 84 | n => n, fun n => n⟩
set_option maxRecDepth 100000 in
theorem insL : Go.Proofs.SlLaysF.n20 Tryz.prog insR := {
  mixed := by kernel_rfl
  f20 := ⟨Tryz.f87.name, by kernel_rfl, Tryz.func87.trans (congrArg some (by kernel_rfl))⟩
  t0 := Tryz.underlying0
  a0 := Tryz.isAgg0
  z0 := Tryz.sizeOf0
  v0 := Tryz.zeroValue0
  t3 := Tryz.underlying3
  a3 := Tryz.isAgg3
  z3 := Tryz.sizeOf3
  v3 := Tryz.zeroValue3
  t4 := Tryz.underlying4
  a4 := Tryz.isAgg4
  z4 := Tryz.sizeOf4
  v4 := Tryz.zeroValue4
  t22 := Tryz.underlying81
  a22 := Tryz.isAgg81
  z22 := Tryz.sizeOf81
  v22 := Tryz.zeroValue81
  a24 := Tryz.isAgg3
  z24 := Tryz.sizeOf3
  t25 := Tryz.underlying84
  a25 := Tryz.isAgg84
  z25 := Tryz.sizeOf84
  v25 := Tryz.zeroValue84 }
def idxR : Go.Shelf.Ren := ⟨fun | 6 => 84 | n => n, fun | 22 => 28 | 23 => 9 | 25 => 41 | n => n, fun n => n⟩
set_option maxRecDepth 100000 in
theorem idxL : Go.Proofs.SlLaysH.n6 Tryz.prog idxR := {
  mixed := by kernel_rfl
  f6 := ⟨Tryz.f84.name, by kernel_rfl, Tryz.func84.trans (congrArg some (by kernel_rfl))⟩
  t0 := Tryz.underlying0
  a0 := Tryz.isAgg0
  z0 := Tryz.sizeOf0
  v0 := Tryz.zeroValue0
  t3 := Tryz.underlying3
  a3 := Tryz.isAgg3
  z3 := Tryz.sizeOf3
  v3 := Tryz.zeroValue3
  t4 := Tryz.underlying4
  a4 := Tryz.isAgg4
  z4 := Tryz.sizeOf4
  v4 := Tryz.zeroValue4
  t22 := Tryz.underlying28
  a22 := Tryz.isAgg28
  z22 := Tryz.sizeOf28
  v22 := Tryz.zeroValue28
  a23 := Tryz.isAgg9
  z23 := Tryz.sizeOf9
  t25 := Tryz.underlying41
  a25 := Tryz.isAgg41
  z25 := Tryz.sizeOf41
  v25 := Tryz.zeroValue41 }
set_option maxRecDepth 100000 in
set_option maxHeartbeats 2000000 in
theorem struct1 {q nc : Nat} {g : Nat → ByteArray} {b o z : Nat} {w : World} (i k : Nat) (hi : i < q) (hk : k < q) (hz : w.cell? ⟨z, 0, none⟩ = some (.slice (some ⟨b, o, none⟩) q nc)) (hn : ∀ i, i < q → w.cell? ⟨b, o + i, none⟩ = some (.string (g i))) :
    Calls Tryz.prog 35 #[.int .i64 (i : Int), .int .i64 (k : Int), .pointer (some ⟨z, 0, none⟩)] w fun r w' => r = .returned (.int .i64 (cmpB (g i) (g k))) ∧ ∃ q', w' = w.drewN q' := by
  have h1 := hn i hi
  have h2 := hn k hk
  have hi' : (i : Int) < (q : Int) := by omega
  have hk' : (k : Int) < (q : Int) := by omega
  clear hn
  have hcon := scmp (g i) (g k)
  generalize cmpB (g i) (g k) = r at hcon ⊢
  go_enter Tryz.func35, Tryz.ntmps35
  go_wp2
  go_quiet ((go_at_call 36; exact Calls.quiet_of_same (hcon _)))
  go_wp2
  go_ret
  exact ⟨rfl, _, rfl⟩
def encF (n : Nat) (i : Fin (n + 1)) : Value := .int .i64 (i.val : Int)
def cfF (g : Nat → ByteArray) (n : Nat) (i k : Fin (n + 1)) : Int := cmpB (g i.val) (g k.val)
def sortF (g : Nat → ByteArray) (n : Nat) (d : Array (Fin (n + 1))) : Array (Fin (n + 1)) := Sort.insertionSort (ltOf (cfF g n)) d 0 d.size
set_option maxRecDepth 100000 in
theorem sort_reads {q nc n : Nat} {g : Nat → ByteArray} {b o z blk : Nat} {w : World} (hnq : n + 1 ≤ q) (hz : w.cell? ⟨z, 0, none⟩ = some (.slice (some ⟨b, o, none⟩) q nc)) (hn : ∀ i, i < q → w.cell? ⟨b, o + i, none⟩ = some (.string (g i))) (hzb : z ≠ blk) (hbb : b ≠ blk) :
    CmpReads Tryz.prog 35 #[.pointer (some ⟨z, 0, none⟩)] (encF n) (cfF g n) blk 0 (n + 1) w := by
  intro m os dk hdk x y
  have hcell : ∀ a : Addr, a.block ≠ blk → ∀ v, w.cell? a = some v → (sortWorld (encF n) w blk 0 m dk os).cell? a = some v := fun a ha v hv => by
    have hl := block_lt hv
    unfold sortWorld
    rw [cell?_grow _ _ _ (by simp [putRow, mapBlock, Sort.ahead]; exact hl), cell?_putRow_other _ _ _ _ _ _ (Or.inl ha)]
    exact hv
  exact struct1 x.val y.val (by have := x.isLt; omega) (by have := y.isLt; omega) (hcell _ hzb _ hz) (fun i hi => hcell ⟨b, o + i, none⟩ hbb _ (hn i hi))
set_option maxRecDepth 100000 in
set_option maxHeartbeats 2000000 in
theorem sort87 {N cap : Nat} {A : Addr} {F : Value} {w : World} {X : Nat → World} (hN : N ≤ 12) (hcon : Calls Tryz.prog 87 #[.slice (some A) N cap, .int .i64 0, .int .i64 (N : Int), F] w fun e w' => e = .returned (.tuple #[]) ∧ ∃ k, w' = X k) :
    Calls Tryz.prog 59 #[.slice (some A) N cap, .int .i64 (N : Int), F] w fun e w' => e = .returned (.tuple #[]) ∧ ∃ k, w' = X k := by
  have h20 : ¬ ((20 : Int) ≤ (N : Int)) := by omega
  have h21 : ¬ ((20 : Int) < (N : Int)) := by omega
  go_enter Tryz.func59, Tryz.ntmps59
  go_wp2
  refine wp_loop_rounds 1 ?_
  rw [rounds_succ]
  go_wp2_with (first | (go_at_call 87; refine hcon.mono ?_; rintro e w' ⟨rfl, k, rfl⟩))
  refine wp_loop_rounds 1 ?_
  rw [rounds_succ]
  go_wp2
  go_end0
  exact ⟨rfl, k, rfl⟩
set_option maxRecDepth 100000 in
set_option maxHeartbeats 2000000 in
theorem sort55 {N cap : Nat} {A : Addr} {F : Value} {w : World} {X : Nat → World} (hN : N ≤ 12) (hcon : Calls Tryz.prog 87 #[.slice (some A) N cap, .int .i64 0, .int .i64 (N : Int), F] w fun e w' => e = .returned (.tuple #[]) ∧ ∃ k, w' = X k) :
    Calls Tryz.prog 34 #[.slice (some A) N cap, F] w fun e w' => e = .returned (.tuple #[]) ∧ ∃ k, w' = X k := by
  have h87 := sort87 hN hcon
  clear hcon
  go_enter Tryz.func34, Tryz.ntmps34
  go_wp2_with (first | (go_at_call 59; refine h87.mono ?_; rintro e w' ⟨rfl, k, rfl⟩))
  go_end0
  exact ⟨rfl, k, rfl⟩
set_option maxRecDepth 100000 in
theorem sort_any {q nc n : Nat} {g : Nat → ByteArray} {b o z blk cap : Nat} {w : World} (hn12 : n + 1 ≤ 12) (hnq : n + 1 ≤ q) (hz : w.cell? ⟨z, 0, none⟩ = some (.slice (some ⟨b, o, none⟩) q nc)) (hn : ∀ i, i < q → w.cell? ⟨b, o + i, none⟩ = some (.string (g i))) (hzb : z ≠ blk) (hbb : b ≠ blk)
    (d : Array (Fin (n + 1))) (hd : d.size = n + 1) (hH : Holds (encF n) w blk 0 d) :
    Calls Tryz.prog 34 #[.slice (some ⟨blk, 0, none⟩) (n + 1) cap, .func (.func 35) #[] #[.pointer (some ⟨z, 0, none⟩)]] w fun e w' => e = .returned (.tuple #[]) ∧ ∃ k, w' = (putRow (encF n) w blk 0 (sortF g n d)).drewN k := by
  have eg : ∀ args w, (callFunc 35 args).run Tryz.prog w = .ok (.enter 35 args) w := enters_of Tryz.func35 (by kernel_rfl) rfl
  have hcon := Any.insertionSortCmpFunc_one insL (encF n) (fun _ => rfl) (cfF g n) 35 #[.pointer (some ⟨z, 0, none⟩)] blk 0 cap 0 d.size d w eg (by rw [hd]; exact sort_reads hnq hz hn hzb hbb) hH (Nat.zero_le _) (Nat.le_refl _) (by omega)
  change Calls Tryz.prog 87 _ _ (fun e w' => e = .returned (.tuple #[]) ∧ ∃ k, w' = (putRow (encF n) w blk 0 (sortF g n d)).drewN k) at hcon
  rw [hd] at hcon
  exact sort55 hn12 hcon
end Go.Proofs.YtniljoojoafiaaaGreatDoor.V
