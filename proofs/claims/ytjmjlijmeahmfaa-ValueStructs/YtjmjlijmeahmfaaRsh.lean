/- Whether a text may be a name, as the document has it (its Name): the call returns what the program's does, and nothing that was there has changed. The first error of a value that stands within so many, as the document has it (its shape): where it stands too deep, and where it is not formed. The document's shape of a formed value that has no parts and no names by its kind: none. The document's shape of a formed value of kind five, with at most 32 parts: the first error of its parts. The document's shape of a formed value of kind six, with at most 32 parts: whether its names may be and rise, then the first error of its parts. The first error of a value that stands within so many, as the document has it (its shape): the program's own (sound). -/
import Derived.Test.YtjmjlijmeahmfaaName
import Derived.Deep.DeepCutAuto
import Derived.Deep.CutRange
import Derived.Test.YtjmjlijmeahmfaaSound
namespace Go.Proofs.Ytjmjlijmeahmfaa
open Go.RowKit
def letUB (x : Int) : Bool := decide (x = 95) || letterB x
theorem chr_range (s : ByteArray) (i : Nat) (h : i < s.size) : 0 ≤ chr s i ∧ chr s i < 256 := by
  rw [← chr_eq s i h]
  have := s[i].toNat_lt
  omega
theorem okB_of {x : Int} (h : letUB x = true ∨ digitB x = true) : okB x = true := by
  unfold letUB at h
  unfold okB
  rcases h with h | h
  · rcases Bool.or_eq_true _ _ ▸ h with h | h
    · rw [h]; simp
    · rw [h]; simp
  · rw [h]; simp
theorem okB_not {x : Int} (h1 : letUB x = false) (h2 : digitB x = false) : okB x = false := by
  unfold letUB at h1
  unfold okB
  rw [Bool.or_eq_false_iff] at h1
  rw [h1.1, h1.2, h2]; rfl
theorem ok_step {s : ByteArray} {i : Nat} (h : ∀ j, j < i → (letUB (chr s j) || (digitB (chr s j) && decide (0 < j))) = true) (h1 : (letUB (chr s i) || (digitB (chr s i) && decide (0 < i))) = true) :
    ∀ j, j < i + 1 → (letUB (chr s j) || (digitB (chr s j) && decide (0 < j))) = true := fun j hj => by
  by_cases hij : j < i
  · exact h j hij
  · obtain rfl : j = i := by omega
    exact h1
theorem name_digit {s : ByteArray} (h : digitB (chr s 0) = true) : nameB s = false := by
  unfold nameB; rw [h]; simp
theorem name_bad {s : ByteArray} {i : Nat} (h : i < s.size) (hb : okB (chr s i) = false) : nameB s = false := by
  unfold nameB
  rw [decide_eq_false (p := ∀ i, i < s.size → okB (chr s i) = true) (fun hh => by have := hh i h; rw [hb] at this; cases this)]
  simp
theorem digit_letter {x : Int} (h : letUB x = true) : digitB x = false := by
  simp only [letUB, letterB, Bool.or_eq_true, Bool.and_eq_true, decide_eq_true_eq] at h
  unfold digitB
  rw [Bool.and_eq_false_iff, decide_eq_false_iff_not, decide_eq_false_iff_not]
  omega
theorem name_all {s : ByteArray} (h : ∀ j, j < s.size → (letUB (chr s j) || (digitB (chr s j) && decide (0 < j))) = true) : nameB s = (decide (0 < s.size) && decide (s.size < 17)) := by
  by_cases h0 : 0 < s.size
  · have hok : ∀ j, j < s.size → okB (chr s j) = true := fun j hj => okB_of (by
      have := h j hj
      simp only [Bool.or_eq_true, Bool.and_eq_true] at this
      rcases this with h | h
      · exact .inl h
      · exact .inr h.1)
    have hd : digitB (chr s 0) = false := by
      have := h 0 h0
      simp at this
      exact digit_letter this
    unfold nameB
    rw [decide_eq_true hok, hd, Bool.eq_iff_iff]
    simp
    omega
  · unfold nameB
    rw [decide_eq_false h0]
    simp
set_option maxHeartbeats 1000000 in
theorem rname_any (s : ByteArray) (hs : s.size ≤ 9223372036854775807) (w : World) : Calls Try.prog 27 #[.string s] w fun e w' => e = .returned (.bool (nameB s)) ∧ w' = w := by
  go_enter Try.func27, Try.ntmps27
  go_wp2_with fail
  go_loopw [3] (fun c wr => (∃ i : Nat, i ≤ s.size ∧ c = .int .i64 i ∧ ∀ j, j < i → (letUB (chr s j) || (digitB (chr s j) && decide (0 < j))) = true) ∧ wr = w) (fun c _ => s.size - (intOf c).toNat)
  case atStart => exact ⟨⟨0, Nat.zero_le _, rfl, fun j h => absurd h (by omega)⟩, rfl⟩
  case round =>
    obtain ⟨⟨i, hi, rfl, hall⟩, rfl⟩ := hrel
    have HALL : Hid (∀ j, j < i → (letUB (chr s j) || (digitB (chr s j) && decide (0 < j))) = true) := hall
    clear hall
    by_cases hlt : i < s.size
    · have q1 : (i : Int) < (s.size : Int) := by omega
      have hx := chr_eq s i hlt
      have hr := chr_range s i hlt
      obtain ⟨x, hx0⟩ : ∃ x, chr s i = x := ⟨_, rfl⟩
      have HX : Hid (chr s i = x) := hx0
      rw [hx0] at hx hr
      clear hx0
      go_upto_region 5 with fail
      go_cut [5] (fun c5 wx => c5 = .bool (letUB x) ∧ wx = wr)
      case first =>
        go_wp2_with fail
        all_goals go_meet
        all_goals
          refine ⟨congrArg Value.bool ?_, rfl⟩
          rw [Bool.eq_iff_iff]
          simp [letUB, letterB]
          omega
      case rest =>
        obtain ⟨rfl, rfl⟩ := hcut
        go_upto_region 6 with fail
        go_cut [6] (fun c6 wx => c6 = .bool (digitB x) ∧ wx = wc)
        case first =>
          go_wp2_with fail
          all_goals go_meet
          all_goals
            refine ⟨congrArg Value.bool ?_, rfl⟩
            rw [Bool.eq_iff_iff]
            simp [digitB]
            omega
        case rest =>
          obtain ⟨rfl, hwc⟩ := hcut
          subst hwc
          cases hl : letUB x with
          | true =>
            go_wp2
            go_roundw
            case rel => exact ⟨⟨i + 1, by omega, by go_num, ok_step HALL.out (by rw [HX.out, hl]; rfl)⟩, trivial⟩
            case measure => simp [intOf]; omega
          | false =>
            cases hd : digitB x with
            | true =>
              by_cases hi0 : i = 0
              · subst hi0
                have HF : Hid (nameB s = false) := name_digit (HX.out.symm ▸ hd)
                go_wp2
                go_ret
                exact ⟨by rw [HF.out]; rfl, rfl⟩
              · have hi1 : ¬ (i : Int) = 0 := by omega
                go_wp2
                go_roundw
                case rel => exact ⟨⟨i + 1, by omega, by go_num, ok_step HALL.out (by rw [HX.out, hl, hd, decide_eq_true (by omega)]; rfl)⟩, trivial⟩
                case measure => simp [intOf]; omega
            | false =>
              have HF : Hid (nameB s = false) := name_bad hlt (by rw [HX.out]; exact okB_not hl hd)
              go_wp2
              all_goals
                go_ret
                exact ⟨by rw [HF.out]; rfl, rfl⟩
    · obtain rfl : i = s.size := by omega
      have q1 : ¬ ((s.size : Nat) : Int) < (s.size : Int) := by omega
      have HN : Hid (nameB s = (decide (0 < s.size) && decide (s.size < 17))) := name_all HALL.out
      go_wp2
      all_goals
        go_ret
        refine ⟨?_, rfl⟩
        rw [HN.out]
        refine congrArg (fun b => Ending.returned (Value.bool b)) ?_
        rw [Bool.eq_iff_iff]
        simp
        omega
end Go.Proofs.Ytjmjlijmeahmfaa
namespace Go.Proofs.Ytjmjlijmeahmfaa
open Go.RowKit
set_option maxHeartbeats 1000000 in
theorem rshape_deep (k : Int) (b : Bool) (n : Int) (s : ByteArray) (m q : Nat) (pa na : Option Addr) (pc nc : Nat) (d : Int) (h : 8 < d) (w : World) :
    Calls Try.prog 36 #[.agg #[.int .i64 k, .bool b, .int .i64 n, .string s, .slice pa m pc, .slice na q nc], .int .i64 d] w fun e w' => e = .returned (.int .i64 30) ∧ Below w.heap.size w w' := by
  go_enter Try.func36, Try.ntmps36
  go_wp2
  go_ret
  exact ⟨rfl, (Below.refl _ _).alloc (Nat.le_refl _) _⟩
set_option maxRecDepth 20000 in
set_option maxHeartbeats 2000000 in
theorem rshape_form (k : Int) (b : Bool) (n : Int) (s : ByteArray) (m q : Nat) (pa na : Option Addr) (pc nc : Nat) (d : Int) (h : ¬ 8 < d) (hf : formedB k b n s m q = false) (w : World) :
    Calls Try.prog 36 #[.agg #[.int .i64 k, .bool b, .int .i64 n, .string s, .slice pa m pc, .slice na q nc], .int .i64 d] w fun e w' => e = .returned (.int .i64 6) ∧ Below w.heap.size w w' := by
  have HF : Hid (formedB k b n s m q = false) := hf
  clear hf
  go_enter Try.func36, Try.ntmps36
  go_wp2_with fail
  all_goals first
    | (go_ret; exact ⟨rfl, (Below.refl _ _).alloc (Nat.le_refl _) _⟩)
    | (exfalso; have hf := HF.out; unfold formedB at hf; simp_all; done)
    | (exfalso; have hf := HF.out; unfold formedB at hf; simp_all; omega)
set_option maxRecDepth 20000 in
set_option maxHeartbeats 2000000 in
theorem rshape_many (k : Int) (b : Bool) (n : Int) (s : ByteArray) (m q : Nat) (pa na : Option Addr) (pc nc : Nat) (d : Int) (h : ¬ 8 < d) (hf : formedB k b n s m q = true) (h32 : 32 < m) (w : World) :
    Calls Try.prog 36 #[.agg #[.int .i64 k, .bool b, .int .i64 n, .string s, .slice pa m pc, .slice na q nc], .int .i64 d] w fun e w' => e = .returned (.int .i64 3) ∧ Below w.heap.size w w' := by
  have HF : Hid (formedB k b n s m q = true) := hf
  have h33 : (32 : Int) < (m : Int) := by omega
  clear hf
  go_enter Try.func36, Try.ntmps36
  go_wp2_with fail
  all_goals first
    | (exfalso; have hf := HF.out; unfold formedB at hf; simp_all; done)
    | (exfalso; have hf := HF.out; unfold formedB at hf; simp_all; omega)
    | (go_ret; exact ⟨rfl, (Below.refl _ _).alloc (Nat.le_refl _) _⟩)
end Go.Proofs.Ytjmjlijmeahmfaa
namespace Go.Proofs.Ytjmjlijmeahmfaa
open Go.RowKit
set_option maxRecDepth 20000 in
set_option maxHeartbeats 2000000 in
theorem rshape_leaf (k : Int) (b : Bool) (n : Int) (s : ByteArray) (m q : Nat) (pa na : Option Addr) (pc nc : Nat) (d : Int) (h : ¬ 8 < d) (hf : formedB k b n s m q = true) (h4 : k ≤ 4) (w : World) :
    Calls Try.prog 36 #[.agg #[.int .i64 k, .bool b, .int .i64 n, .string s, .slice pa m pc, .slice na q nc], .int .i64 d] w fun e w' => e = .returned (.int .i64 0) ∧ Below w.heap.size w w' := by
  obtain ⟨rfl, rfl⟩ : m = 0 ∧ q = 0 := by
    unfold formedB at hf
    simp only [Bool.and_eq_true, Bool.or_eq_true, decide_eq_true_eq] at hf
    omega
  have HF : Hid (formedB k b n s 0 0 = true) := hf
  clear hf
  go_enter Try.func36, Try.ntmps36
  go_wp2_with fail
  all_goals first
    | (exfalso; have hf := HF.out; unfold formedB at hf; simp_all; done)
    | (exfalso; have hf := HF.out; unfold formedB at hf; simp_all; omega)
    | (go_loopw [7] (fun c7 wr => c7 = .int .i64 0 ∧ wr.cell? ⟨w.heap.size, 4, none⟩ = some (.slice pa 0 pc) ∧ Below w.heap.size w wr) (fun _ _ => 0)
       case atStart => exact ⟨rfl, cell_of_row _ _ 4 _ _ _ (heap_alloc_new _ _), (Below.refl _ _).alloc (Nat.le_refl _) _⟩
       case round =>
         obtain ⟨rfl, hc4, hbr⟩ := hrel
         go_wp2
         go_ret
         exact ⟨rfl, hbr⟩)
end Go.Proofs.Ytjmjlijmeahmfaa
namespace Go.Proofs.Ytjmjlijmeahmfaa
open Go.RowKit
set_option maxRecDepth 20000 in
set_option maxHeartbeats 4000000 in
theorem rshape_list {B : Nat} {w : World} {b : Bool} {n : Int} {s : ByteArray} {m : Nat} {f : Nat → Tr} {q : Nat} {g : Nat → ByteArray} {x : Ad} (d : Int) (h0 : 0 ≤ d) (h8 : ¬ 8 < d)
    (hL : Lies B w (.mk 5 b n s m f q g) x) (hB : B ≤ w.heap.size) (hf : formedB 5 b n s m q = true) (h32 : ¬ 32 < m)
    (ih : ∀ i, i < m → ∀ (w : World) (A : Ad), Lies B w (f i) A → B ≤ w.heap.size → Calls Try.prog 36 #[(f i).val A, .int .i64 (d + 1)] w fun e w' => e = .returned (.int .i64 (soundT (f i) (d + 1))) ∧ Below w.heap.size w w') :
    Calls Try.prog 36 #[(Tr.mk 5 b n s m f q g).val x, .int .i64 d] w fun e w' => e = .returned (.int .i64 (fe m (fun i => soundT (f i) (d + 1)))) ∧ Below w.heap.size w w' := by
  obtain ⟨A, hp, hr⟩ := hL.part
  clear hL
  obtain ⟨pa, pc, na, nc⟩ := x
  obtain ⟨R, hR⟩ : ∃ R : Nat → Int, (fun i => soundT (f i) (d + 1)) = R := ⟨_, rfl⟩
  have hRi : ∀ i, soundT (f i) (d + 1) = R i := fun i => congrFun hR i
  rw [hR]
  clear hR
  simp only [hRi] at ih
  have hd : IntKind.i64.wrap (d + 1) = d + 1 := by rw [IntKind.wrap_i64]; omega
  have h8' : d ≤ 8 := by omega
  have h32' : (m : Int) ≤ 32 := by omega
  have hV : (Tr.mk 5 b n s m f q g).val ⟨pa, pc, na, nc⟩ = .agg #[.int .i64 5, .bool b, .int .i64 n, .string s, .slice pa m pc, .slice na q nc] := rfl
  rw [hV]
  clear hV
  obtain ⟨rfl, rfl, hs, rfl⟩ : b = false ∧ n = 0 ∧ s.toList.isEmpty = true ∧ q = 0 := by
    unfold formedB at hf
    simp at hf
    simp_all
  clear hf
  have HI : Hid (∀ i, i < m → ∀ (w : World) (A : Ad), Lies B w (f i) A → B ≤ w.heap.size → Calls Try.prog 36 #[(f i).val A, .int .i64 (d + 1)] w fun e w' => e = .returned (.int .i64 (R i)) ∧ Below w.heap.size w w') := ih
  clear ih hRi
  have HP : Hid (0 < m → ∃ b o, pa = some ⟨b, o, none⟩ ∧ b < B ∧ ∀ i, i < m → At6 w b (o + i * 6) (f i) (A i)) := hp
  clear hp
  go_enter Try.func36, Try.ntmps36
  go_wp2_with fail
  go_loopw [7] (fun c7 wr => ∃ i : Nat, i ≤ m ∧ c7 = .int .i64 (i : Int) ∧ fe i R = 0 ∧ wr.cell? ⟨w.heap.size, 4, none⟩ = some (.slice pa m pc) ∧ Below w.heap.size w wr ∧ w.heap.size < wr.heap.size) (fun c7 _ => m - (intOf c7).toNat)
  case atStart => exact ⟨0, by omega, rfl, rfl, cell_of_row _ _ 4 _ _ _ (heap_alloc_new _ _), (Below.refl _ _).alloc (Nat.le_refl _) _, by simp⟩
  case round =>
    obtain ⟨i, hi, rfl, hfe, hc4, hbr, hsr⟩ := hrel
    have HE : Hid (fe i R = 0) := hfe
    clear hfe
    by_cases him : i < m
    · have him' : (i : Int) < (m : Int) := by omega
      obtain ⟨pb, po, rfl, hpb, hat⟩ := HP.out (by omega)
      have hbw : Below B w wr := hbr.mono hB
      have h6a := (hat i him).later hpb hbw
      have d0 := h6a.c0
      have d1 := h6a.c1
      have d2 := h6a.c2
      have d3 := h6a.c3
      have d4 := h6a.c4
      have d5 := h6a.c5
      have hLi := (hr i him).later hbw
      have hsz := hbw.size
      go_wp2_with fail
      refine (HI.out i him _ (A i) hLi (by omega)).mono ?_
      rintro e w3 ⟨rfl, hb3⟩
      have hc5 : w3.cell? ⟨w.heap.size, 4, none⟩ = some (.slice (some ⟨pb, po, none⟩) m pc) := (hb3.cell hsr).trans hc4
      have hbx := hbr.trans (hb3.mono (by have := hbr.size; omega))
      have hsx : w.heap.size < w3.heap.size := by have := hb3.size; omega
      clear hb3
      obtain ⟨y, hy⟩ : ∃ y, R i = y := ⟨_, rfl⟩
      rw [hy]
      have HY : Hid (R i = y) := hy
      clear hy
      by_cases hy0 : y = 0
      · subst hy0
        go_wp2
        go_roundw
        case rel => exact ⟨i + 1, by omega, by go_num, fe_step HE.out HY.out, hc5, hbx, hsx⟩
        case measure => simp [intOf]; omega
      · have hy1 : (y != 0) = true := by simpa using hy0
        go_wp2
        go_ret
        rw [fe_at m him HE.out (by rw [HY.out]; exact hy0), HY.out]
        exact ⟨rfl, hbx⟩
    · obtain rfl : i = m := by omega
      go_wp2
      go_ret
      rw [HE.out]
      exact ⟨rfl, hbr⟩
end Go.Proofs.Ytjmjlijmeahmfaa
namespace Go.Proofs.Ytjmjlijmeahmfaa
open Go.RowKit
set_option maxRecDepth 20000 in
set_option maxHeartbeats 4000000 in
theorem rshape_struct {B : Nat} {w : World} {b : Bool} {n : Int} {s : ByteArray} {m : Nat} {f : Nat → Tr} {g : Nat → ByteArray} {x : Ad} (d : Int) (h0 : 0 ≤ d) (h8 : ¬ 8 < d)
    (hL : Lies B w (.mk 6 b n s m f m g) x) (hB : B ≤ w.heap.size) (hf : formedB 6 b n s m m = true) (h32 : ¬ 32 < m)
    (ih : ∀ i, i < m → ∀ (w : World) (A : Ad), Lies B w (f i) A → B ≤ w.heap.size → Calls Try.prog 36 #[(f i).val A, .int .i64 (d + 1)] w fun e w' => e = .returned (.int .i64 (soundT (f i) (d + 1))) ∧ Below w.heap.size w w') :
    Calls Try.prog 36 #[(Tr.mk 6 b n s m f m g).val x, .int .i64 d] w fun e w' => e = .returned (.int .i64 (if namedB m m g = false then 31 else fe m (fun i => soundT (f i) (d + 1)))) ∧ Below w.heap.size w w' := by
  obtain ⟨-, -, hgs, hna⟩ := (hL.lims).2.2.2.2
  obtain ⟨A, hp, hr⟩ := hL.part
  clear hL
  obtain ⟨pa, pc, na, nc⟩ := x
  obtain ⟨R, hR⟩ : ∃ R : Nat → Int, (fun i => soundT (f i) (d + 1)) = R := ⟨_, rfl⟩
  have hRi : ∀ i, soundT (f i) (d + 1) = R i := fun i => congrFun hR i
  rw [hR]
  clear hR
  simp only [hRi] at ih
  obtain ⟨Z, hZ⟩ : ∃ Z : Int, (if namedB m m g = false then 31 else fe m R) = Z := ⟨_, rfl⟩
  rw [hZ]
  have HZ : Hid ((if namedB m m g = false then 31 else fe m R) = Z) := hZ
  clear hZ
  have hd : IntKind.i64.wrap (d + 1) = d + 1 := by rw [IntKind.wrap_i64]; omega
  have h8' : d ≤ 8 := by omega
  have h32' : (m : Int) ≤ 32 := by omega
  have hV : (Tr.mk 6 b n s m f m g).val ⟨pa, pc, na, nc⟩ = .agg #[.int .i64 6, .bool b, .int .i64 n, .string s, .slice pa m pc, .slice na m nc] := rfl
  rw [hV]
  clear hV
  obtain ⟨rfl, rfl, hs⟩ : b = false ∧ n = 0 ∧ s.toList.isEmpty = true := by
    unfold formedB at hf
    simp at hf
    simp_all
  clear hf
  have HI : Hid (∀ i, i < m → ∀ (w : World) (A : Ad), Lies B w (f i) A → B ≤ w.heap.size → Calls Try.prog 36 #[(f i).val A, .int .i64 (d + 1)] w fun e w' => e = .returned (.int .i64 (R i)) ∧ Below w.heap.size w w') := ih
  clear ih hRi
  have HP : Hid (0 < m → ∃ b o, pa = some ⟨b, o, none⟩ ∧ b < B ∧ ∀ i, i < m → At6 w b (o + i * 6) (f i) (A i)) := hp
  clear hp
  have HN : Hid (0 < m → ∃ b o, na = some ⟨b, o, none⟩ ∧ b < B ∧ ∀ i, i < m → w.cell? ⟨b, o + i, none⟩ = some (.string (g i))) := hna
  clear hna
  have HG : Hid (∀ i, i < m → (g i).size ≤ maxLen) := hgs
  clear hgs
  go_enter Try.func36, Try.ntmps36
  go_wp2_with fail
  go_loopw [6] (fun c6 wr => ∃ i : Nat, i ≤ m ∧ c6 = .int .i64 (i : Int) ∧ (∀ j, j < i → okN g j = true) ∧ wr.cell? ⟨w.heap.size, 4, none⟩ = some (.slice pa m pc) ∧ wr.cell? ⟨w.heap.size, 5, none⟩ = some (.slice na m nc) ∧ Below w.heap.size w wr ∧ w.heap.size < wr.heap.size) (fun c6 _ => m - (intOf c6).toNat)
  case atStart => exact ⟨0, by omega, rfl, fun j hj => by omega, cell_of_row _ _ 4 _ _ _ (heap_alloc_new _ _), cell_of_row _ _ 5 _ _ _ (heap_alloc_new _ _), (Below.refl _ _).alloc (Nat.le_refl _) _, by simp⟩
  case round =>
    obtain ⟨i, hi, rfl, hj, hc4, hc5, hbr, hsr⟩ := hrel
    have HJ : Hid (∀ j, j < i → okN g j = true) := hj
    clear hj
    by_cases him : i < m
    · have him' : (i : Int) < (m : Int) := by omega
      obtain ⟨nb, no, rfl, hnb, hcell⟩ := HN.out (by omega)
      have hc := cell_later (hcell i him) (by show nb < w.heap.size; omega) hbr
      have hnm := fun (W : World) => rname_any (g i) (by have := HG.out i him; unfold maxLen at this; omega) W
      cases hn : nameB (g i) with
      | false =>
        rw [hn] at hnm
        go_wp2_with fail
        go_quiet ((go_at_call 27; exact Calls.quiet_of_same (hnm _)))
        go_wp2
        go_ret
        refine ⟨?_, ⟨hbr.os, hbr.tape, hbr.output, hbr.size, hbr.block⟩⟩
        rw [← HZ.out, if_pos (namedB_no him (okN_name hn))]
        rfl
      | true =>
        rw [hn] at hnm
        by_cases hi0 : 0 < i
        · have hi0' : (0 : Int) < (i : Int) := by omega
          obtain ⟨j, rfl⟩ : ∃ j, i = j + 1 := ⟨i - 1, by omega⟩
          have hc2 := cell_later (hcell j (by omega)) (by show nb < w.heap.size; omega) hbr
          go_wp2_with fail
          go_quiet ((go_at_call 27; exact Calls.quiet_of_same (hnm _)))
          go_wp2
          · rename_i hl
            go_ret
            refine ⟨?_, ⟨hbr.os, hbr.tape, hbr.output, hbr.size, hbr.block⟩⟩
            rw [← HZ.out, if_pos (namedB_no him (okN_less hl))]
            rfl
          · rename_i hl
            go_roundw
            case rel => exact ⟨j + 1 + 1, by omega, by go_num, okN_step HJ.out (okN_rise hn hl), hc4, hc5, ⟨hbr.os, hbr.tape, hbr.output, hbr.size, hbr.block⟩, hsr⟩
            case measure => simp [intOf]; omega
        · obtain rfl : i = 0 := by omega
          clear him' hi0
          have hm0 : (0 : Int) < (m : Int) := by omega
          rw [Nat.add_zero] at hc
          go_wp2_with fail
          go_quiet ((go_at_call 27; exact Calls.quiet_of_same (hnm _)))
          go_wp2
          go_roundw
          case rel => exact ⟨0 + 1, by omega, by go_num, okN_step HJ.out (okN_zero hn), hc4, hc5, ⟨hbr.os, hbr.tape, hbr.output, hbr.size, hbr.block⟩, hsr⟩
          case measure => simp [intOf]; omega
    · obtain rfl : i = m := by omega
      have hZ : fe i R = Z := by rw [← HZ.out, if_neg (by rw [namedB_yes HJ.out]; decide)]
      have HZ2 : Hid (fe i R = Z) := hZ
      clear hZ him
      obtain ⟨W, hW⟩ : ∃ W, wr = W := ⟨_, rfl⟩
      subst hW
      have hB0 : Hid (Below w.heap.size w wr) := hbr
      have hs0 : Hid (w.heap.size < wr.heap.size) := hsr
      have hc0 : Hid (wr.cell? ⟨w.heap.size, 4, none⟩ = some (.slice pa i pc)) := hc4
      go_wp2_with fail
      go_loopw [7] (fun c7 wr => ∃ z : Nat, z ≤ i ∧ c7 = .int .i64 (z : Int) ∧ fe z R = 0 ∧ wr.cell? ⟨w.heap.size, 4, none⟩ = some (.slice pa i pc) ∧ Below w.heap.size w wr ∧ w.heap.size < wr.heap.size) (fun c7 _ => i - (intOf c7).toNat)
      case atStart => exact ⟨0, by omega, rfl, rfl, hc0.out, hB0.out, hs0.out⟩
      case round =>
        obtain ⟨z, hi, rfl, hfe, hc4, hbr, hsr⟩ := hrel
        have HE : Hid (fe z R = 0) := hfe
        clear hfe
        by_cases him : z < i
        · have him' : (z : Int) < (i : Int) := by omega
          obtain ⟨pb, po, rfl, hpb, hat⟩ := HP.out (by omega)
          have hbw : Below B w wr := hbr.mono hB
          have h6a := (hat z him).later hpb hbw
          have d0 := h6a.c0
          have d1 := h6a.c1
          have d2 := h6a.c2
          have d3 := h6a.c3
          have d4 := h6a.c4
          have d5 := h6a.c5
          have hLi := (hr z him).later hbw
          have hsz := hbw.size
          go_wp2_with fail
          refine (HI.out z him _ (A z) hLi (by omega)).mono ?_
          rintro e w3 ⟨rfl, hb3⟩
          have hc5 : w3.cell? ⟨w.heap.size, 4, none⟩ = some (.slice (some ⟨pb, po, none⟩) i pc) := (hb3.cell hsr).trans hc4
          have hbx := hbr.trans (hb3.mono (by have := hbr.size; omega))
          have hsx : w.heap.size < w3.heap.size := by have := hb3.size; omega
          clear hb3
          obtain ⟨y, hy⟩ : ∃ y, R z = y := ⟨_, rfl⟩
          rw [hy]
          have HY : Hid (R z = y) := hy
          clear hy
          by_cases hy0 : y = 0
          · subst hy0
            go_wp2
            go_roundw
            case rel => exact ⟨z + 1, by omega, by go_num, fe_step HE.out HY.out, hc5, hbx, hsx⟩
            case measure => simp [intOf]; omega
          · have hy1 : (y != 0) = true := by simpa using hy0
            go_wp2
            go_ret
            rw [← HZ2.out, fe_at i him HE.out (by rw [HY.out]; exact hy0), HY.out]
            exact ⟨rfl, hbx⟩
        · obtain rfl : z = i := by omega
          go_wp2
          go_ret
          rw [← HZ2.out, HE.out]
          exact ⟨rfl, hbr⟩
end Go.Proofs.Ytjmjlijmeahmfaa
namespace Go.Proofs.Ytjmjlijmeahmfaa
open Go.RowKit
set_option maxRecDepth 20000 in
set_option maxHeartbeats 2000000 in
theorem rshape_unlike {B : Nat} {w : World} {b : Bool} {n : Int} {s : ByteArray} {m q : Nat} {g : Nat → ByteArray} {pa na : Option Addr} {pc nc : Nat} (d : Int) (h : ¬ 8 < d) (hN : Names B w q g na nc) (hB : B ≤ w.heap.size) (hf : formedB 6 b n s m q = true) (h32 : ¬ 32 < m) (hqm : q ≠ m) :
    Calls Try.prog 36 #[.agg #[.int .i64 6, .bool b, .int .i64 n, .string s, .slice pa m pc, .slice na q nc], .int .i64 d] w fun e w' => e = .returned (.int .i64 31) ∧ Below w.heap.size w w' := by
  obtain ⟨hq1, hq2, hgs, hna⟩ := hN
  have hmax : (q : Int) ≤ 9223372036854775807 := by unfold maxLen at hq2; omega
  obtain ⟨rfl, rfl, hs⟩ : b = false ∧ n = 0 ∧ s.toList.isEmpty = true := by
    unfold formedB at hf
    simp at hf
    simp_all
  clear hf
  have h8' : d ≤ 8 := by omega
  have h32' : (m : Int) ≤ 32 := by omega
  have hq : ((q : Int) != (m : Int)) = true := by simp; omega
  have HN : Hid (0 < q → ∃ b o, na = some ⟨b, o, none⟩ ∧ b < B ∧ ∀ i, i < q → w.cell? ⟨b, o + i, none⟩ = some (.string (g i))) := hna
  clear hna
  have HG : Hid (∀ i, i < q → (g i).size ≤ maxLen) := hgs
  clear hgs
  go_enter Try.func36, Try.ntmps36
  go_wp2_with fail
  go_loopw [6] (fun c6 wr => ∃ i : Nat, i ≤ q ∧ c6 = .int .i64 (i : Int) ∧ (∀ j, j < i → okN g j = true) ∧ wr.cell? ⟨w.heap.size, 4, none⟩ = some (.slice pa m pc) ∧ wr.cell? ⟨w.heap.size, 5, none⟩ = some (.slice na q nc) ∧ Below w.heap.size w wr ∧ w.heap.size < wr.heap.size) (fun c6 _ => q - (intOf c6).toNat)
  case atStart => exact ⟨0, by omega, rfl, fun j hj => by omega, cell_of_row _ _ 4 _ _ _ (heap_alloc_new _ _), cell_of_row _ _ 5 _ _ _ (heap_alloc_new _ _), (Below.refl _ _).alloc (Nat.le_refl _) _, by simp⟩
  case round =>
    obtain ⟨i, hi, rfl, hj, hc4, hc5, hbr, hsr⟩ := hrel
    have HJ : Hid (∀ j, j < i → okN g j = true) := hj
    clear hj
    by_cases him : i < q
    · have him' : (i : Int) < (q : Int) := by omega
      obtain ⟨nb, no, rfl, hnb, hcell⟩ := HN.out (by omega)
      have hc := cell_later (hcell i him) (by show nb < w.heap.size; omega) hbr
      have hnm := fun (W : World) => rname_any (g i) (by have := HG.out i him; unfold maxLen at this; omega) W
      cases hn : nameB (g i) with
      | false =>
        rw [hn] at hnm
        go_wp2_with fail
        go_quiet ((go_at_call 27; exact Calls.quiet_of_same (hnm _)))
        go_wp2
        go_ret
        refine ⟨?_, ⟨hbr.os, hbr.tape, hbr.output, hbr.size, hbr.block⟩⟩
        rfl
      | true =>
        rw [hn] at hnm
        by_cases hi0 : 0 < i
        · have hi0' : (0 : Int) < (i : Int) := by omega
          obtain ⟨j, rfl⟩ : ∃ j, i = j + 1 := ⟨i - 1, by omega⟩
          have hc2 := cell_later (hcell j (by omega)) (by show nb < w.heap.size; omega) hbr
          go_wp2_with fail
          go_quiet ((go_at_call 27; exact Calls.quiet_of_same (hnm _)))
          go_wp2
          · rename_i hl
            go_ret
            refine ⟨?_, ⟨hbr.os, hbr.tape, hbr.output, hbr.size, hbr.block⟩⟩
            rfl
          · rename_i hl
            go_roundw
            case rel => exact ⟨j + 1 + 1, by omega, by go_num, okN_step HJ.out (okN_rise hn hl), hc4, hc5, ⟨hbr.os, hbr.tape, hbr.output, hbr.size, hbr.block⟩, hsr⟩
            case measure => simp [intOf]; omega
        · obtain rfl : i = 0 := by omega
          clear him' hi0
          have hm0 : (0 : Int) < (q : Int) := by omega
          rw [Nat.add_zero] at hc
          go_wp2_with fail
          go_quiet ((go_at_call 27; exact Calls.quiet_of_same (hnm _)))
          go_wp2
          go_roundw
          case rel => exact ⟨0 + 1, by omega, by go_num, okN_step HJ.out (okN_zero hn), hc4, hc5, ⟨hbr.os, hbr.tape, hbr.output, hbr.size, hbr.block⟩, hsr⟩
          case measure => simp [intOf]; omega
    · obtain rfl : i = q := by omega
      go_wp2
      go_ret
      exact ⟨rfl, hbr⟩
set_option maxHeartbeats 1000000 in
theorem rshape_any (t : Tr) : ∀ {B : Nat} {w : World} {x : Ad} (d : Int), 0 ≤ d → d ≤ 9223372036854775806 → Lies B w t x → B ≤ w.heap.size →
    Calls Try.prog 36 #[t.val x, .int .i64 d] w fun e w' => e = .returned (.int .i64 (soundT t d)) ∧ Below w.heap.size w w' := by
  induction t with
  | no => exact fun _ _ _ hL _ => hL.no.elim
  | mk k b n s m f q g ih =>
    intro B w x d h0 h63 hL hB
    by_cases h8 : 8 < d
    · have hS : soundT (.mk k b n s m f q g) d = 30 := by unfold soundT; rw [if_pos h8]
      rw [hS]
      exact rshape_deep k b n s m q x.pa x.na x.pc x.nc d h8 w
    · cases hf : formedB k b n s m q with
      | false =>
        have hS : soundT (.mk k b n s m f q g) d = 6 := by unfold soundT; rw [if_neg h8, if_pos hf]
        rw [hS]
        exact rshape_form k b n s m q x.pa x.na x.pc x.nc d h8 hf w
      | true =>
        have hf' : ¬ formedB k b n s m q = false := by rw [hf]; decide
        by_cases h32 : 32 < m
        · have hS : soundT (.mk k b n s m f q g) d = 3 := by unfold soundT; rw [if_neg h8, if_neg hf', if_pos h32]
          rw [hS]
          exact rshape_many k b n s m q x.pa x.na x.pc x.nc d h8 hf h32 w
        · have ih' : ∀ i, i < m → ∀ (w : World) (A : Ad), Lies B w (f i) A → B ≤ w.heap.size → Calls Try.prog 36 #[(f i).val A, .int .i64 (d + 1)] w fun e w' => e = .returned (.int .i64 (soundT (f i) (d + 1))) ∧ Below w.heap.size w w' :=
            fun i _ w A hA hw => ih i (d + 1) (by omega) (by omega) hA hw
          have hS : soundT (.mk k b n s m f q g) d = if k = 6 ∧ namedB q m g = false then 31 else fe m (fun i => soundT (f i) (d + 1)) := by
            rw [soundT, if_neg h8, if_neg hf', if_neg h32]
          rw [hS]
          by_cases h4 : k ≤ 4
          · have hm : m = 0 := by
              unfold formedB at hf
              simp only [Bool.and_eq_true, Bool.or_eq_true, decide_eq_true_eq] at hf
              omega
            rw [if_neg (by omega)]
            have h := rshape_leaf k b n s m q x.pa x.na x.pc x.nc d h8 hf h4 w
            subst hm
            exact h
          · by_cases h5 : k = 5
            · subst h5
              rw [if_neg (by omega)]
              exact rshape_list d h0 h8 hL hB hf h32 ih'
            · have h6 : k = 6 := by
                unfold formedB at hf
                simp only [Bool.and_eq_true, Bool.or_eq_true, decide_eq_true_eq] at hf
                omega
              subst h6
              by_cases hqm : q = m
              · subst hqm
                have h := rshape_struct d h0 h8 hL hB hf h32 ih'
                simpa only [true_and] using h
              · rw [if_pos ⟨rfl, decide_eq_false (fun hh => hqm hh.1)⟩]
                exact rshape_unlike d h8 (hL.lims).2.2.2.2 hB hf h32 hqm
end Go.Proofs.Ytjmjlijmeahmfaa
