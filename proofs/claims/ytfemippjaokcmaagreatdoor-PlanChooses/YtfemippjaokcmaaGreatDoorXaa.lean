/- Plain mathematics of words: blanks, names, digits, signs, texts between quotes, pairs of digits, and the words of a text (no program here). Bytes that are blank, digits, in names; as many of a kind as stand ahead (run); whether a text is a name of value's. Calls of the library at this program (Builder.String, strings.IndexByte, strconv.ParseInt, strings.HasPrefix): its own contracts, laid by its command in plain words. A strings.Builder of the call's own: what it holds (Bld), and what WriteByte and String do. -/
import Derived.Test.YtfemippjaokcmaaGreatDoorRows
import Derived.WalkKit
import Derived.WalkSpells
import Derived.WalkLawsBesides
import Derived.Deep.QuietTactic
import Derived.BigQuiet
import Derived.BigGuardPart
import Derived.Lib.Strings
import Derived.Shelf.Abstract
import Derived.Shelf.Strings.Builder1
import Derived.Shelf.Strings.Builder2
import Derived.Shelf.Strings.OnBuilder
import Derived.Shelf.Small.Bits
import Derived.Shelf.Small.Strs
import Derived.Shelf.Strconv.Atoi
import Derived.Shelf.Strconv.Itoa0
import Derived.Shelf.Strconv.Itoa1
import Derived.Shelf.LaysM
import Derived.Shelf.Strconv.Itoa2
import Derived.Shelf.Strconv.Itoa3
import Derived.Shelf.Strconv.AtoiErrFast
import Derived.Shelf.Strconv.ParseIntEmpty
import Derived.Shelf.Strconv.AtoiFail
import Derived.Shelf.Strconv.Clone
import Derived.Shelf.Strconv.SyntaxError
import Derived.Shelf.LaysC
import Derived.Shelf.Strconv.ToError
import Derived.Shelf.Strconv.AtoiErr
import Derived.Shelf.Strconv.ErrVar
import Derived.Shelf.Strconv.Lower
import Derived.Shelf.Strconv.ParseUint10
import Derived.Shelf.Strconv.ParseUint10Empty
import Derived.Shelf.Strconv.ParseUint10Any
import Derived.Shelf.Strconv.ParseInt10
import Derived.Shelf.Strconv.AtoiLong
import Derived.Shelf.Strconv.AtoiInnerAll
import Derived.Shelf.Strconv.RangeError
import Derived.Shelf.Strconv.ToErrorRange
import Derived.Shelf.Strconv.AtoiAll
import Derived.Shelf.Strconv.ErrVarAll
import Derived.Shelf.Strconv.ParseUintEmpty
import Derived.Shelf.Strconv.ParseUint10b64
import Derived.Shelf.Strconv.ParseUint10b32
import Derived.Shelf.Strconv.ParseUint10b16
import Derived.Shelf.Strconv.ParseUint10b8
import Derived.Shelf.Strconv.ParseUint10At
import Derived.Shelf.Strconv.ParseInt10At64
import Derived.Shelf.Strconv.ParseInt10At32
import Derived.Shelf.Strconv.ParseInt10At16
import Derived.Shelf.Strconv.ParseInt10At8
import Derived.Shelf.Strconv.ParseInt10All
import Derived.Shelf.Strconv.ParseIntPublic10
import Derived.Shelf.Strconv.ErrVarParseInt
import Derived.Shelf.Strings.Search1
import Derived.Shelf.Strings.Prefix
import Derived.Ground.Names2Prog
import Derived.Test.YtfemippjaokcmaaGreatDoorProg
import Derived.Lib.Builder
import Derived.Lib.AppendStr
import Derived.Lib.UnsafeStr
import Derived.Laws.Externs
import Derived.OwnWalk
namespace Go.Proofs.YtfemippjaokcmaaGreatDoor
def blankB (x : Int) : Bool := decide (x = 32) || decide (x = 10) || decide (x = 9)
def digitB (x : Int) : Bool := decide (48 ≤ x) && decide (x ≤ 57)
def letB (x : Int) : Bool := decide (97 ≤ x) && decide (x ≤ 122) || decide (65 ≤ x) && decide (x ≤ 90)
def inNameB (x : Int) : Bool := letB x || digitB x || decide (x = 95)
def runL (p : Int → Bool) : List UInt8 → Nat
  | [] => 0
  | c :: r => if p (c.toNat : Int) = true then runL p r + 1 else 0
theorem runL_le (p : Int → Bool) : ∀ l : List UInt8, runL p l ≤ l.length
  | [] => Nat.le_refl _
  | c :: r => by
    have := runL_le p r
    unfold runL
    split
    · simp only [List.length_cons]; omega
    · exact Nat.zero_le _
theorem runL_take (p : Int → Bool) : ∀ (l : List UInt8), ∀ c ∈ l.take (runL p l), p (c.toNat : Int) = true
  | [], c, h => by simp at h
  | d :: r, c, h => by
    unfold runL at h
    split at h
    · next hd =>
      rw [List.take_succ_cons, List.mem_cons] at h
      rcases h with rfl | h
      · exact hd
      · exact runL_take p r c h
    · simp at h
theorem runL_eq (p : Int → Bool) : ∀ (l : List UInt8) (n : Nat), n ≤ l.length → (∀ c ∈ l.take n, p (c.toNat : Int) = true) → (∀ c, l[n]? = some c → p (c.toNat : Int) = false) → runL p l = n
  | [], n, h, _, _ => by simp at h; simp [h, runL]
  | d :: r, 0, _, _, h2 => by
    have := h2 d rfl
    unfold runL
    rw [this]
    rfl
  | d :: r, n + 1, h, h1, h2 => by
    unfold runL
    rw [if_pos (h1 d (by simp)), runL_eq p r n (by simpa using h) (fun c hc => h1 c (by rw [List.take_succ_cons]; exact List.mem_cons_of_mem _ hc)) (fun c hc => h2 c (by simpa using hc))]
theorem runL_pos (p : Int → Bool) {c : UInt8} (r : List UInt8) (h : p (c.toNat : Int) = true) : runL p (c :: r) = runL p r + 1 := by
  rw [runL, if_pos h]
theorem runL_no (p : Int → Bool) {c : UInt8} (r : List UInt8) (h : p (c.toNat : Int) = false) : runL p (c :: r) = 0 := by
  unfold runL; rw [h]; rfl
/- A text between quotes, behind its first quote: what it says, and how many bytes it takes. -/
def qL : List UInt8 → Option (List UInt8 × Nat)
  | [] => none
  | [c] => if c = 39 then some ([], 1) else none
  | c :: d :: r => if c = 39 then (if d = 39 then (qL r).map (fun x => (39 :: x.1, x.2 + 2)) else some ([], 1)) else (qL (d :: r)).map (fun x => (c :: x.1, x.2 + 1))
theorem qL_other {c : UInt8} (h : c ≠ 39) : ∀ r : List UInt8, qL (c :: r) = (qL r).map (fun x => (c :: x.1, x.2 + 1))
  | [] => by
    show (if c = 39 then some ([], 1) else none) = _
    rw [if_neg h]; rfl
  | d :: r => by rw [qL, if_neg h]
theorem qL_end {r : List UInt8} (h : r[0]? ≠ some 39) : qL (39 :: r) = some ([], 1) := by
  cases r with
  | nil => rw [qL, if_pos rfl]
  | cons d r => rw [qL, if_pos rfl, if_neg (fun e => h (by rw [e]; rfl))]
theorem qL_two (r : List UInt8) : qL (39 :: 39 :: r) = (qL r).map (fun x => (39 :: x.1, x.2 + 2)) := by
  rw [qL, if_pos rfl, if_pos rfl]
theorem qL_le : ∀ (l : List UInt8) (t : List UInt8) (n : Nat), qL l = some (t, n) → 1 ≤ n ∧ n ≤ l.length ∧ t.length < n
  | [], t, n, h => by cases h
  | [c], t, n, h => by
    rw [qL] at h
    split at h
    · injection h with h; injection h with h1 h2; subst h1 h2; simp
    · cases h
  | c :: d :: r, t, n, h => by
    rw [qL] at h
    split at h
    · split at h
      · cases hq : qL r with
        | none => rw [hq] at h; cases h
        | some x =>
          rw [hq] at h
          injection h with h; injection h with h1 h2
          have := qL_le r x.1 x.2 hq
          subst h1 h2
          simp only [List.length_cons]
          omega
      · injection h with h; injection h with h1 h2; subst h1 h2; simp
    · cases hq : qL (d :: r) with
      | none => rw [hq] at h; cases h
      | some x =>
        rw [hq] at h
        injection h with h; injection h with h1 h2
        have := qL_le (d :: r) x.1 x.2 hq
        subst h1 h2
        simp only [List.length_cons] at this ⊢
        omega
/- Digits to the base 16. -/
def hexV (c : UInt8) : Nat := if 48 ≤ c.toNat ∧ c.toNat ≤ 57 then c.toNat - 48 else if 97 ≤ c.toNat ∧ c.toNat ≤ 102 then c.toNat - 87 else 16
def hexL : List UInt8 → Option (List UInt8)
  | [] => some []
  | [_] => none
  | a :: b :: r => if hexV a < 16 ∧ hexV b < 16 then (hexL r).map (fun x => UInt8.ofNat (hexV a * 16 + hexV b) :: x) else none
theorem hexL_odd : ∀ l : List UInt8, l.length % 2 = 1 → hexL l = none
  | [], h => by simp at h
  | [_], _ => rfl
  | a :: b :: r, h => by
    rw [hexL, hexL_odd r (by simp only [List.length_cons] at h; omega)]
    split <;> rfl
theorem hexL_len : ∀ (l t : List UInt8), hexL l = some t → t.length ≤ l.length
  | [], t, h => by injection h with h; subst h; simp
  | [_], t, h => by cases h
  | a :: b :: r, t, h => by
    rw [hexL] at h
    split at h
    · cases hq : hexL r with
      | none => rw [hq] at h; cases h
      | some x =>
        rw [hq] at h
        injection h with h
        have := hexL_len r x hq
        subst h
        simp only [List.length_cons]
        omega
    · cases h
/- Numbers. -/
def stp (a : Nat) (c : UInt8) : Nat := a * 10 + (c.toNat - 48)
def valL (a : Nat) (l : List UInt8) : Nat := l.foldl stp a
theorem valL_cons (a : Nat) (c : UInt8) (r : List UInt8) : valL a (c :: r) = valL (stp a c) r := by
  unfold valL
  rw [List.foldl_cons]
theorem valL_ge : ∀ (l : List UInt8) (a : Nat), a ≤ valL a l
  | [], _ => Nat.le_refl _
  | c :: r, a => by
    have := valL_ge r (stp a c)
    rw [valL_cons]
    unfold stp at this
    unfold stp
    omega
def numB (l : List UInt8) : Bool := !(decide (1 < l.length) && decide (l[0]? = some 48)) && decide (valL 0 l ≤ 9223372036854775807)
/- The language's own words. -/
def keysL : List (List UInt8) := [[65, 78, 68], [66, 89], [67, 79, 85, 78, 84], [67, 82, 69, 65, 84, 69], [68, 69, 76, 69, 84, 69], [68, 69, 83, 67], [70, 65, 76, 83, 69], [70, 82, 79, 77], [72, 73, 83, 84, 79, 82, 89], [73, 78, 68, 69, 88], [73, 78, 83, 69, 82, 84], [73, 78, 84, 79], [73, 83], [76, 73, 77, 73, 84], [78, 79, 84], [78, 85, 76, 76], [79, 78], [79, 82], [79, 82, 68, 69, 82], [83, 69, 76, 69, 67, 84], [83, 69, 84], [84, 65, 66, 76, 69], [84, 82, 85, 69], [85, 80, 68, 65, 84, 69], [86, 65, 76, 85, 69], [87, 72, 69, 82, 69]]
def keyB (l : List UInt8) : Bool := keysL.contains l
/- Signs. -/
def signsL : List UInt8 := [61, 60, 62, 43, 45, 42, 40, 41, 123, 125, 91, 93, 44, 58, 46]
def twoB (l : List UInt8) : Bool := [60, 62].isPrefixOf l || [60, 61].isPrefixOf l || [62, 61].isPrefixOf l
def signN (l : List UInt8) : Nat := if twoB l = true then 2 else match l with
  | [] => 0
  | c :: _ => if signsL.contains c = true then 1 else 0
/- The word that bytes begin with: its kind, what it says, how many bytes it takes. -/
def fstA : List UInt8 → Option (Nat × List UInt8 × Nat)
  | [] => none
  | c :: r =>
    if [120, 39].isPrefixOf (c :: r) = true then (qL (r.drop 1)).bind (fun x => (hexL x.1).map (fun t => (5, t, x.2 + 2)))
    else if (inNameB (c.toNat : Int) && !digitB (c.toNat : Int)) = true then
      let t := (c :: r).take (runL inNameB (c :: r))
      if keyB t = true then some (2, t, runL inNameB (c :: r)) else if t.length ≤ 16 then some (1, t, runL inNameB (c :: r)) else none
    else if digitB (c.toNat : Int) = true then
      let t := (c :: r).take (runL digitB (c :: r))
      if numB t = true then some (3, t, runL digitB (c :: r)) else none
    else if c = 39 then (qL r).map (fun x => (4, x.1, x.2 + 1))
    else if signN (c :: r) = 0 then none else some (6, (c :: r).take (signN (c :: r)), signN (c :: r))
theorem twoB_len {l : List UInt8} (h : twoB l = true) : 2 ≤ l.length := by
  unfold twoB at h
  rw [Bool.or_eq_true, Bool.or_eq_true, List.isPrefixOf_iff_prefix, List.isPrefixOf_iff_prefix, List.isPrefixOf_iff_prefix] at h
  rcases h with (h | h) | h <;> exact h.length_le
theorem signN_le (l : List UInt8) : signN l ≤ l.length := by
  unfold signN
  split
  · next h => exact twoB_len h
  · cases l with
    | nil => exact Nat.le_refl _
    | cons c r => dsimp only; split <;> simp
theorem fstA_le {l : List UInt8} {k : Nat} {t : List UInt8} {n : Nat} (h : fstA l = some (k, t, n)) : 1 ≤ n ∧ n ≤ l.length ∧ t.length ≤ l.length ∧ k ≤ 6 := by
  cases l with
  | nil => cases h
  | cons c r =>
    rw [fstA] at h
    split at h
    · cases hq : qL (r.drop 1) with
      | none => rw [hq] at h; cases h
      | some x =>
        rw [hq] at h
        cases hx : hexL x.1 with
        | none => simp [hx] at h
        | some u =>
          simp [hx] at h
          obtain ⟨h1, h2, h3⟩ := h
          subst h1 h2 h3
          have := qL_le _ x.1 x.2 hq
          have h4 := hexL_len _ _ hx
          simp only [List.length_drop, List.length_cons] at this ⊢
          omega
    · split at h
      · next hin =>
        have hr := runL_le inNameB (c :: r)
        have hp : 1 ≤ runL inNameB (c :: r) := by rw [runL_pos _ _ (Bool.and_eq_true_iff.1 hin).1]; omega
        dsimp only at h
        split at h
        · injection h with h; injection h with h1 h; injection h with h2 h3
          subst h1 h2 h3
          rw [List.length_take]; omega
        · split at h
          · injection h with h; injection h with h1 h; injection h with h2 h3
            subst h1 h2 h3
            rw [List.length_take]; omega
          · cases h
      · split at h
        · next hin =>
          have hr := runL_le digitB (c :: r)
          have hp : 1 ≤ runL digitB (c :: r) := by rw [runL_pos _ _ hin]; omega
          dsimp only at h
          split at h
          · injection h with h; injection h with h1 h; injection h with h2 h3
            subst h1 h2 h3
            rw [List.length_take]; omega
          · cases h
        · split at h
          · cases hq : qL r with
            | none => rw [hq] at h; cases h
            | some x =>
              rw [hq] at h
              injection h with h; injection h with h1 h; injection h with h2 h3
              subst h1 h2 h3
              have := qL_le _ x.1 x.2 hq
              simp only [List.length_cons]
              omega
          · split at h
            · cases h
            · have := signN_le (c :: r)
              injection h with h; injection h with h1 h; injection h with h2 h3
              subst h1 h2 h3
              rw [List.length_take]; omega
/- The words of a text. -/
structure Wd where
  k : Nat
  s : List UInt8
  a : Nat
def wdsF : Nat → List UInt8 → Nat → List Wd × Option Nat
  | 0, _, _ => ([], none)
  | _ + 1, [], _ => ([], none)
  | f + 1, c :: r, a =>
    if blankB (c.toNat : Int) = true then wdsF f r (a + 1)
    else match fstA (c :: r) with
      | none => ([], some a)
      | some (k, t, n) => (⟨k, t, a⟩ :: (wdsF f ((c :: r).drop n) (a + n)).1, (wdsF f ((c :: r).drop n) (a + n)).2)
theorem wdsF_fuel : ∀ (f g : Nat) (l : List UInt8) (a : Nat), l.length ≤ f → l.length ≤ g → wdsF f l a = wdsF g l a
  | 0, 0, _, _, _, _ => rfl
  | 0, g + 1, [], _, _, _ => rfl
  | f + 1, 0, [], _, _, _ => rfl
  | 0, _, c :: r, _, h, _ => by simp at h
  | _, 0, c :: r, _, _, h => by simp at h
  | f + 1, g + 1, [], _, _, _ => rfl
  | f + 1, g + 1, c :: r, a, h1, h2 => by
    simp only [List.length_cons] at h1 h2
    unfold wdsF
    rw [wdsF_fuel f g r (a + 1) (by omega) (by omega)]
    split
    · rfl
    · cases hf : fstA (c :: r) with
      | none => rfl
      | some x =>
        obtain ⟨k, t, n⟩ := x
        have := fstA_le hf
        dsimp only
        rw [wdsF_fuel f g ((c :: r).drop n) (a + n) (by simp only [List.length_drop, List.length_cons]; omega) (by simp only [List.length_drop, List.length_cons]; omega)]
def wdsL (l : List UInt8) (a : Nat) : List Wd × Option Nat := wdsF l.length l a
theorem wdsL_nil (a : Nat) : wdsL [] a = ([], none) := rfl
theorem wdsL_blank {c : UInt8} (r : List UInt8) (a : Nat) (h : blankB (c.toNat : Int) = true) : wdsL (c :: r) a = wdsL r (a + 1) := by
  unfold wdsL
  rw [List.length_cons]
  rw [wdsF, if_pos h]
theorem wdsL_none {c : UInt8} {r : List UInt8} (a : Nat) (h : blankB (c.toNat : Int) = false) (hf : fstA (c :: r) = none) : wdsL (c :: r) a = ([], some a) := by
  unfold wdsL
  rw [List.length_cons, wdsF, h, hf]
  rfl
theorem wdsL_some {c : UInt8} {r : List UInt8} {k n : Nat} {t : List UInt8} (a : Nat) (h : blankB (c.toNat : Int) = false) (hf : fstA (c :: r) = some (k, t, n)) : wdsL (c :: r) a = (⟨k, t, a⟩ :: (wdsL ((c :: r).drop n) (a + n)).1, (wdsL ((c :: r).drop n) (a + n)).2) := by
  have := fstA_le hf
  unfold wdsL
  rw [List.length_cons, wdsF, h, hf]
  dsimp only
  rw [wdsF_fuel r.length _ ((c :: r).drop n) (a + n) (by simp only [List.length_drop, List.length_cons]; omega) (Nat.le_refl _)]
  rfl
theorem wdsL_run : ∀ (l : List UInt8) (a : Nat), wdsL l a = wdsL (l.drop (runL blankB l)) (a + runL blankB l)
  | [], a => rfl
  | c :: r, a => by
    cases h : blankB (c.toNat : Int) with
    | true =>
      rw [wdsL_blank r a h, wdsL_run r (a + 1), runL_pos _ _ h, List.drop_succ_cons]
      congr 1
      omega
    | false => rw [runL_no _ _ h]; rfl
theorem wdsL_many : ∀ (f : Nat) (l : List UInt8) (a : Nat), l.length ≤ f → (wdsL l a).1.length ≤ l.length
  | _, [], a, _ => by simp [wdsL_nil]
  | 0, c :: r, _, h => by simp at h
  | f + 1, c :: r, a, h => by
    simp only [List.length_cons] at h
    cases hb : blankB (c.toNat : Int) with
    | true =>
      rw [wdsL_blank r a hb]
      have := wdsL_many f r (a + 1) (by omega)
      simp only [List.length_cons]; omega
    | false =>
      cases hf : fstA (c :: r) with
      | none => rw [wdsL_none a hb hf]; simp
      | some x =>
        obtain ⟨k, t, n⟩ := x
        have h1 := fstA_le hf
        rw [wdsL_some a hb hf]
        have := wdsL_many f ((c :: r).drop n) (a + n) (by simp only [List.length_drop, List.length_cons]; omega)
        simp only [List.length_drop, List.length_cons] at this ⊢
        omega
/- What is told of a text: its words and an end; or the place and the error. -/
def wordsR (l : List UInt8) : List Wd × Nat × Nat :=
  if 2000 < l.length then ([], 2000, 3) else match (wdsL l 0).2 with
    | none => ((wdsL l 0).1 ++ [⟨0, [], l.length⟩], 0, 0)
    | some p => ([], p, 110)
theorem wordsR_many (l : List UInt8) : (wordsR l).1.length ≤ l.length + 1 := by
  unfold wordsR
  split
  · simp
  · split
    · have := wdsL_many _ l 0 (Nat.le_refl _)
      simp; omega
    · simp
end Go.Proofs.YtfemippjaokcmaaGreatDoor
namespace Go.Proofs.YtfemippjaokcmaaGreatDoor
open Go.RowKit Go.Shelf
set_option maxHeartbeats 400000 in
theorem blank_any (x : Int) (w : World) : Calls Tryz.prog 78 #[.int .u8 x] w fun e w' => e = .returned (.bool (blankB x)) ∧ w' = w := by
  obtain ⟨F, hF⟩ : ∃ F, blankB x = F := ⟨_, rfl⟩
  rw [hF]
  have HF : Hid (blankB x = F) := hF
  clear hF
  go_enter Tryz.func78, Tryz.ntmps78
  go_wp2
  all_goals
    go_ret
    refine ⟨?_, rfl⟩
    have := HF.out
    unfold blankB at this
    subst this
    simp_all
  all_goals (first | (intros; omega) | (constructor <;> intros <;> omega) | (rw [Bool.eq_iff_iff]; simp; try (intros; omega)))
set_option maxHeartbeats 400000 in
theorem digit_any (x : Int) (w : World) : Calls Tryz.prog 111 #[.int .u8 x] w fun e w' => e = .returned (.bool (digitB x)) ∧ w' = w := by
  obtain ⟨F, hF⟩ : ∃ F, digitB x = F := ⟨_, rfl⟩
  rw [hF]
  have HF : Hid (digitB x = F) := hF
  clear hF
  go_enter Tryz.func111, Tryz.ntmps111
  go_wp2
  all_goals
    go_ret
    refine ⟨?_, rfl⟩
    have := HF.out
    unfold digitB at this
    subst this
    simp_all
  all_goals (first | (intros; omega) | (constructor <;> intros <;> omega) | (rw [Bool.eq_iff_iff]; simp; try (intros; omega)))
set_option maxHeartbeats 400000 in
theorem vdigit_any (x : Int) (w : World) : Calls Tryz.prog 155 #[.int .u8 x] w fun e w' => e = .returned (.bool (digitB x)) ∧ w' = w := by
  obtain ⟨F, hF⟩ : ∃ F, digitB x = F := ⟨_, rfl⟩
  rw [hF]
  have HF : Hid (digitB x = F) := hF
  clear hF
  go_enter Tryz.func155, Tryz.ntmps155
  go_wp2
  all_goals
    go_ret
    refine ⟨?_, rfl⟩
    have := HF.out
    unfold digitB at this
    subst this
    simp_all
  all_goals (first | (intros; omega) | (constructor <;> intros <;> omega) | (rw [Bool.eq_iff_iff]; simp; try (intros; omega)))
set_option maxHeartbeats 400000 in
theorem vletter_any (x : Int) (w : World) : Calls Tryz.prog 156 #[.int .u8 x] w fun e w' => e = .returned (.bool (letB x)) ∧ w' = w := by
  obtain ⟨F, hF⟩ : ∃ F, letB x = F := ⟨_, rfl⟩
  rw [hF]
  have HF : Hid (letB x = F) := hF
  clear hF
  go_enter Tryz.func156, Tryz.ntmps156
  go_wp2
  all_goals
    go_ret
    refine ⟨?_, rfl⟩
    have := HF.out
    unfold letB at this
    subst this
    simp_all
  all_goals (first | (intros; omega) | (constructor <;> intros <;> omega) | (rw [Bool.eq_iff_iff]; simp; try (intros; omega)))
set_option maxHeartbeats 1000000 in
theorem inName_any (x : Int) (w : World) : Calls Tryz.prog 110 #[.int .u8 x] w fun e w' => e = .returned (.bool (inNameB x)) ∧ w' = w := by
  obtain ⟨F, hF⟩ : ∃ F, inNameB x = F := ⟨_, rfl⟩
  rw [hF]
  have HF : Hid (inNameB x = F) := hF
  clear hF
  obtain ⟨D, hD⟩ : ∃ D, digitB x = D := ⟨_, rfl⟩
  have HD : Hid (digitB x = D) := hD
  have hc := digit_any x w
  rw [hD] at hc
  clear hD
  go_enter Tryz.func110, Tryz.ntmps110
  cases D <;> go_wp2_with (go_at_call 111; refine hc.mono ?_; rintro e w ⟨rfl, rfl⟩)
  all_goals
    go_ret
    refine ⟨?_, rfl⟩
    have h1 := HF.out
    have h2 := HD.out
    unfold inNameB at h1
    rw [h2] at h1
    unfold letB at h1
    subst h1
    simp_all
  all_goals (first | (intros; omega) | (constructor <;> intros <;> omega) | (rw [Bool.eq_iff_iff]; simp; try (intros; omega)))
def chr (s : ByteArray) (i : Nat) : Int := ((s.data.toList.getD i 0).toNat : Int)
theorem chr_eq (s : ByteArray) (i : Nat) (h : i < s.size) : ((s[i].toNat : Nat) : Int) = chr s i := by
  unfold chr
  have hl : i < s.data.toList.length := by rw [← Lib.size_eq]; exact h
  rw [List.getD_eq_getElem?_getD, List.getElem?_eq_getElem hl]
  rfl
theorem chr_at {s : ByteArray} {i : Nat} {c : UInt8} (h : s.data.toList[i]? = some c) : chr s i = (c.toNat : Int) := by
  unfold chr
  rw [List.getD_eq_getElem?_getD, h]
  rfl
theorem at_chr {s : ByteArray} {i : Nat} (h : i < s.size) : ∃ c, s.data.toList[i]? = some c ∧ chr s i = (c.toNat : Int) := by
  have hl : i < s.data.toList.length := by rw [← Lib.size_eq]; exact h
  exact ⟨_, List.getElem?_eq_getElem hl, chr_at (List.getElem?_eq_getElem hl)⟩
theorem runL_chr (p : Int → Bool) (s : ByteArray) (n : Nat) (hn : n ≤ s.size) (h1 : ∀ j, j < n → p (chr s j) = true) (h2 : n < s.size → p (chr s n) = false) : runL p s.data.toList = n := by
  have hl := Lib.size_eq s
  refine runL_eq p _ n (by omega) (fun c hc => ?_) (fun c hc => ?_)
  · obtain ⟨j, hj, rfl⟩ := List.mem_take_iff_getElem.1 hc
    have := h1 j (by omega)
    rwa [chr_at (List.getElem?_eq_getElem (by omega))] at this
  · have hlt : n < s.data.toList.length := by
      rcases Nat.lt_or_ge n s.data.toList.length with h | h
      · exact h
      · rw [List.getElem?_eq_none h] at hc; cases hc
    have := h2 (by omega)
    rwa [chr_at hc] at this
set_option maxHeartbeats 1000000 in
theorem run_any (f : Nat) (p : Int → Bool) (he : ∀ args w, (callFunc f args).run Tryz.prog w = .ok (.enter f args) w) (hf : ∀ x w, Calls Tryz.prog f #[.int .u8 x] w fun e w' => e = .returned (.bool (p x)) ∧ w' = w) (s : ByteArray) (hs : s.size ≤ 4611686018427387904) (w : World) :
    Calls Tryz.prog 77 #[.string s, .func (.func f) #[] #[]] w fun e w' => e = .returned (.int .i64 (runL p s.data.toList : Int)) ∧ w' = w := by
  obtain ⟨F, hF⟩ : ∃ F, runL p s.data.toList = F := ⟨_, rfl⟩
  rw [hF]
  have HF : Hid (runL p s.data.toList = F) := hF
  clear hF
  go_enter Tryz.func77, Tryz.ntmps77
  go_wp2_with fail
  go_loopw [5] (fun c5 wr => ∃ i : Nat, i ≤ s.size ∧ c5 = .int .i64 (i : Int) ∧ (∀ j, j < i → p (chr s j) = true) ∧ wr = w) (fun c5 _ => s.size - (intOf c5).toNat)
  case atStart => exact ⟨0, by omega, rfl, fun j hj => by omega, rfl⟩
  case round =>
    obtain ⟨i, hi, rfl, hj, rfl⟩ := hrel
    have HJ : Hid (∀ j, j < i → p (chr s j) = true) := hj
    clear hj
    by_cases hlt : i < s.size
    · have hlt' : (i : Int) < (s.size : Int) := by omega
      go_wp2_with (go_at_fn f; refine (hf _ _).mono ?_; rintro e w ⟨rfl, rfl⟩; rw [chr_eq s i hlt])
      · have HP : Hid (p (chr s i) = true) := by assumption
        go_roundw
        case rel =>
          refine ⟨i + 1, by omega, by go_num, fun j hj => ?_, by trivial⟩
          rcases Nat.lt_or_ge j i with k | k
          · exact HJ.out j k
          · obtain rfl : j = i := by omega
            exact HP.out
        case measure => simp [intOf]; omega
      · have HP : Hid (p (chr s i) = false) := by assumption
        go_ret
        rw [← HF.out, runL_chr p s i hi HJ.out (fun _ => HP.out)]
        exact ⟨rfl, rfl⟩
    · have hlt' : ¬ (i : Int) < (s.size : Int) := by omega
      go_wp2_with fail
      go_ret
      rw [← HF.out, runL_chr p s i hi HJ.out (fun h => absurd h hlt)]
      exact ⟨rfl, rfl⟩
theorem en15 : ∀ args w, (callFunc 78 args).run Tryz.prog w = .ok (.enter 78 args) w := enters_of Tryz.func78 (by kernel_rfl) rfl
theorem en21 : ∀ args w, (callFunc 110 args).run Tryz.prog w = .ok (.enter 110 args) w := enters_of Tryz.func110 (by kernel_rfl) rfl
theorem en22 : ∀ args w, (callFunc 111 args).run Tryz.prog w = .ok (.enter 111 args) w := enters_of Tryz.func111 (by kernel_rfl) rfl
end Go.Proofs.YtfemippjaokcmaaGreatDoor
/-
  DERIVED: THE SHELF's CONTRACTS AT THIS DUMP, IN PLAIN WORDS (tools/lay-plain.mjs out of 'TryzShelfT.lean', which tools/lay-shelf.mjs wrote): THE SAME DECLARATIONS UNDER THE SAME NAMES: 'import', 'namespace', 'open', 'def', 'theorem' AND NOTHING ELSE: no command of the shelf's: FOR A HAND-IN. Each laying: the table of numbers ('.._ren') and one theorem, a field a fact of the dump's own or the kernel's comparison; each contract: ONE APPLICATION.
-/
namespace Go.Proofs
open Go.Shelf
def Tryz.lays169_ren : Go.Shelf.Ren := ⟨fun | 169 => 65 | n => n, fun | 70 => 110 | 9 => 9 | 0 => 0 | 72 => 112 | 37 => 84 | 127 => 144 | 3 => 3 | 5 => 5 | n => n, fun | n => n⟩
theorem Tryz.lays169 : Go.Proofs.Lays.n169 Tryz.prog Tryz.lays169_ren := {
  mixed := by kernel_rfl
  f169 := Tryz.func65.trans (congrArg some (by kernel_rfl))
  t0 := Tryz.underlying0
  a0 := Tryz.isAgg0
  z0 := Tryz.sizeOf0
  v0 := Tryz.zeroValue0
  t3 := Tryz.underlying3
  a3 := Tryz.isAgg3
  z3 := Tryz.sizeOf3
  v3 := Tryz.zeroValue3
  t9 := Tryz.underlying9
  a9 := Tryz.isAgg9
  z9 := Tryz.sizeOf9
  v9 := Tryz.zeroValue9
  t37 := Tryz.underlying84
  a37 := Tryz.isAgg84
  z37 := Tryz.sizeOf84
  v37 := Tryz.zeroValue84
  t70 := Tryz.underlying110
  a70 := Tryz.isAgg110
  z70 := Tryz.sizeOf110
  v70 := Tryz.zeroValue110
  t72 := Tryz.underlying112
  a72 := Tryz.isAgg112
  z72 := Tryz.sizeOf112
  v72 := Tryz.zeroValue112
  t127 := Tryz.underlying144
  a127 := Tryz.isAgg144
  z127 := Tryz.sizeOf144
  v127 := Tryz.zeroValue144 }
theorem Tryz.Builder_Extra_169 : Builder.Extra Tryz.prog Tryz.lays169_ren := {
  sizeBuilder := by kernel_rfl
  liesBuilder := by kernel_rfl
  t5 := Tryz.underlying5
  a5 := Tryz.isAgg5
  z5 := Tryz.sizeOf5
  v5 := Tryz.zeroValue5
  infoByte := by kernel_rfl
  cellsByte := by kernel_rfl
  sizeByte := by kernel_rfl
  neB5 := by decide }
open Go.RowKit in
/-- (*strings.Builder).String: "String returns the accumulated string.": WHATEVER THE BUILDER HOLDS. (LAID: no walk: one application.) -/
theorem Tryz.Builder_String_any (B b : Nat) (l : List UInt8) (w : World) (h : Lib.IsBuilder 112 5 B b (Lib.byteCells l) w) (hBw : B ≤ w.heap.size) :
    Calls Tryz.prog 65 #[.pointer (some ⟨b, 0, none⟩)] w fun e w' => e = .returned (.string ⟨l.toArray⟩) ∧ Below B w w' := Any.Builder_String_any Tryz.lays169 Tryz.Builder_Extra_169 B b l w h hBw
def Tryz.lays137_ren : Go.Shelf.Ren := ⟨fun | 137 => 159 | 217 => 151 | 266 => 169 | n => n, fun | 9 => 9 | 5 => 5 | 3 => 3 | n => n, fun | n => n⟩
theorem Tryz.lays137 : Go.Proofs.Lays.n137 Tryz.prog Tryz.lays137_ren := {
  mixed := by kernel_rfl
  f137 := Tryz.func159.trans (congrArg some (by kernel_rfl))
  f217 := Tryz.func151.trans (congrArg some (by kernel_rfl))
  f266 := Tryz.func169.trans (congrArg some (by kernel_rfl))
  t3 := Tryz.underlying3
  a3 := Tryz.isAgg3
  z3 := Tryz.sizeOf3
  v3 := Tryz.zeroValue3
  t5 := Tryz.underlying5
  a5 := Tryz.isAgg5
  z5 := Tryz.sizeOf5
  v5 := Tryz.zeroValue5
  t9 := Tryz.underlying9
  a9 := Tryz.isAgg9
  z9 := Tryz.sizeOf9
  v9 := Tryz.zeroValue9 }
open Go.RowKit in
/-- strings.IndexByte: "IndexByte returns the index of the first instance of c in s, or -1 if c is not present in s.": IT RETURNS 'Lib.indexByte s c'; the world is as it was. (LAID: no walk: one application.) -/
theorem Tryz.strings_IndexByte (s : ByteArray) (c : Int) (w : World) :
    Calls Tryz.prog 159 #[.string s, .int .u8 c] w fun e w' => e = .returned (.int .i64 (Lib.indexByte s.data.toList c.toNat.toUInt8)) ∧ w' = w := Any.strings_IndexByte Tryz.lays137 s c w
def Tryz.laysC174_ren : Go.Shelf.Ren := ⟨fun | 174 => 140 | 247 => 160 | 245 => 161 | 287 => 174 | 279 => 175 | 280 => 176 | 281 => 177 | 282 => 178 | 321 => 192 | 322 => 193 | 316 => 194 | 171 => 196 | 205 => 195 | 243 => 202 | 246 => 206 | 283 => 208 | 284 => 209 | 285 => 210 | 286 => 211 | 129 => 213 | 317 => 212 | 318 => 214 | 319 => 215 | 320 => 216 | 337 => 217 | 338 => 218 | n => n, fun | 9 => 9 | 3 => 3 | 2 => 2 | 75 => 139 | 85 => 169 | 4 => 4 | 167 => 191 | 5 => 5 | 53 => 86 | 175 => 192 | 46 => 59 | 168 => 194 | 37 => 84 | 0 => 0 | 210 => 201 | 21 => 21 | 127 => 144 | 145 => 214 | 143 => 212 | 171 => 219 | 173 => 222 | 212 => 225 | 51 => 185 | 20 => 20 | 213 => 226 | 232 => 229 | 233 => 230 | 80 => 115 | n => n, fun | 15 => 1 | 16 => 2 | 17 => 5 | 18 => 6 | 19 => 7 | n => n⟩
theorem Tryz.laysC174 : Go.Proofs.LaysC.n174 Tryz.prog Tryz.laysC174_ren := {
  mixed := by kernel_rfl
  f129 := Tryz.func213.trans (congrArg some (by kernel_rfl))
  f171 := Tryz.func196.trans (congrArg some (by kernel_rfl))
  f174 := Tryz.func140.trans (congrArg some (by kernel_rfl))
  f205 := Tryz.func195.trans (congrArg some (by kernel_rfl))
  f243 := Tryz.func202.trans (congrArg some (by kernel_rfl))
  f245 := Tryz.func161.trans (congrArg some (by kernel_rfl))
  f246 := Tryz.func206.trans (congrArg some (by kernel_rfl))
  f247 := Tryz.func160.trans (congrArg some (by kernel_rfl))
  f279 := Tryz.func175.trans (congrArg some (by kernel_rfl))
  f280 := Tryz.func176.trans (congrArg some (by kernel_rfl))
  f281 := Tryz.func177.trans (congrArg some (by kernel_rfl))
  f282 := Tryz.func178.trans (congrArg some (by kernel_rfl))
  f283 := Tryz.func208.trans (congrArg some (by kernel_rfl))
  f284 := Tryz.func209.trans (congrArg some (by kernel_rfl))
  f285 := Tryz.func210.trans (congrArg some (by kernel_rfl))
  f286 := Tryz.func211.trans (congrArg some (by kernel_rfl))
  f287 := Tryz.func174.trans (congrArg some (by kernel_rfl))
  f316 := Tryz.func194.trans (congrArg some (by kernel_rfl))
  f317 := Tryz.func212.trans (congrArg some (by kernel_rfl))
  f318 := Tryz.func214.trans (congrArg some (by kernel_rfl))
  f319 := Tryz.func215.trans (congrArg some (by kernel_rfl))
  f320 := Tryz.func216.trans (congrArg some (by kernel_rfl))
  f321 := Tryz.func192.trans (congrArg some (by kernel_rfl))
  f322 := Tryz.func193.trans (congrArg some (by kernel_rfl))
  f337 := Tryz.func217.trans (congrArg some (by kernel_rfl))
  f338 := Tryz.func218.trans (congrArg some (by kernel_rfl))
  t0 := Tryz.underlying0
  a0 := Tryz.isAgg0
  z0 := Tryz.sizeOf0
  v0 := Tryz.zeroValue0
  t2 := Tryz.underlying2
  a2 := Tryz.isAgg2
  z2 := Tryz.sizeOf2
  v2 := Tryz.zeroValue2
  t3 := Tryz.underlying3
  a3 := Tryz.isAgg3
  z3 := Tryz.sizeOf3
  v3 := Tryz.zeroValue3
  t4 := Tryz.underlying4
  a4 := Tryz.isAgg4
  z4 := Tryz.sizeOf4
  v4 := Tryz.zeroValue4
  t5 := Tryz.underlying5
  a5 := Tryz.isAgg5
  z5 := Tryz.sizeOf5
  v5 := Tryz.zeroValue5
  t9 := Tryz.underlying9
  a9 := Tryz.isAgg9
  z9 := Tryz.sizeOf9
  v9 := Tryz.zeroValue9
  t20 := Tryz.underlying20
  a20 := Tryz.isAgg20
  z20 := Tryz.sizeOf20
  v20 := Tryz.zeroValue20
  t21 := Tryz.underlying21
  a21 := Tryz.isAgg21
  z21 := Tryz.sizeOf21
  v21 := Tryz.zeroValue21
  t37 := Tryz.underlying84
  a37 := Tryz.isAgg84
  z37 := Tryz.sizeOf84
  v37 := Tryz.zeroValue84
  t46 := Tryz.underlying59
  a46 := Tryz.isAgg59
  z46 := Tryz.sizeOf59
  v46 := Tryz.zeroValue59
  t51 := Tryz.underlying185
  a51 := Tryz.isAgg185
  z51 := Tryz.sizeOf185
  v51 := Tryz.zeroValue185
  t53 := Tryz.underlying86
  a53 := Tryz.isAgg86
  z53 := Tryz.sizeOf86
  v53 := Tryz.zeroValue86
  t75 := Tryz.underlying139
  a75 := Tryz.isAgg139
  z75 := Tryz.sizeOf139
  v75 := Tryz.zeroValue139
  t85 := Tryz.underlying169
  a85 := Tryz.isAgg169
  z85 := Tryz.sizeOf169
  v85 := Tryz.zeroValue169
  t127 := Tryz.underlying144
  a127 := Tryz.isAgg144
  z127 := Tryz.sizeOf144
  v127 := Tryz.zeroValue144
  t143 := Tryz.underlying212
  a143 := Tryz.isAgg212
  z143 := Tryz.sizeOf212
  v143 := Tryz.zeroValue212
  t145 := Tryz.underlying214
  a145 := Tryz.isAgg214
  z145 := Tryz.sizeOf214
  v145 := Tryz.zeroValue214
  t167 := Tryz.underlying191
  a167 := Tryz.isAgg191
  z167 := Tryz.sizeOf191
  v167 := Tryz.zeroValue191
  t168 := Tryz.underlying194
  a168 := Tryz.isAgg194
  z168 := Tryz.sizeOf194
  v168 := Tryz.zeroValue194
  t171 := Tryz.underlying219
  a171 := Tryz.isAgg219
  z171 := Tryz.sizeOf219
  v171 := Tryz.zeroValue219
  t173 := Tryz.underlying222
  a173 := Tryz.isAgg222
  z173 := Tryz.sizeOf222
  v173 := Tryz.zeroValue222
  t175 := Tryz.underlying192
  a175 := Tryz.isAgg192
  z175 := Tryz.sizeOf192
  v175 := Tryz.zeroValue192
  t210 := Tryz.underlying201
  a210 := Tryz.isAgg201
  z210 := Tryz.sizeOf201
  v210 := Tryz.zeroValue201
  t212 := Tryz.underlying225
  a212 := Tryz.isAgg225
  z212 := Tryz.sizeOf225
  v212 := Tryz.zeroValue225
  t213 := Tryz.underlying226
  a213 := Tryz.isAgg226
  z213 := Tryz.sizeOf226
  t232 := Tryz.underlying229
  a232 := Tryz.isAgg229
  z232 := Tryz.sizeOf229
  v232 := Tryz.zeroValue229
  t233 := Tryz.underlying230
  a233 := Tryz.isAgg230
  z233 := Tryz.sizeOf230
  v233 := Tryz.zeroValue230
  g15 := by kernel_rfl
  g16 := by kernel_rfl
  g17 := by kernel_rfl
  g18 := by kernel_rfl
  g19 := by kernel_rfl
  t80 := Tryz.underlying115
  a80 := Tryz.isAgg115
  z80 := Tryz.sizeOf115
  v80 := Tryz.zeroValue115
  i0 := by kernel_rfl
  i2 := by kernel_rfl
  i3 := by kernel_rfl
  i4 := by kernel_rfl
  i5 := by kernel_rfl
  i9 := by kernel_rfl
  i20 := by kernel_rfl
  i21 := by kernel_rfl
  i37 := by kernel_rfl
  i46 := by kernel_rfl
  i51 := by kernel_rfl
  i53 := by kernel_rfl
  i75 := by kernel_rfl
  i80 := by kernel_rfl
  i85 := by kernel_rfl
  i127 := by kernel_rfl
  i143 := by kernel_rfl
  i145 := by kernel_rfl
  i167 := by kernel_rfl
  i168 := by kernel_rfl
  i171 := by kernel_rfl
  i173 := by kernel_rfl
  i175 := by kernel_rfl
  i210 := by kernel_rfl
  i212 := by kernel_rfl
  i232 := by kernel_rfl
  i233 := by kernel_rfl
  m15 := by kernel_rfl
  m16 := by kernel_rfl
  m17 := by kernel_rfl
  m18 := by kernel_rfl
  m19 := by kernel_rfl
  c0 := by kernel_rfl
  c2 := by kernel_rfl
  c3 := by kernel_rfl
  c4 := by kernel_rfl
  c5 := by kernel_rfl
  c9 := by kernel_rfl
  c20 := by kernel_rfl
  c21 := by kernel_rfl
  c37 := by kernel_rfl
  c46 := by kernel_rfl
  c51 := by kernel_rfl
  c53 := by kernel_rfl
  c75 := by kernel_rfl
  c80 := by kernel_rfl
  c85 := by kernel_rfl
  c127 := by kernel_rfl
  c143 := by kernel_rfl
  c145 := by kernel_rfl
  c167 := by kernel_rfl
  c168 := by kernel_rfl
  c171 := by kernel_rfl
  c173 := by kernel_rfl
  c175 := by kernel_rfl
  c210 := by kernel_rfl
  c212 := by kernel_rfl
  c213 := by kernel_rfl
  c232 := by kernel_rfl
  c233 := by kernel_rfl }
open Go.RowKit in
/-- strconv.ParseInt(s, 10, 64), AT EVERY STRING THAT SPELLS AN int64 ('Lib.parseIntB 64 s.data.toList = .ok v'): v, AND NO ERROR. (LAID: no walk: one application.) -/
theorem Tryz.strconv_ParseInt_10_at64_ok (s : ByteArray) (hmax : s.size ≤ 9223372036854775806) (v : Int) (h : Lib.parseIntB 64 s.data.toList = .ok v) (w : World) :
    Calls Tryz.prog 140 #[.string s, .int .i64 10, .int .i64 64] w fun e w' => e = .returned (.tuple #[.int .i64 v, .nilIface]) ∧ (w' = w ∨ ∃ t, w' = Lib.bytesWorld w 5 t) := Any.strconv_ParseInt_10_at64_ok Tryz.laysC174 s hmax v h w
open Go.RowKit in
/-- strconv.ParseInt(s, 10, 64), AT EVERY NUMERAL THAT NO int64 HOLDS: THE GREATEST OR THE LEAST int64, BY THE SIGN ('Lib.intSat 64'), AND AN ERROR THAT IS NOT nil: a *NumError in a new block N: {Func: "ParseInt", Num: s's bytes, Err: what the variable ErrRange holds}. Of what was there nothing has turned. (LAID: no walk: one application.) -/
theorem Tryz.strconv_ParseInt_10_at64_range (s : ByteArray) (hlim : s.size ≤ 281474976710656) (h : Lib.parseIntB 64 s.data.toList = .range) (ev : Value) (w : World) (hv : w.cell? ⟨2, 0, none⟩ = some ev) (hev : ev = .nilIface ∨ ∃ te pe, ev = .iface te pe) :
    Calls Tryz.prog 140 #[.string s, .int .i64 10, .int .i64 64] w fun e w' => ∃ N, e = .returned (.tuple #[.int .i64 (Lib.intSat 64 s.data.toList), .iface 194 (.pointer (some ⟨N, 0, none⟩))]) ∧ w.heap.size ≤ N ∧ w'.heap[N]? = some (.cells #[.string ⟨#[80, 97, 114, 115, 101, 73, 110, 116]⟩, .string s, ev] 201 (0, 0)) ∧ Below w.heap.size w w' := Any.strconv_ParseInt_10_at64_range Tryz.laysC174 s hlim h ev w hv hev
def Tryz.lays99_ren : Go.Shelf.Ren := ⟨fun | 99 => 108 | 206 => 136 | n => n, fun | 9 => 9 | 4 => 4 | 3 => 3 | n => n, fun | n => n⟩
theorem Tryz.lays99 : Go.Proofs.Lays.n99 Tryz.prog Tryz.lays99_ren := {
  mixed := by kernel_rfl
  f99 := Tryz.func108.trans (congrArg some (by kernel_rfl))
  f206 := Tryz.func136.trans (congrArg some (by kernel_rfl))
  t3 := Tryz.underlying3
  a3 := Tryz.isAgg3
  z3 := Tryz.sizeOf3
  v3 := Tryz.zeroValue3
  t4 := Tryz.underlying4
  a4 := Tryz.isAgg4
  z4 := Tryz.sizeOf4
  v4 := Tryz.zeroValue4
  t9 := Tryz.underlying9
  a9 := Tryz.isAgg9
  z9 := Tryz.sizeOf9
  v9 := Tryz.zeroValue9 }
open Go.RowKit Go.Lib in
/-- strings.HasPrefix: "HasPrefix reports whether the string s begins with prefix.": IT RETURNS 'Lib.hasPrefix s prefix'; the world is as it was. (LAID: no walk: one application.) -/
theorem Tryz.strings_HasPrefix (s p : ByteArray) (w : World) :
    Calls Tryz.prog 108 #[.string s, .string p] w fun e w' => e = .returned (.bool (Lib.hasPrefix s.data.toList p.data.toList)) ∧ w' = w := Any.strings_HasPrefix Tryz.lays99 s p w
end Go.Proofs
namespace Go.Proofs.YtfemippjaokcmaaGreatDoor
open Go.RowKit Go.Shelf
def Bld (w : World) (b : Nat) (l : List UInt8) : Prop := Lib.IsBuilder 112 5 b b (Lib.byteCells l) w
theorem lt_of_row {W : World} {g : Nat} {o : Obj} (h1 : W.heap[g]? = some o) : g < W.heap.size := by
  rcases Nat.lt_or_ge g W.heap.size with h | h
  · exact h
  · rw [Array.getElem?_eq_none h] at h1; cases h1
set_option maxRecDepth 100000 in
set_option maxHeartbeats 1000000 in
theorem b_used (b : Nat) (w : World) (h0 : w.cell? ⟨b, 0, none⟩ = some (.pointer (some ⟨b, 0, none⟩))) :
    Calls Tryz.prog 131 #[.pointer (some ⟨b, 0, none⟩)] w fun e w' => e = .returned (.tuple #[]) ∧ w' = w := by
  obtain ⟨j, hj, _⟩ := Option.map_eq_some_iff.1 (show (Tryz.prog.info? 112).map (·.size) = some 2 by kernel_rfl)
  go_enter Tryz.func131, Tryz.ntmps131
  go_wp2
  rw [Lib.run_neq_ptr_same w _ Tryz.underlying110 hj]
  go_wp2
  go_end0
  exact ⟨rfl, rfl⟩
set_option maxRecDepth 100000 in
set_option maxHeartbeats 1000000 in
theorem b_fresh (b : Nat) (w : World) (h0 : w.cell? ⟨b, 0, none⟩ = some (.pointer none)) (hsh : w.shape? b = some (112, 2)) (hfz : w.frozen? ⟨b, 0, none⟩ = false) :
    Calls Tryz.prog 131 #[.pointer (some ⟨b, 0, none⟩)] w fun e w' => e = .returned (.tuple #[]) ∧ w' = w.setCell ⟨b, 0, none⟩ (.pointer (some ⟨b, 0, none⟩)) := by
  obtain ⟨j, hj, hjs⟩ := Option.map_eq_some_iff.1 (show (Tryz.prog.info? 112).map (·.size) = some 2 by kernel_rfl)
  go_enter Tryz.func131, Tryz.ntmps131
  go_wp2
  rw [Lib.run_to_unsafe w ⟨b, 0, none⟩ Tryz.underlying110 Tryz.underlying177 hj (by rw [hjs]; decide) hsh (Nat.zero_lt_succ 1)]
  simp only [Result.andThen]
  rw [Oper.upon_value]
  go_wp2
  rw [run_callFunc_extern Tryz.func157 (by kernel_rfl) (by kernel_rfl) (by kernel_rfl) (e := Extern.AbiNoEscape.same) (by kernel_rfl)]
  rw [Lib.run_noEscape]
  simp only [Result.andThen]
  rw [Oper.upon_value]
  go_wp2
  rw [Lib.run_from_unsafe w ⟨b, 0, none⟩ Tryz.underlying177 Tryz.underlying110 hj hsh (by kernel_rfl)]
  simp only [Result.andThen]
  rw [Oper.upon_value]
  go_wp2
  go_end0
  exact ⟨rfl, rfl⟩
theorem b_check (b : Nat) (l : List UInt8) (w : World) (h : Bld w b l) :
    Calls Tryz.prog 131 #[.pointer (some ⟨b, 0, none⟩)] w fun e w' => e = .returned (.tuple #[]) ∧ Lib.BuilderAt 112 5 b b (.pointer (some ⟨b, 0, none⟩)) (Lib.byteCells l) w' ∧ Below b w w' := by
  rcases h with h | h
  · refine (b_fresh b w h.cell0 h.shape h.frozen0).mono ?_
    rintro e w' ⟨rfl, rfl⟩
    have h2 := h.used (.pointer (some ⟨b, 0, none⟩))
    obtain ⟨_, v, hb, _⟩ := h
    exact ⟨rfl, h2, (Below.refl b w).setCell (p := ⟨b, 0, none⟩) (Nat.le_refl _) _⟩
  · refine (b_used b w h.cell0).mono ?_
    rintro e w' ⟨rfl, rfl⟩
    exact ⟨rfl, h, Below.refl b _⟩
theorem info5 : (Tryz.prog.info? 5).map (fun i => (i.zero, i.size, i.bytes)) = some (some (.int .u8 0), 1, 1) := by kernel_rfl
set_option maxRecDepth 100000 in
set_option maxHeartbeats 2000000 in
theorem b_byte (b : Nat) (l : List UInt8) (c : UInt8) (w : World) (h : Bld w b l) (hlen : l.length ≤ 1000000) (v0 : Int) (hv0 : v0 = (c.toNat : Int)) :
    Calls Tryz.prog 93 #[.pointer (some ⟨b, 0, none⟩), .int .u8 v0] w fun e w' => e = .returned .nilIface ∧ Bld w' b (l ++ [c]) ∧ Below b w w' := by
  obtain ⟨i0, hi, hz0, hz1, hz2⟩ := info_parts info5
  have hcs : Lib.byteCells (l ++ [c]) = Lib.byteCells l ++ [.int .u8 v0] := by rw [hv0]; simp [Lib.byteCells]
  rw [show Bld = fun w b l => Lib.IsBuilder 112 5 b b (Lib.byteCells l) w from rfl]
  simp only [hcs]
  have hll : (Lib.byteCells l).length = l.length := by simp [Lib.byteCells]
  clear hcs hv0
  go_enter Tryz.func93, Tryz.ntmps93
  go_wp2_with fail
  refine (b_check b l _ h).mono ?_
  rintro e w1 ⟨rfl, h1, hb1⟩
  obtain ⟨hB, v, hbk, hown, hne⟩ := h1
  have c0 : w1.cell? ⟨b, 0, none⟩ = some (.pointer (some ⟨b, 0, none⟩)) := by rw [Lib.cell_of_heap hbk]; rfl
  have c1 : w1.cell? ⟨b, 1, none⟩ = some v := by rw [Lib.cell_of_heap hbk]; rfl
  have hlt : b < w1.heap.size := lt_of_row hbk
  go_wp2_with (at_builtin; refine wpList_append_own _ rfl _ _ 84 rfl b 5 i0 (.int .u8 0) 1 1 Tryz.underlying84 hi hz0 hz1 hz2 rfl (by decide) _ _ _ rfl (hown.alloc _) ⟨w1.heap.size, 0, none⟩ 1 1 [.int .u8 v0] rfl rfl ?c1 ?c2 ?c3 ?c4 ?c5 ?_)
  case c1 =>
    intro j u hj
    match j, hj with
    | 0, hj => simp at hj; subst hj; simp [Addr.add]
  case c2 => intro u hu; simp at hu; subst hu; rfl
  case c3 => unfold maxLen; omega
  case c4 => omega
  case c5 => simp; omega
  intro v' w2 hown' hgrow _
  have hb2 : w2.heap[b]? = some (.cells #[.pointer (some ⟨b, 0, none⟩), v] 112 (0, 0)) := by
    rw [hgrow.block b (by simp; omega) (fun e => hne e.symm), Lib.alloc_old w1 _ b hlt]
    exact hbk
  have d0 : w2.cell? ⟨b, 0, none⟩ = some (.pointer (some ⟨b, 0, none⟩)) := by rw [Lib.cell_of_heap hb2]; rfl
  have d1 : w2.cell? ⟨b, 1, none⟩ = some v := by rw [Lib.cell_of_heap hb2]; rfl
  have f1 : w2.frozen? ⟨b, 1, none⟩ = false := Lib.frozen_of_heap hb2 1
  obtain ⟨g, cap, rfl⟩ : ∃ g cap, v' = .slice (some ⟨g, 0, none⟩) (l.length + 1) cap := by
    rcases hown'.2 with ⟨_, h0⟩ | ⟨g, cap, cur, hv, _⟩
    · omega
    · exact ⟨g, cap, hv⟩
  go_wp2
  go_ret
  refine ⟨rfl, ?_, ?_⟩
  · exact Or.inr (Lib.BuilderAt.put (T := 112) (e := 5) hB hb2 (bs' := Lib.byteCells l ++ [.int .u8 v0]) (by simpa [hll] using hown') (by decide))
  · exact ((hb1.alloc (Nat.le_of_lt hlt) _).grown hgrow (by simp; omega) (fun k hk => (hown.lt k hk).1)).setCell (p := ⟨b, 1, none⟩) hB _
theorem bld_new (w : World) : Bld (w.alloc (.cells #[.pointer none, .slice none 0 0] 112)) w.heap.size [] := Lib.fresh_isBuilder 112 5 w
theorem Bld.lt {w : World} {b : Nat} {l : List UInt8} (h : Bld w b l) : b < w.heap.size := by
  rcases h with ⟨_, v, h, _⟩ | ⟨_, v, h, _⟩ <;> exact lt_of_row h
theorem b_str (b : Nat) (l : List UInt8) (w : World) (h : Bld w b l) :
    Calls Tryz.prog 65 #[.pointer (some ⟨b, 0, none⟩)] w fun e w' => e = .returned (.string ⟨l.toArray⟩) ∧ Below b w w' := Tryz.Builder_String_any b b l w h (Nat.le_of_lt h.lt)
end Go.Proofs.YtfemippjaokcmaaGreatDoor
