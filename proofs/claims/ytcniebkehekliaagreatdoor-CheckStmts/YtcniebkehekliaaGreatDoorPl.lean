/- Plain mathematics of words: blanks, names, digits, signs, texts between quotes, pairs of digits, and the words of a text (no program here). -/
namespace Go.Proofs.YtcniebkehekliaaGreatDoor
def blankB (x : Int) : Bool := decide (x = 32) || decide (x = 10) || decide (x = 9)
def digitB (x : Int) : Bool := decide (48 ≤ x) && decide (x ≤ 57)
def letB (x : Int) : Bool := decide (97 ≤ x) && decide (x ≤ 122) || decide (65 ≤ x) && decide (x ≤ 90)
def inNameB (x : Int) : Bool := letB x || digitB x || decide (x = 95)
def runL (p : Int → Bool) : List UInt8 → Nat
  | [] => 0
  | c :: r => if p (c.toNat : Int) = true then runL p r + 1 else 0
theorem runL_le (p : Int → Bool) : ∀ l : List UInt8, runL p l ≤ l.length
  | [] => Nat.le_refl _
  | c :: r => by
    have := runL_le p r
    unfold runL
    split
    · simp only [List.length_cons]; omega
    · exact Nat.zero_le _
theorem runL_take (p : Int → Bool) : ∀ (l : List UInt8), ∀ c ∈ l.take (runL p l), p (c.toNat : Int) = true
  | [], c, h => by simp at h
  | d :: r, c, h => by
    unfold runL at h
    split at h
    · next hd =>
      rw [List.take_succ_cons, List.mem_cons] at h
      rcases h with rfl | h
      · exact hd
      · exact runL_take p r c h
    · simp at h
theorem runL_eq (p : Int → Bool) : ∀ (l : List UInt8) (n : Nat), n ≤ l.length → (∀ c ∈ l.take n, p (c.toNat : Int) = true) → (∀ c, l[n]? = some c → p (c.toNat : Int) = false) → runL p l = n
  | [], n, h, _, _ => by simp at h; simp [h, runL]
  | d :: r, 0, _, _, h2 => by
    have := h2 d rfl
    unfold runL
    rw [this]
    rfl
  | d :: r, n + 1, h, h1, h2 => by
    unfold runL
    rw [if_pos (h1 d (by simp)), runL_eq p r n (by simpa using h) (fun c hc => h1 c (by rw [List.take_succ_cons]; exact List.mem_cons_of_mem _ hc)) (fun c hc => h2 c (by simpa using hc))]
theorem runL_app (p : Int → Bool) (post : List UInt8) (hp : ∀ c ∈ post, p (c.toNat : Int) = false) : ∀ l : List UInt8, runL p (l ++ post) = runL p l
  | [] => by
    cases post with
    | nil => rfl
    | cons c r => simp [runL, hp c (by simp)]
  | c :: l => by
    rw [List.cons_append]
    unfold runL
    rw [runL_app p post hp l]
theorem runL_pos (p : Int → Bool) {c : UInt8} (r : List UInt8) (h : p (c.toNat : Int) = true) : runL p (c :: r) = runL p r + 1 := by
  rw [runL, if_pos h]
theorem runL_no (p : Int → Bool) {c : UInt8} (r : List UInt8) (h : p (c.toNat : Int) = false) : runL p (c :: r) = 0 := by
  unfold runL; rw [h]; rfl
/- A text between quotes, behind its first quote: what it says, and how many bytes it takes. -/
def qL : List UInt8 → Option (List UInt8 × Nat)
  | [] => none
  | [c] => if c = 39 then some ([], 1) else none
  | c :: d :: r => if c = 39 then (if d = 39 then (qL r).map (fun x => (39 :: x.1, x.2 + 2)) else some ([], 1)) else (qL (d :: r)).map (fun x => (c :: x.1, x.2 + 1))
theorem qL_other {c : UInt8} (h : c ≠ 39) : ∀ r : List UInt8, qL (c :: r) = (qL r).map (fun x => (c :: x.1, x.2 + 1))
  | [] => by
    show (if c = 39 then some ([], 1) else none) = _
    rw [if_neg h]; rfl
  | d :: r => by rw [qL, if_neg h]
theorem qL_end {r : List UInt8} (h : r[0]? ≠ some 39) : qL (39 :: r) = some ([], 1) := by
  cases r with
  | nil => rw [qL, if_pos rfl]
  | cons d r => rw [qL, if_pos rfl, if_neg (fun e => h (by rw [e]; rfl))]
theorem qL_two (r : List UInt8) : qL (39 :: 39 :: r) = (qL r).map (fun x => (39 :: x.1, x.2 + 2)) := by
  rw [qL, if_pos rfl, if_pos rfl]
theorem qL_le : ∀ (l : List UInt8) (t : List UInt8) (n : Nat), qL l = some (t, n) → 1 ≤ n ∧ n ≤ l.length ∧ t.length < n
  | [], t, n, h => by cases h
  | [c], t, n, h => by
    rw [qL] at h
    split at h
    · injection h with h; injection h with h1 h2; subst h1 h2; simp
    · cases h
  | c :: d :: r, t, n, h => by
    rw [qL] at h
    split at h
    · split at h
      · cases hq : qL r with
        | none => rw [hq] at h; cases h
        | some x =>
          rw [hq] at h
          injection h with h; injection h with h1 h2
          have := qL_le r x.1 x.2 hq
          subst h1 h2
          simp only [List.length_cons]
          omega
      · injection h with h; injection h with h1 h2; subst h1 h2; simp
    · cases hq : qL (d :: r) with
      | none => rw [hq] at h; cases h
      | some x =>
        rw [hq] at h
        injection h with h; injection h with h1 h2
        have := qL_le (d :: r) x.1 x.2 hq
        subst h1 h2
        simp only [List.length_cons] at this ⊢
        omega
theorem qL_app (post : List UInt8) (hp : ∀ c ∈ post, c ≠ 39) : ∀ l : List UInt8, qL (l ++ post) = qL l
  | [] => by
    induction post with
    | nil => rfl
    | cons c r ih =>
      have := ih (fun c hc => hp c (List.mem_cons_of_mem _ hc))
      rw [List.nil_append] at this ⊢
      rw [qL_other (hp c (by simp)), this]
      rfl
  | [c] => by
    by_cases h : c = 39
    · subst h
      rw [List.cons_append, List.nil_append, qL_end (r := []) (by simp), qL_end]
      intro e
      cases post with
      | nil => cases e
      | cons d r => injection e with e; exact hp d (by simp) e
    · rw [List.cons_append, qL_other h, qL_app post hp [], ← qL_other h]
  | c :: d :: r => by
    rw [List.cons_append, List.cons_append, qL, qL, qL_app post hp r, ← List.cons_append, qL_app post hp (d :: r)]
/- Digits to the base 16. -/
def hexV (c : UInt8) : Nat := if 48 ≤ c.toNat ∧ c.toNat ≤ 57 then c.toNat - 48 else if 97 ≤ c.toNat ∧ c.toNat ≤ 102 then c.toNat - 87 else 16
def hexL : List UInt8 → Option (List UInt8)
  | [] => some []
  | [_] => none
  | a :: b :: r => if hexV a < 16 ∧ hexV b < 16 then (hexL r).map (fun x => UInt8.ofNat (hexV a * 16 + hexV b) :: x) else none
theorem hexL_odd : ∀ l : List UInt8, l.length % 2 = 1 → hexL l = none
  | [], h => by simp at h
  | [_], _ => rfl
  | a :: b :: r, h => by
    rw [hexL, hexL_odd r (by simp only [List.length_cons] at h; omega)]
    split <;> rfl
theorem hexL_len : ∀ (l t : List UInt8), hexL l = some t → t.length ≤ l.length
  | [], t, h => by injection h with h; subst h; simp
  | [_], t, h => by cases h
  | a :: b :: r, t, h => by
    rw [hexL] at h
    split at h
    · cases hq : hexL r with
      | none => rw [hq] at h; cases h
      | some x =>
        rw [hq] at h
        injection h with h
        have := hexL_len r x hq
        subst h
        simp only [List.length_cons]
        omega
    · cases h
/- Numbers. -/
def stp (a : Nat) (c : UInt8) : Nat := a * 10 + (c.toNat - 48)
def valL (a : Nat) (l : List UInt8) : Nat := l.foldl stp a
theorem valL_cons (a : Nat) (c : UInt8) (r : List UInt8) : valL a (c :: r) = valL (stp a c) r := by
  unfold valL
  rw [List.foldl_cons]
theorem valL_nil (a : Nat) : valL a [] = a := rfl
theorem valL_ge : ∀ (l : List UInt8) (a : Nat), a ≤ valL a l
  | [], _ => Nat.le_refl _
  | c :: r, a => by
    have := valL_ge r (stp a c)
    rw [valL_cons]
    unfold stp at this
    unfold stp
    omega
def numB (l : List UInt8) : Bool := !(decide (1 < l.length) && decide (l[0]? = some 48)) && decide (valL 0 l ≤ 9223372036854775807)
/- The language's own words. -/
def keysL : List (List UInt8) := [[65, 78, 68], [66, 89], [67, 79, 85, 78, 84], [67, 82, 69, 65, 84, 69], [68, 69, 76, 69, 84, 69], [68, 69, 83, 67], [70, 65, 76, 83, 69], [70, 82, 79, 77], [72, 73, 83, 84, 79, 82, 89], [73, 78, 68, 69, 88], [73, 78, 83, 69, 82, 84], [73, 78, 84, 79], [73, 83], [76, 73, 77, 73, 84], [78, 79, 84], [78, 85, 76, 76], [79, 78], [79, 82], [79, 82, 68, 69, 82], [83, 69, 76, 69, 67, 84], [83, 69, 84], [84, 65, 66, 76, 69], [84, 82, 85, 69], [85, 80, 68, 65, 84, 69], [86, 65, 76, 85, 69], [87, 72, 69, 82, 69]]
def keyB (l : List UInt8) : Bool := keysL.contains l
/- Signs. -/
def signsL : List UInt8 := [61, 60, 62, 43, 45, 42, 40, 41, 123, 125, 91, 93, 44, 58, 46]
def twoB (l : List UInt8) : Bool := [60, 62].isPrefixOf l || [60, 61].isPrefixOf l || [62, 61].isPrefixOf l
def signN (l : List UInt8) : Nat := if twoB l = true then 2 else match l with
  | [] => 0
  | c :: _ => if signsL.contains c = true then 1 else 0
/- The word that bytes begin with: its kind, what it says, how many bytes it takes. -/
def fstA : List UInt8 → Option (Nat × List UInt8 × Nat)
  | [] => none
  | c :: r =>
    if [120, 39].isPrefixOf (c :: r) = true then (qL (r.drop 1)).bind (fun x => (hexL x.1).map (fun t => (5, t, x.2 + 2)))
    else if (inNameB (c.toNat : Int) && !digitB (c.toNat : Int)) = true then
      let t := (c :: r).take (runL inNameB (c :: r))
      if keyB t = true then some (2, t, runL inNameB (c :: r)) else if t.length ≤ 16 then some (1, t, runL inNameB (c :: r)) else none
    else if digitB (c.toNat : Int) = true then
      let t := (c :: r).take (runL digitB (c :: r))
      if numB t = true then some (3, t, runL digitB (c :: r)) else none
    else if c = 39 then (qL r).map (fun x => (4, x.1, x.2 + 1))
    else if signN (c :: r) = 0 then none else some (6, (c :: r).take (signN (c :: r)), signN (c :: r))
theorem twoB_len {l : List UInt8} (h : twoB l = true) : 2 ≤ l.length := by
  unfold twoB at h
  rw [Bool.or_eq_true, Bool.or_eq_true, List.isPrefixOf_iff_prefix, List.isPrefixOf_iff_prefix, List.isPrefixOf_iff_prefix] at h
  rcases h with (h | h) | h <;> exact h.length_le
theorem signN_le (l : List UInt8) : signN l ≤ l.length := by
  unfold signN
  split
  · next h => exact twoB_len h
  · cases l with
    | nil => exact Nat.le_refl _
    | cons c r => dsimp only; split <;> simp
theorem fstA_le {l : List UInt8} {k : Nat} {t : List UInt8} {n : Nat} (h : fstA l = some (k, t, n)) : 1 ≤ n ∧ n ≤ l.length ∧ t.length ≤ l.length ∧ k ≤ 6 := by
  cases l with
  | nil => cases h
  | cons c r =>
    rw [fstA] at h
    split at h
    · cases hq : qL (r.drop 1) with
      | none => rw [hq] at h; cases h
      | some x =>
        rw [hq] at h
        cases hx : hexL x.1 with
        | none => simp [hx] at h
        | some u =>
          simp [hx] at h
          obtain ⟨h1, h2, h3⟩ := h
          subst h1 h2 h3
          have := qL_le _ x.1 x.2 hq
          have h4 := hexL_len _ _ hx
          simp only [List.length_drop, List.length_cons] at this ⊢
          omega
    · split at h
      · next hin =>
        have hr := runL_le inNameB (c :: r)
        have hp : 1 ≤ runL inNameB (c :: r) := by rw [runL_pos _ _ (Bool.and_eq_true_iff.1 hin).1]; omega
        dsimp only at h
        split at h
        · injection h with h; injection h with h1 h; injection h with h2 h3
          subst h1 h2 h3
          rw [List.length_take]; omega
        · split at h
          · injection h with h; injection h with h1 h; injection h with h2 h3
            subst h1 h2 h3
            rw [List.length_take]; omega
          · cases h
      · split at h
        · next hin =>
          have hr := runL_le digitB (c :: r)
          have hp : 1 ≤ runL digitB (c :: r) := by rw [runL_pos _ _ hin]; omega
          dsimp only at h
          split at h
          · injection h with h; injection h with h1 h; injection h with h2 h3
            subst h1 h2 h3
            rw [List.length_take]; omega
          · cases h
        · split at h
          · cases hq : qL r with
            | none => rw [hq] at h; cases h
            | some x =>
              rw [hq] at h
              injection h with h; injection h with h1 h; injection h with h2 h3
              subst h1 h2 h3
              have := qL_le _ x.1 x.2 hq
              simp only [List.length_cons]
              omega
          · split at h
            · cases h
            · have := signN_le (c :: r)
              injection h with h; injection h with h1 h; injection h with h2 h3
              subst h1 h2 h3
              rw [List.length_take]; omega
/- The words of a text. -/
structure Wd where
  k : Nat
  s : List UInt8
  a : Nat
def wdsF : Nat → List UInt8 → Nat → List Wd × Option Nat
  | 0, _, _ => ([], none)
  | _ + 1, [], _ => ([], none)
  | f + 1, c :: r, a =>
    if blankB (c.toNat : Int) = true then wdsF f r (a + 1)
    else match fstA (c :: r) with
      | none => ([], some a)
      | some (k, t, n) => (⟨k, t, a⟩ :: (wdsF f ((c :: r).drop n) (a + n)).1, (wdsF f ((c :: r).drop n) (a + n)).2)
theorem wdsF_fuel : ∀ (f g : Nat) (l : List UInt8) (a : Nat), l.length ≤ f → l.length ≤ g → wdsF f l a = wdsF g l a
  | 0, 0, _, _, _, _ => rfl
  | 0, g + 1, [], _, _, _ => rfl
  | f + 1, 0, [], _, _, _ => rfl
  | 0, _, c :: r, _, h, _ => by simp at h
  | _, 0, c :: r, _, _, h => by simp at h
  | f + 1, g + 1, [], _, _, _ => rfl
  | f + 1, g + 1, c :: r, a, h1, h2 => by
    simp only [List.length_cons] at h1 h2
    unfold wdsF
    rw [wdsF_fuel f g r (a + 1) (by omega) (by omega)]
    split
    · rfl
    · cases hf : fstA (c :: r) with
      | none => rfl
      | some x =>
        obtain ⟨k, t, n⟩ := x
        have := fstA_le hf
        dsimp only
        rw [wdsF_fuel f g ((c :: r).drop n) (a + n) (by simp only [List.length_drop, List.length_cons]; omega) (by simp only [List.length_drop, List.length_cons]; omega)]
def wdsL (l : List UInt8) (a : Nat) : List Wd × Option Nat := wdsF l.length l a
theorem wdsL_nil (a : Nat) : wdsL [] a = ([], none) := rfl
theorem wdsL_blank {c : UInt8} (r : List UInt8) (a : Nat) (h : blankB (c.toNat : Int) = true) : wdsL (c :: r) a = wdsL r (a + 1) := by
  unfold wdsL
  rw [List.length_cons]
  rw [wdsF, if_pos h]
theorem wdsL_none {c : UInt8} {r : List UInt8} (a : Nat) (h : blankB (c.toNat : Int) = false) (hf : fstA (c :: r) = none) : wdsL (c :: r) a = ([], some a) := by
  unfold wdsL
  rw [List.length_cons, wdsF, h, hf]
  rfl
theorem wdsL_some {c : UInt8} {r : List UInt8} {k n : Nat} {t : List UInt8} (a : Nat) (h : blankB (c.toNat : Int) = false) (hf : fstA (c :: r) = some (k, t, n)) : wdsL (c :: r) a = (⟨k, t, a⟩ :: (wdsL ((c :: r).drop n) (a + n)).1, (wdsL ((c :: r).drop n) (a + n)).2) := by
  have := fstA_le hf
  unfold wdsL
  rw [List.length_cons, wdsF, h, hf]
  dsimp only
  rw [wdsF_fuel r.length _ ((c :: r).drop n) (a + n) (by simp only [List.length_drop, List.length_cons]; omega) (Nat.le_refl _)]
  rfl
theorem wdsL_run : ∀ (l : List UInt8) (a : Nat), wdsL l a = wdsL (l.drop (runL blankB l)) (a + runL blankB l)
  | [], a => rfl
  | c :: r, a => by
    cases h : blankB (c.toNat : Int) with
    | true =>
      rw [wdsL_blank r a h, wdsL_run r (a + 1), runL_pos _ _ h, List.drop_succ_cons]
      congr 1
      omega
    | false => rw [runL_no _ _ h]; rfl
theorem wdsL_many : ∀ (f : Nat) (l : List UInt8) (a : Nat), l.length ≤ f → (wdsL l a).1.length ≤ l.length
  | _, [], a, _ => by simp [wdsL_nil]
  | 0, c :: r, _, h => by simp at h
  | f + 1, c :: r, a, h => by
    simp only [List.length_cons] at h
    cases hb : blankB (c.toNat : Int) with
    | true =>
      rw [wdsL_blank r a hb]
      have := wdsL_many f r (a + 1) (by omega)
      simp only [List.length_cons]; omega
    | false =>
      cases hf : fstA (c :: r) with
      | none => rw [wdsL_none a hb hf]; simp
      | some x =>
        obtain ⟨k, t, n⟩ := x
        have h1 := fstA_le hf
        rw [wdsL_some a hb hf]
        have := wdsL_many f ((c :: r).drop n) (a + n) (by simp only [List.length_drop, List.length_cons]; omega)
        simp only [List.length_drop, List.length_cons] at this ⊢
        omega
/- What is told of a text: its words and an end; or the place and the error. -/
def wordsR (l : List UInt8) : List Wd × Nat × Nat :=
  if 2000 < l.length then ([], 2000, 3) else match (wdsL l 0).2 with
    | none => ((wdsL l 0).1 ++ [⟨0, [], l.length⟩], 0, 0)
    | some p => ([], p, 110)
theorem wordsR_many (l : List UInt8) : (wordsR l).1.length ≤ l.length + 1 := by
  unfold wordsR
  split
  · simp
  · split
    · have := wdsL_many _ l 0 (Nat.le_refl _)
      simp; omega
    · simp
end Go.Proofs.YtcniebkehekliaaGreatDoor
