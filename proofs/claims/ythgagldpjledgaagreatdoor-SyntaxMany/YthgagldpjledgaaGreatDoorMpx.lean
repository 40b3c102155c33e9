/- Plain: words of long texts, one unit behind the other (no program here). Plain: too many parts, columns, fields, expressions (no program here). -/
import Derived.Test.YthgagldpjledgaaGreatDoorWfx
import Derived.Test.YthgagldpjledgaaGreatDoorPar
namespace Go.Proofs.YthgagldpjledgaaGreatDoor
open Go.RowKit Go.Shelf
def shp (x : Wd) : Nat × List UInt8 := (x.k, x.s)
/- The shapes of a text's words, all of which may be. -/
def Lx (l : List UInt8) (S : List (Nat × List UInt8)) : Prop := ∀ a, (wdsL l a).1.map shp = S ∧ (wdsL l a).2 = none
theorem Lx.nil : Lx [] [] := fun a => by rw [wdsL_nil]; exact ⟨rfl, rfl⟩
theorem Lx.blank {l : List UInt8} {S : List (Nat × List UInt8)} (h : Lx l S) : Lx (32 :: l) S := fun a => by
  rw [wdsL_blank l a (by decide)]
  exact h _
theorem Lx.word {c : UInt8} {l r : List UInt8} {S : List (Nat × List UInt8)} {k n : Nat} {t : List UInt8} (h : Lx r S) (hb : blankB (c.toNat : Int) = false) (hf : fstA (c :: l) = some (k, t, n)) (hd : (c :: l).drop n = r) : Lx (c :: l) ((k, t) :: S) := fun a => by
  rw [wdsL_some a hb hf, hd]
  have := h (a + n)
  exact ⟨by simp only [List.map_cons, this.1]; rfl, this.2⟩
theorem runL_word (p : Int → Bool) : ∀ (t r : List UInt8), (∀ c ∈ t, p (c.toNat : Int) = true) → (∀ d, r[0]? = some d → p (d.toNat : Int) = false) → runL p (t ++ r) = t.length
  | [], r, _, hr => by
    cases r with
    | nil => rfl
    | cons d r => exact runL_no p r (hr d rfl)
  | c :: t, r, h, hr => by
    rw [List.cons_append, runL_pos p _ (h c (by simp)), runL_word p t r (fun x hx => h x (by simp [hx])) hr]
    rfl
theorem two_first {c : UInt8} {l : List UInt8} {x y : UInt8} (h : c ≠ x) : [x, y].isPrefixOf (c :: l) = false := by
  have e : (x == c) = false := by simpa using fun e => h e.symm
  simp only [List.isPrefixOf, e, Bool.false_and]
/- A word of letters; what stands behind it is no letter. -/
theorem Lx.name {c : UInt8} {t r : List UInt8} {S : List (Nat × List UInt8)} (h : Lx r S) (hc : c ≠ 120) (hb : blankB (c.toNat : Int) = false) (hin : (inNameB (c.toNat : Int) && !digitB (c.toNat : Int)) = true) (ht : ∀ d ∈ c :: t, inNameB (d.toNat : Int) = true) (hr : ∀ d, r[0]? = some d → inNameB (d.toNat : Int) = false) (hl : (c :: t).length ≤ 16) :
    Lx ((c :: t) ++ r) ((if keyB (c :: t) then 2 else 1, c :: t) :: S) := by
  have hrun := runL_word inNameB (c :: t) r ht hr
  refine Lx.word (n := (c :: t).length) h hb ?_ (List.drop_left (l₁ := c :: t) (l₂ := r))
  have hrun' : runL inNameB (c :: (t ++ r)) = (c :: t).length := hrun
  have htk : (c :: (t ++ r)).take (c :: t).length = c :: t := List.take_left (l₁ := c :: t) (l₂ := r)
  show fstA (c :: (t ++ r)) = _
  rw [fstA, if_neg (by rw [two_first hc]; exact Bool.false_ne_true), if_pos hin]
  simp only [hrun', htk]
  split
  · rfl
  · first
    | rfl
    | rw [if_pos hl]
/- A sign that is no < and no >. -/
theorem Lx.sign {c : UInt8} {r : List UInt8} {S : List (Nat × List UInt8)} (h : Lx r S) (hc : c ∈ ([61, 43, 91, 93, 44] : List UInt8)) : Lx (c :: r) ((6, [c]) :: S) := by
  refine Lx.word (n := 1) h ?_ ?_ rfl
  · simp only [List.mem_cons, List.not_mem_nil, or_false] at hc
    rcases hc with rfl | rfl | rfl | rfl | rfl <;> decide
  · have h1 : c ≠ 120 ∧ c ≠ 60 ∧ c ≠ 62 ∧ (inNameB (c.toNat : Int) && !digitB (c.toNat : Int)) = false ∧ digitB (c.toNat : Int) = false ∧ c ≠ 39 ∧ signsL.contains c = true := by
      simp only [List.mem_cons, List.not_mem_nil, or_false] at hc
      rcases hc with rfl | rfl | rfl | rfl | rfl <;> decide
    obtain ⟨h1, h2, h3, h4, h5, h6, h7⟩ := h1
    have hs : signN (c :: r) = 1 := by
      unfold signN twoB
      rw [two_first h2, two_first h2, two_first h3]
      simp only [Bool.or_self, Bool.false_eq_true, if_false]
      rw [if_pos h7]
    rw [fstA, if_neg (by rw [two_first h1]; exact Bool.false_ne_true), if_neg (by rw [h4]; exact Bool.false_ne_true), if_neg (by rw [h5]; exact Bool.false_ne_true), if_neg h6, hs]
    rfl
/- The number 1. -/
theorem Lx.one {r : List UInt8} {S : List (Nat × List UInt8)} (h : Lx r S) (hr : ∀ d, r[0]? = some d → digitB (d.toNat : Int) = false) : Lx (49 :: r) ((3, [49]) :: S) := by
  refine Lx.word (n := 1) h (by decide) ?_ rfl
  have hrun : runL digitB (49 :: r) = 1 := runL_word digitB [49] r (by decide) hr
  rw [fstA, if_neg (by rw [two_first (by decide)]; exact Bool.false_ne_true), if_neg (by decide), if_pos (by decide)]
  simp only [hrun]
  rfl
def rep {α : Type} (u : List α) : Nat → List α
  | 0 => []
  | n + 1 => u ++ rep u n
theorem rep_end {α : Type} (u : List α) : ∀ n, rep u n ++ u = u ++ rep u n
  | 0 => by simp [rep]
  | n + 1 => by
    simp only [rep, List.append_assoc]
    rw [rep_end u n]
theorem rep_at {α : Type} (u v : List α) : ∀ (n j t : Nat), j < n → t < u.length → (rep u n ++ v)[j * u.length + t]? = u[t]?
  | 0, j, t, h, _ => absurd h (Nat.not_lt_zero _)
  | n + 1, 0, t, _, ht => by
    rw [Nat.zero_mul, Nat.zero_add]
    simp only [rep, List.append_assoc]
    rw [List.getElem?_append_left ht]
  | n + 1, j + 1, t, h, ht => by
    simp only [rep, List.append_assoc]
    have e : (j + 1) * u.length + t = u.length + (j * u.length + t) := by rw [Nat.add_mul]; omega
    rw [e, List.getElem?_append_right (by omega), Nat.add_sub_cancel_left]
    exact rep_at u v n j t (by omega) ht
theorem rep_len {α : Type} (u : List α) : ∀ n, (rep u n).length = n * u.length
  | 0 => by simp [rep]
  | n + 1 => by
    simp only [rep, List.length_append, rep_len u n]
    rw [Nat.add_mul]
    omega
/- Texts with something between them. -/
def lsL (s sep : List UInt8) : Nat → List UInt8
  | 0 => s
  | n + 1 => lsL s sep n ++ (sep ++ s)
theorem lsL_rep (s sep : List UInt8) : ∀ n, lsL s sep n = rep (s ++ sep) n ++ s
  | 0 => by simp [lsL, rep]
  | n + 1 => by
    simp only [lsL, lsL_rep s sep n, rep]
    rw [← rep_end (s ++ sep) n]
    simp [List.append_assoc]
def mText (q i : Nat) : List UInt8 :=
  if q = 0 then [73, 78, 83, 69, 82, 84, 32, 73, 78, 84, 79, 32, 116, 32, 86, 65, 76, 85, 69, 32, 91] ++ lsL [49] [44, 32] i ++ [93]
  else if q = 1 then [83, 69, 76, 69, 67, 84, 32] ++ lsL [97] [44, 32] i ++ [32, 70, 82, 79, 77, 32, 116]
  else if q = 2 then [85, 80, 68, 65, 84, 69, 32, 116, 32, 83, 69, 84, 32] ++ lsL [97, 32, 61, 32, 49] [44, 32] i
  else [68, 69, 76, 69, 84, 69, 32, 70, 82, 79, 77, 32, 116, 32, 87, 72, 69, 82, 69, 32] ++ lsL [97] [43] i
theorem none0 (r : List UInt8) (p : Int → Bool) (c : UInt8) (h : p (c.toNat : Int) = false) : ∀ d, (c :: r)[0]? = some d → p (d.toNat : Int) = false := fun d hd => by
  have e : c = d := by simpa using hd
  rw [← e]
  exact h
theorem noneN (p : Int → Bool) : ∀ d, ([] : List UInt8)[0]? = some d → p (d.toNat : Int) = false := fun d hd => by simp at hd
theorem Lx.rep {u : List UInt8} {U : List (Nat × List UInt8)} (hu : ∀ {l S}, Lx l S → (l = [] ∨ True) → Lx (u ++ l) (U ++ S)) {v : List UInt8} {V : List (Nat × List UInt8)} (hv : Lx v V) : ∀ n, Lx (rep u n ++ v) (Go.Proofs.YthgagldpjledgaaGreatDoor.rep U n ++ V)
  | 0 => hv
  | n + 1 => by
    have h := hu (Lx.rep hu hv n) (Or.inr trivial)
    simp only [Go.Proofs.YthgagldpjledgaaGreatDoor.rep, List.append_assoc]
    exact h
/- The shapes of the four kinds of texts. -/
theorem lx0 (i : Nat) : Lx (mText 0 i) ([(2, [73, 78, 83, 69, 82, 84]), (2, [73, 78, 84, 79]), (1, [116]), (2, [86, 65, 76, 85, 69]), (6, [91])] ++ (rep [(3, [49]), (6, [44])] i ++ [(3, [49]), (6, [93])])) := by
  have e : mText 0 i = [73, 78, 83, 69, 82, 84] ++ (32 :: ([73, 78, 84, 79] ++ (32 :: ([116] ++ (32 :: ([86, 65, 76, 85, 69] ++ (32 :: (91 :: (rep [49, 44, 32] i ++ [49, 93]))))))))) := by
    unfold mText
    rw [if_pos rfl, lsL_rep]
    simp
  rw [e]
  have hu : ∀ {l S}, Lx l S → (l = [] ∨ True) → Lx ([49, 44, 32] ++ l) ([(3, [49]), (6, [44])] ++ S) := fun h _ => Lx.one (Lx.sign h.blank (by decide)) (none0 _ _ _ (by decide))
  have hv : Lx [49, 93] [(3, [49]), (6, [93])] := Lx.one (Lx.sign Lx.nil (by decide)) (none0 _ _ _ (by decide))
  exact Lx.name (Lx.blank (Lx.name (Lx.blank (Lx.name (Lx.blank (Lx.name (Lx.blank (Lx.sign (Lx.rep hu hv i) (by decide))) (by decide) (by decide) (by decide) (by decide) (none0 _ _ _ (by decide)) (by decide))) (by decide) (by decide) (by decide) (by decide) (none0 _ _ _ (by decide)) (by decide))) (by decide) (by decide) (by decide) (by decide) (none0 _ _ _ (by decide)) (by decide))) (by decide) (by decide) (by decide) (by decide) (none0 _ _ _ (by decide)) (by decide)
theorem lx1 (i : Nat) : Lx (mText 1 i) ([(2, [83, 69, 76, 69, 67, 84])] ++ (rep [(1, [97]), (6, [44])] i ++ [(1, [97]), (2, [70, 82, 79, 77]), (1, [116])])) := by
  have e : mText 1 i = [83, 69, 76, 69, 67, 84] ++ (32 :: (rep [97, 44, 32] i ++ ([97] ++ (32 :: ([70, 82, 79, 77] ++ (32 :: ([116] ++ []))))))) := by
    unfold mText
    rw [if_neg (by decide), if_pos rfl, lsL_rep]
    simp
  rw [e]
  have hu : ∀ {l S}, Lx l S → (l = [] ∨ True) → Lx ([97, 44, 32] ++ l) ([(1, [97]), (6, [44])] ++ S) := fun h _ => Lx.name (c := 97) (t := []) (Lx.sign h.blank (by decide)) (by decide) (by decide) (by decide) (by decide) (none0 _ _ _ (by decide)) (by decide)
  have hv : Lx ([97] ++ (32 :: ([70, 82, 79, 77] ++ (32 :: ([116] ++ []))))) [(1, [97]), (2, [70, 82, 79, 77]), (1, [116])] := Lx.name (Lx.blank (Lx.name (Lx.blank (Lx.name Lx.nil (by decide) (by decide) (by decide) (by decide) (noneN _) (by decide))) (by decide) (by decide) (by decide) (by decide) (none0 _ _ _ (by decide)) (by decide))) (by decide) (by decide) (by decide) (by decide) (none0 _ _ _ (by decide)) (by decide)
  exact Lx.name (Lx.blank (Lx.rep hu hv i)) (by decide) (by decide) (by decide) (by decide) (none0 _ _ _ (by decide)) (by decide)
theorem lx2 (i : Nat) : Lx (mText 2 i) ([(2, [85, 80, 68, 65, 84, 69]), (1, [116]), (2, [83, 69, 84])] ++ (rep [(1, [97]), (6, [61]), (3, [49]), (6, [44])] i ++ [(1, [97]), (6, [61]), (3, [49])])) := by
  have e : mText 2 i = [85, 80, 68, 65, 84, 69] ++ (32 :: ([116] ++ (32 :: ([83, 69, 84] ++ (32 :: (rep [97, 32, 61, 32, 49, 44, 32] i ++ ([97] ++ (32 :: 61 :: 32 :: 49 :: [])))))))) := by
    unfold mText
    rw [if_neg (by decide), if_neg (by decide), if_pos rfl, lsL_rep]
    simp
  rw [e]
  have hu : ∀ {l S}, Lx l S → (l = [] ∨ True) → Lx ([97, 32, 61, 32, 49, 44, 32] ++ l) ([(1, [97]), (6, [61]), (3, [49]), (6, [44])] ++ S) := fun h _ => Lx.name (c := 97) (t := []) (Lx.blank (Lx.sign (Lx.blank (Lx.one (Lx.sign h.blank (by decide)) (none0 _ _ _ (by decide)))) (by decide))) (by decide) (by decide) (by decide) (by decide) (none0 _ _ _ (by decide)) (by decide)
  have hv : Lx ([97] ++ (32 :: 61 :: 32 :: 49 :: [])) [(1, [97]), (6, [61]), (3, [49])] := Lx.name (Lx.blank (Lx.sign (Lx.blank (Lx.one Lx.nil (noneN _))) (by decide))) (by decide) (by decide) (by decide) (by decide) (none0 _ _ _ (by decide)) (by decide)
  exact Lx.name (Lx.blank (Lx.name (Lx.blank (Lx.name (Lx.blank (Lx.rep hu hv i)) (by decide) (by decide) (by decide) (by decide) (none0 _ _ _ (by decide)) (by decide))) (by decide) (by decide) (by decide) (by decide) (none0 _ _ _ (by decide)) (by decide))) (by decide) (by decide) (by decide) (by decide) (none0 _ _ _ (by decide)) (by decide)
theorem lx3 (i : Nat) : Lx (mText 3 i) ([(2, [68, 69, 76, 69, 84, 69]), (2, [70, 82, 79, 77]), (1, [116]), (2, [87, 72, 69, 82, 69])] ++ (rep [(1, [97]), (6, [43])] i ++ [(1, [97])])) := by
  have e : mText 3 i = [68, 69, 76, 69, 84, 69] ++ (32 :: ([70, 82, 79, 77] ++ (32 :: ([116] ++ (32 :: ([87, 72, 69, 82, 69] ++ (32 :: (rep [97, 43] i ++ ([97] ++ []))))))))) := by
    unfold mText
    rw [if_neg (by decide), if_neg (by decide), if_neg (by decide), lsL_rep]
    simp
  rw [e]
  have hu : ∀ {l S}, Lx l S → (l = [] ∨ True) → Lx ([97, 43] ++ l) ([(1, [97]), (6, [43])] ++ S) := fun h _ => Lx.name (c := 97) (t := []) (Lx.sign h (by decide)) (by decide) (by decide) (by decide) (by decide) (none0 _ _ _ (by decide)) (by decide)
  have hv : Lx ([97] ++ []) [(1, [97])] := Lx.name Lx.nil (by decide) (by decide) (by decide) (by decide) (noneN _) (by decide)
  exact Lx.name (Lx.blank (Lx.name (Lx.blank (Lx.name (Lx.blank (Lx.name (Lx.blank (Lx.rep hu hv i)) (by decide) (by decide) (by decide) (by decide) (none0 _ _ _ (by decide)) (by decide))) (by decide) (by decide) (by decide) (by decide) (none0 _ _ _ (by decide)) (by decide))) (by decide) (by decide) (by decide) (by decide) (none0 _ _ _ (by decide)) (by decide))) (by decide) (by decide) (by decide) (by decide) (none0 _ _ _ (by decide)) (by decide)
/- Out of shapes: the words that were told. -/
theorem words_shape {l : List UInt8} {S : List (Nat × List UInt8)} (h : Lx l S) (hl : l.length ≤ 2000) : (wordsR l).2.2 = 0 ∧ (wordsR l).1.length = S.length + 1 ∧ ∀ n x, S[n]? = some x → (wAt (wordsR l).1 n).k = x.1 ∧ (wAt (wordsR l).1 n).s = x.2 := by
  obtain ⟨h1, h2⟩ := h 0
  have e : wordsR l = ((wdsL l 0).1 ++ [⟨0, [], l.length⟩], 0, 0) := by
    unfold wordsR
    rw [if_neg (by omega), h2]
  rw [e]
  have hlen : (wdsL l 0).1.length = S.length := by rw [← h1]; simp
  refine ⟨rfl, by simp [hlen], fun n x hx => ?_⟩
  have hn : n < (wdsL l 0).1.length := by rw [hlen]; exact (List.getElem?_eq_some_iff.1 hx).1
  rw [wAt_app_left hn]
  rw [← h1, List.getElem?_map, List.getElem?_eq_getElem hn] at hx
  have hx' : shp (wdsL l 0).1[n] = x := by simpa using hx
  rw [← hx']
  exact ⟨rfl, rfl⟩
end Go.Proofs.YthgagldpjledgaaGreatDoor
namespace Go.Proofs.YthgagldpjledgaaGreatDoor
open Go.RowKit Go.Shelf
theorem loop_stop {ws : List Wd} {f : PS → Et × PS} {rank : Nat} {x : Et × PS} (h : rankI (wAt ws x.2.at') ≠ (rank : Int)) : ∀ n, loopF ws f rank n x = x
  | 0 => rfl
  | n + 1 => by unfold loopF; rw [if_neg h]
theorem isP_no {x : Wd} {k j : Nat} {l : List UInt8} (h : x.k = j) (hj : j ≠ k) : isP x k l = false := by
  unfold isP
  rw [h]
  simp [hj]
theorem isP_not {x : Wd} {k : Nat} {l t : List UInt8} (h : x.s = t) (hj : (t == l) = false) : isP x k l = false := by
  unfold isP
  rw [h, hj]
  simp
theorem isP_yes {x : Wd} {k : Nat} {l : List UInt8} (h : x.k = k ∧ x.s = l) : isP x k l = true := by
  unfold isP
  rw [h.1, h.2]
  simp
/- Ahead of what ends an expression. -/
theorem pr_up {ws : List Wd} (n : Nat) (s : PS) {Y : Et × PS} (hY : pr ws (n + 3) 4 s = Y) (hn : isP (wAt ws s.at') 2 [78, 79, 84] = false) (hr : rankI (wAt ws Y.2.at') = -1) (hi : isP (wAt ws Y.2.at') 2 [73, 83] = false) : pr ws (n + 7) 0 s = Y := by
  have e3 : pr ws (n + 4) 3 s = Y := by
    have e : pr ws (n + 4) 3 s = cmpF ws (pr ws (n + 3) 4) s := rfl
    rw [e]
    have es : cmpS ws (pr ws (n + 3) 4) Y = Y := by
      unfold cmpS
      rw [if_neg (by rw [hr]; decide)]
    unfold cmpF
    rw [hY, es]
    unfold cmpI
    rw [if_neg (by rw [hi]; exact Bool.false_ne_true)]
  have e2 : pr ws (n + 5) 2 s = Y := by
    have e : pr ws (n + 5) 2 s = negF ws (pr ws (n + 4)) s := rfl
    rw [e]
    unfold negF
    rw [if_neg (by rw [hn]; exact Bool.false_ne_true), e3]
  have e1 : pr ws (n + 6) 1 s = Y := by
    have e : pr ws (n + 6) 1 s = loopF ws (pr ws (n + 5) 2) 1 ws.length (pr ws (n + 5) 2 s) := rfl
    rw [e, e2]
    exact loop_stop (by rw [hr]; decide) _
  have e : pr ws (n + 7) 0 s = loopF ws (pr ws (n + 6) 1) 0 ws.length (pr ws (n + 6) 1 s) := rfl
  rw [e, e1]
  exact loop_stop (by rw [hr]; decide) _
theorem pr5 {ws : List Wd} (n : Nat) (s : PS) {Y : Et × PS} (hY : strF ws (pr ws n) s = Y) (hr : rankI (wAt ws Y.2.at') ≠ 5) : pr ws (n + 2) 5 s = Y := by
  have e : pr ws (n + 2) 5 s = loopF ws (pr ws (n + 1) 6) 5 ws.length (pr ws (n + 1) 6 s) := rfl
  have e6 : pr ws (n + 1) 6 s = Y := hY
  rw [e, e6]
  exact loop_stop hr _
theorem pr_one {ws : List Wd} (n : Nat) (s : PS) {Y : Et × PS} (hY : strF ws (pr ws n) s = Y) (hn : isP (wAt ws s.at') 2 [78, 79, 84] = false) (hr : rankI (wAt ws Y.2.at') = -1) (hi : isP (wAt ws Y.2.at') 2 [73, 83] = false) : pr ws (n + 7) 0 s = Y := by
  refine pr_up n s ?_ hn hr hi
  have e : pr ws (n + 3) 4 s = loopF ws (pr ws (n + 2) 5) 4 ws.length (pr ws (n + 2) 5 s) := rfl
  rw [e, pr5 n s hY (by rw [hr]; decide)]
  exact loop_stop (by rw [hr]; decide) _
/- A number, a path alone. -/
theorem str_num {ws : List Wd} (go : Nat → PS → Et × PS) {a x e r p : Nat} (hk : (wAt ws a).k = 3) (hs : (wAt ws a).s = [49]) (he : e + 1 ≤ 24) (hx : x + 1 ≤ 200) : ∃ t, strF ws go ⟨a, x, e, r, p⟩ = (t, ⟨a + 1, x + 1, e, r, p⟩) := by
  have hd : deepP ws ⟨a, x, e, r, p⟩ = ⟨a, x, e + 1, r, p⟩ := by
    unfold deepP
    simp only
    rw [if_neg (by omega)]
  have hl : litV (wAt ws a) = some (2, false, 1, ⟨#[]⟩) := by
    unfold litV
    rw [if_pos hk, hs]
    have h : Lib.parseIntB 64 [49] = .ok 1 := by decide +kernel
    rw [h]
  refine ⟨litT (2, false, 1, ⟨#[]⟩), ?_⟩
  unfold strF
  rw [hd]
  unfold strB
  simp only
  rw [if_neg (by omega), if_neg (by rw [isP_no hk (by decide)]; exact Bool.false_ne_true), if_neg (by rw [isP_no hk (by decide)]; exact Bool.false_ne_true), if_neg (by rw [isP_no hk (by decide)]; exact Bool.false_ne_true), if_neg (by rw [isP_no hk (by decide)]; exact Bool.false_ne_true)]
  unfold litF
  simp only [hl]
  unfold wholeP takeP backP
  simp only
  rw [if_neg (by omega)]
  rfl
theorem path_one {ws : List Wd} {a x e r p : Nat} (hk : (wAt ws a).k = 1) (hp : isP (wAt ws (a + 1)) 6 [46] = false) : ∃ t, pathF ws ⟨a, x, e, r, p⟩ = (t, ⟨a + 1, x, e, r, p⟩) := by
  have hn : nameP ws ⟨a, x, e, r, p⟩ = ⟨a + 1, x, e, r, p⟩ := by
    unfold nameP
    rw [if_pos hk]
    rfl
  have hl : ∀ n l, (pathL ws n l ⟨a + 1, x, e, r, p⟩) = (l, ⟨a + 1, x, e, r, p⟩) := by
    intro n l
    cases n with
    | zero => rfl
    | succ n =>
      unfold pathL
      rw [if_neg (by rw [hp]; exact Bool.false_ne_true)]
  refine ⟨⟨(joinB [nameS ws ⟨a, x, e, r, p⟩]).toArray⟩, ?_⟩
  unfold pathF
  rw [hn, hl]
theorem str_path {ws : List Wd} (go : Nat → PS → Et × PS) {a x e r p : Nat} (hk : (wAt ws a).k = 1) (hp : isP (wAt ws (a + 1)) 6 [46] = false) (he : e + 1 ≤ 24) (hx : x + 1 ≤ 200) : ∃ t, strF ws go ⟨a, x, e, r, p⟩ = (t, ⟨a + 1, x + 1, e, r, p⟩) := by
  have hd : deepP ws ⟨a, x, e, r, p⟩ = ⟨a, x, e + 1, r, p⟩ := by
    unfold deepP
    simp only
    rw [if_neg (by omega)]
  obtain ⟨t, ht⟩ := path_one (x := x) (e := e + 1) (r := r) (p := p) hk hp
  refine ⟨fieldT t, ?_⟩
  unfold strF
  rw [hd]
  unfold strB
  simp only
  rw [if_pos hk, ht]
  unfold wholeP backP
  simp only
  rw [if_neg (by omega)]
  rfl
/- One by one, up to as many as there may be. -/
theorem com_over {α : Type} {ws : List Wd} {one : PS → α × PS} (st : Nat → PS) (h : ∀ j, j < 32 → isP (wAt ws (one (st j)).2.at') 6 [44] = true ∧ takeP (one (st j)).2 = st (j + 1)) : ∀ (d : Nat) (l : List α), l.length + d = 32 → comF ws one (d + 1) l (st l.length) = ([], failP ws (st 32) 3)
  | 0, l, hl => by
    have e : l.length = 32 := by omega
    unfold comF
    rw [if_pos e, e]
  | d + 1, l, hl => by
    obtain ⟨h1, h2⟩ := h l.length (by omega)
    unfold comF
    rw [if_neg (by omega), if_pos h1, h2]
    have e : (l ++ [(one (st l.length)).1]).length = l.length + 1 := by simp
    rw [← e]
    exact com_over st h d _ (by rw [e]; omega)
theorem com_all {α : Type} {ws : List Wd} {one : PS → α × PS} (st : Nat → PS) (h : ∀ j, j < 32 → isP (wAt ws (one (st j)).2.at') 6 [44] = true ∧ takeP (one (st j)).2 = st (j + 1)) : comF ws one 33 [] (st 0) = ([], failP ws (st 32) 3) := com_over st h 32 [] rfl
theorem fail_new {ws : List Wd} {a x e p : Nat} (c : Nat) : failP ws ⟨a, x, e, 0, p⟩ c = ⟨ws.length - 1, x, e, c, (wAt ws a).a⟩ := by
  unfold failP
  rw [if_pos rfl]
theorem fail_old {ws : List Wd} {s : PS} (h : s.er ≠ 0) (c : Nat) : failP ws s c = s := by
  unfold failP
  rw [if_neg h]
theorem must_yes {ws : List Wd} {a x e r p k : Nat} {l : List UInt8} (h : (wAt ws a).k = k ∧ (wAt ws a).s = l) : mustQ ws ⟨a, x, e, r, p⟩ k l = ⟨a + 1, x, e, r, p⟩ := by
  unfold mustQ
  rw [if_pos (isP_yes h)]
  rfl
theorem must_end {ws : List Wd} {s : PS} (hk : (wAt ws s.at').k = 0) (he : s.er ≠ 0) (k : Nat) (h0 : k ≠ 0) (l : List UInt8) : mustQ ws s k l = s := by
  unfold mustQ
  rw [if_neg (by rw [isP_no hk (Ne.symm h0)]; exact Bool.false_ne_true), fail_old he]
theorem name_yes {ws : List Wd} {a x e r p : Nat} (h : (wAt ws a).k = 1) : nameP ws ⟨a, x, e, r, p⟩ = ⟨a + 1, x, e, r, p⟩ := by
  unfold nameP
  rw [if_pos h]
  rfl
theorem name_end {ws : List Wd} {s : PS} (hk : (wAt ws s.at').k = 0) (he : s.er ≠ 0) : nameP ws s = s := by
  unfold nameP
  rw [if_neg (by omega), fail_old he]
theorem rank_end {x : Wd} (h : x.k = 0) : rankI x = -1 := by
  unfold rankI
  rw [h]
  rfl
/- An error at the end of all stays. -/
theorem par_er {l : List UInt8} (hw : (wordsR l).2.2 = 0) {u : PS} (hu : (stmF (wordsR l).1 ps0).2 = u) (hk : (wAt (wordsR l).1 u.at').k = 0) {c : Nat} (he : u.er = c) (hc : c ≠ 0) : (parF l).2.2 = c := by
  have e : parP l = u := by
    unfold parP
    rw [hu]
    unfold endP
    rw [if_pos hk]
  unfold parF
  rw [if_neg (fun h => h hw), e, if_pos (by omega)]
  exact he
/- INSERT of a list, SELECT of columns, SET of fields, a sum: one more than there may be. -/
theorem many0 (i : Nat) (hi : 32 ≤ i) (hl : (mText 0 i).length ≤ 2000) : (parF (mText 0 i)).2.2 = 3 := by
  obtain ⟨h0, hlen, hat⟩ := words_shape (lx0 i) hl
  obtain ⟨hz, -, -, -, -⟩ := words_ok h0
  have hun : ∀ j t, j < i → t < 2 → ([(2, [73, 78, 83, 69, 82, 84]), (2, [73, 78, 84, 79]), (1, [116]), (2, [86, 65, 76, 85, 69]), (6, [91])] ++ (rep [(3, [49]), (6, [44])] i ++ [(3, [49]), (6, [93])]) : List (Nat × List UInt8))[5 + (j * 2 + t)]? = ([(3, [49]), (6, [44])] : List (Nat × List UInt8))[t]? := fun j t hj ht => by
    rw [List.getElem?_append_right (by simp)]
    have e : 5 + (j * 2 + t) - ([(2, [73, 78, 83, 69, 82, 84]), (2, [73, 78, 84, 79]), (1, [116]), (2, [86, 65, 76, 85, 69]), (6, [91])] : List (Nat × List UInt8)).length = j * 2 + t := by simp
    rw [e]
    exact rep_at _ _ i j t hj ht
  have a0 := hat 0 _ rfl
  have a1 := hat 1 _ rfl
  have a2 := hat 2 _ rfl
  have a3 := hat 3 _ rfl
  have a4 := hat 4 _ rfl
  have u0 : ∀ j, j < i → (wAt (wordsR (mText 0 i)).1 (5 + j * 2)).k = 3 ∧ (wAt (wordsR (mText 0 i)).1 (5 + j * 2)).s = [49] := fun j hj => hat (5 + j * 2) _ (hun j 0 hj (by decide))
  have u1 : ∀ j, j < i → (wAt (wordsR (mText 0 i)).1 (5 + j * 2 + 1)).k = 6 ∧ (wAt (wordsR (mText 0 i)).1 (5 + j * 2 + 1)).s = [44] := fun j hj => hat (5 + j * 2 + 1) _ (hun j 1 hj (by decide))
  obtain ⟨ws, hws⟩ : ∃ ws, (wordsR (mText 0 i)).1 = ws := ⟨_, rfl⟩
  rw [hws] at hlen hz a0 a1 a2 a3 a4 u0 u1
  have hpos : 0 < ws.length := by omega
  have hend : (wAt ws (ws.length - 1)).k = 0 := (hz _ (by omega)).2 (by omega)
  have hone : ∀ j, j < 32 → ∃ t, pr ws 293 0 ⟨5 + j * 2, j, 1, 0, 0⟩ = (t, ⟨5 + j * 2 + 1, j + 1, 1, 0, 0⟩) := fun j hj => by
    obtain ⟨t, ht⟩ := str_num (pr ws 286) (x := j) (e := 1) (r := 0) (p := 0) (u0 j (by omega)).1 (u0 j (by omega)).2 (by decide) (by omega)
    refine ⟨t, pr_one 286 _ ht (isP_no (u0 j (by omega)).1 (by decide)) ?_ (isP_no (u1 j (by omega)).1 (by decide))⟩
    unfold rankI
    rw [(u1 j (by omega)).1, (u1 j (by omega)).2]
    decide
  have hcom := com_all (ws := ws) (one := pr ws 293 0) (fun j => ⟨5 + j * 2, j, 1, 0, 0⟩) (fun j hj => by
    obtain ⟨t, ht⟩ := hone j hj
    rw [ht]
    refine ⟨isP_yes (u1 j (by omega)), ?_⟩
    show (⟨5 + j * 2 + 1 + 1, j + 1, 1, 0, 0⟩ : PS) = ⟨5 + (j + 1) * 2, j + 1, 1, 0, 0⟩
    congr 1
    omega)
  rw [fail_new] at hcom
  have hstr : (strF ws (pr ws 293) ⟨4, 0, 0, 0, 0⟩).2 = ⟨ws.length - 1, 33, 0, 3, (wAt ws (5 + 32 * 2)).a⟩ := by
    have hd : deepP ws ⟨4, 0, 0, 0, 0⟩ = ⟨4, 0, 1, 0, 0⟩ := by unfold deepP; rfl
    unfold strF
    rw [hd]
    unfold strB
    simp only
    rw [if_neg (by omega), if_neg (by rw [isP_not a4.2 (by decide)]; exact Bool.false_ne_true), if_neg (by rw [isP_not a4.2 (by decide)]; exact Bool.false_ne_true), if_pos (isP_yes a4)]
    have et : takeP ⟨4, 0, 1, 0, 0⟩ = (⟨5 + 0 * 2, 0, 1, 0, 0⟩ : PS) := rfl
    rw [et]
    unfold listF
    rw [if_neg (by rw [isP_no (u0 0 (by omega)).1 (by decide)]; exact Bool.false_ne_true), hcom]
    simp only
    rw [must_end hend (show (3 : Nat) ≠ 0 by decide) 6 (by decide)]
    unfold wholeP backP
    simp only
    rw [if_neg (by decide)]
    rfl
  obtain ⟨X, hX⟩ : ∃ X, strF ws (pr ws 293) ⟨4, 0, 0, 0, 0⟩ = X := ⟨_, rfl⟩
  rw [hX] at hstr
  have hxk : (wAt ws X.2.at').k = 0 := by rw [hstr]; exact hend
  have hex : exprF ws ⟨4, 0, 0, 0, 0⟩ = X := pr_one 293 _ hX (isP_not a4.2 (by decide)) (rank_end hxk) (isP_no hxk (by decide))
  refine par_er h0 (u := X.2) ?_ (by rw [hws]; exact hxk) (by rw [hstr]) (by decide)
  rw [hws]
  unfold stmF ps0
  simp only
  rw [if_neg (by rw [isP_not a0.2 (by decide)]; exact Bool.false_ne_true), if_pos (isP_yes a0)]
  unfold insF
  have e1 : takeP ⟨0, 0, 0, 0, 0⟩ = (⟨1, 0, 0, 0, 0⟩ : PS) := rfl
  rw [e1, must_yes a1, name_yes a2.1, must_yes a3, hex]
theorem many1 (i : Nat) (hi : 32 ≤ i) (hl : (mText 1 i).length ≤ 2000) : (parF (mText 1 i)).2.2 = 3 := by
  obtain ⟨h0, hlen, hat⟩ := words_shape (lx1 i) hl
  obtain ⟨hz, -, -, -, -⟩ := words_ok h0
  have hun : ∀ j t, j < i → t < 2 → ([(2, [83, 69, 76, 69, 67, 84])] ++ (rep [(1, [97]), (6, [44])] i ++ [(1, [97]), (2, [70, 82, 79, 77]), (1, [116])]) : List (Nat × List UInt8))[1 + (j * 2 + t)]? = ([(1, [97]), (6, [44])] : List (Nat × List UInt8))[t]? := fun j t hj ht => by
    rw [List.getElem?_append_right (by simp)]
    have e : 1 + (j * 2 + t) - ([(2, [83, 69, 76, 69, 67, 84])] : List (Nat × List UInt8)).length = j * 2 + t := by simp
    rw [e]
    exact rep_at _ _ i j t hj ht
  have a0 := hat 0 _ rfl
  have u0 : ∀ j, j < i → (wAt (wordsR (mText 1 i)).1 (1 + j * 2)).k = 1 ∧ (wAt (wordsR (mText 1 i)).1 (1 + j * 2)).s = [97] := fun j hj => hat (1 + j * 2) _ (hun j 0 hj (by decide))
  have u1 : ∀ j, j < i → (wAt (wordsR (mText 1 i)).1 (1 + j * 2 + 1)).k = 6 ∧ (wAt (wordsR (mText 1 i)).1 (1 + j * 2 + 1)).s = [44] := fun j hj => hat (1 + j * 2 + 1) _ (hun j 1 hj (by decide))
  obtain ⟨ws, hws⟩ : ∃ ws, (wordsR (mText 1 i)).1 = ws := ⟨_, rfl⟩
  rw [hws] at hlen hz a0 u0 u1
  have hpos : 0 < ws.length := by omega
  have hend : (wAt ws (ws.length - 1)).k = 0 := (hz _ (by omega)).2 (by omega)
  have hcom := com_all (ws := ws) (one := pathF ws) (fun j => ⟨1 + j * 2, 0, 0, 0, 0⟩) (fun j hj => by
    obtain ⟨t, ht⟩ := path_one (x := 0) (e := 0) (r := 0) (p := 0) (u0 j (by omega)).1 (isP_not (u1 j (by omega)).2 (by decide))
    rw [ht]
    refine ⟨isP_yes (u1 j (by omega)), ?_⟩
    show (⟨1 + j * 2 + 1 + 1, 0, 0, 0, 0⟩ : PS) = ⟨1 + (j + 1) * 2, 0, 0, 0, 0⟩
    congr 1
    omega)
  rw [fail_new] at hcom
  obtain ⟨U, hU⟩ : ∃ U : PS, ⟨ws.length - 1, 0, 0, 3, (wAt ws (1 + 32 * 2)).a⟩ = U := ⟨_, rfl⟩
  rw [hU] at hcom
  have uk : (wAt ws U.at').k = 0 := by rw [← hU]; exact hend
  have ue : U.er = 3 := by rw [← hU]
  have ue' : U.er ≠ 0 := by omega
  have hc : slC ws Sm.new ⟨1, 0, 0, 0, 0⟩ = ({ { Sm.new with k := 6 } with cl := [] }, U) := by
    have h00 := u0 0 (by omega)
    unfold slC colF
    simp only
    rw [if_neg (by rw [isP_no h00.1 (by decide)]; exact Bool.false_ne_true), if_neg (by rw [isP_no h00.1 (by decide)]; exact Bool.false_ne_true)]
    have ec : comF ws (pathF ws) 33 [] ⟨1, 0, 0, 0, 0⟩ = ([], U) := hcom
    rw [ec]
  have ho : (slO ws Sm.new ⟨1, 0, 0, 0, 0⟩).2 = U := by
    unfold slO
    rw [hc]
    simp only
    rw [must_end uk ue' 2 (by decide)]
    unfold srcF
    rw [if_neg (by rw [isP_no uk (by decide)]; exact Bool.false_ne_true)]
    exact name_end uk ue'
  have hw : (slW ws Sm.new ⟨1, 0, 0, 0, 0⟩).2 = U := by
    unfold slW whrF
    rw [ho, if_neg (by rw [isP_no uk (by decide)]; exact Bool.false_ne_true)]
  have hd : (slD ws Sm.new ⟨1, 0, 0, 0, 0⟩).2 = U := by
    unfold slD ordF
    rw [hw, if_neg (by rw [isP_no uk (by decide)]; exact Bool.false_ne_true)]
  refine par_er h0 (u := U) ?_ (by rw [hws]; exact uk) ue (by decide)
  rw [hws]
  unfold stmF ps0
  simp only
  rw [if_neg (by rw [isP_not a0.2 (by decide)]; exact Bool.false_ne_true), if_neg (by rw [isP_not a0.2 (by decide)]; exact Bool.false_ne_true), if_neg (by rw [isP_not a0.2 (by decide)]; exact Bool.false_ne_true), if_neg (by rw [isP_not a0.2 (by decide)]; exact Bool.false_ne_true), if_pos (isP_yes a0)]
  have e1 : takeP ⟨0, 0, 0, 0, 0⟩ = (⟨1, 0, 0, 0, 0⟩ : PS) := rfl
  rw [e1]
  unfold selF
  rw [hd, if_neg (by rw [isP_no uk (by decide)]; exact Bool.false_ne_true), hd]
theorem many2 (i : Nat) (hi : 32 ≤ i) (hl : (mText 2 i).length ≤ 2000) : (parF (mText 2 i)).2.2 = 3 := by
  obtain ⟨h0, hlen, hat⟩ := words_shape (lx2 i) hl
  obtain ⟨hz, -, -, -, -⟩ := words_ok h0
  have hun : ∀ j t, j < i → t < 4 → ([(2, [85, 80, 68, 65, 84, 69]), (1, [116]), (2, [83, 69, 84])] ++ (rep [(1, [97]), (6, [61]), (3, [49]), (6, [44])] i ++ [(1, [97]), (6, [61]), (3, [49])]) : List (Nat × List UInt8))[3 + (j * 4 + t)]? = ([(1, [97]), (6, [61]), (3, [49]), (6, [44])] : List (Nat × List UInt8))[t]? := fun j t hj ht => by
    rw [List.getElem?_append_right (by simp)]
    have e : 3 + (j * 4 + t) - ([(2, [85, 80, 68, 65, 84, 69]), (1, [116]), (2, [83, 69, 84])] : List (Nat × List UInt8)).length = j * 4 + t := by simp
    rw [e]
    exact rep_at _ _ i j t hj ht
  have a0 := hat 0 _ rfl
  have a1 := hat 1 _ rfl
  have a2 := hat 2 _ rfl
  have u0 : ∀ j, j < i → (wAt (wordsR (mText 2 i)).1 (3 + j * 4)).k = 1 ∧ (wAt (wordsR (mText 2 i)).1 (3 + j * 4)).s = [97] := fun j hj => hat (3 + j * 4) _ (hun j 0 hj (by decide))
  have u1 : ∀ j, j < i → (wAt (wordsR (mText 2 i)).1 (3 + j * 4 + 1)).k = 6 ∧ (wAt (wordsR (mText 2 i)).1 (3 + j * 4 + 1)).s = [61] := fun j hj => hat (3 + j * 4 + 1) _ (hun j 1 hj (by decide))
  have u2 : ∀ j, j < i → (wAt (wordsR (mText 2 i)).1 (3 + j * 4 + 1 + 1)).k = 3 ∧ (wAt (wordsR (mText 2 i)).1 (3 + j * 4 + 1 + 1)).s = [49] := fun j hj => hat (3 + j * 4 + 1 + 1) _ (hun j 2 hj (by decide))
  have u3 : ∀ j, j < i → (wAt (wordsR (mText 2 i)).1 (3 + j * 4 + 1 + 1 + 1)).k = 6 ∧ (wAt (wordsR (mText 2 i)).1 (3 + j * 4 + 1 + 1 + 1)).s = [44] := fun j hj => hat (3 + j * 4 + 1 + 1 + 1) _ (hun j 3 hj (by decide))
  obtain ⟨ws, hws⟩ : ∃ ws, (wordsR (mText 2 i)).1 = ws := ⟨_, rfl⟩
  rw [hws] at hlen hz a0 a1 a2 u0 u1 u2 u3
  have hpos : 0 < ws.length := by omega
  have hend : (wAt ws (ws.length - 1)).k = 0 := (hz _ (by omega)).2 (by omega)
  have hcom := com_all (ws := ws) (one := namedF ws (exprF ws) [61]) (fun j => ⟨3 + j * 4, j, 0, 0, 0⟩) (fun j hj => by
    obtain ⟨t, ht⟩ := str_num (pr ws 293) (x := j) (e := 0) (r := 0) (p := 0) (u2 j (by omega)).1 (u2 j (by omega)).2 (by decide) (by omega)
    have hex : exprF ws ⟨3 + j * 4 + 1 + 1, j, 0, 0, 0⟩ = (t, ⟨3 + j * 4 + 1 + 1 + 1, j + 1, 0, 0, 0⟩) := by
      refine pr_one 293 _ ht (isP_no (u2 j (by omega)).1 (by decide)) ?_ (isP_no (u3 j (by omega)).1 (by decide))
      unfold rankI
      rw [(u3 j (by omega)).1, (u3 j (by omega)).2]
      decide
    have hn : (namedF ws (exprF ws) [61] ⟨3 + j * 4, j, 0, 0, 0⟩).2 = ⟨3 + j * 4 + 1 + 1 + 1, j + 1, 0, 0, 0⟩ := by
      unfold namedF
      rw [name_yes (u0 j (by omega)).1, must_yes (u1 j (by omega)), hex]
    rw [hn]
    refine ⟨isP_yes (u3 j (by omega)), ?_⟩
    show (⟨3 + j * 4 + 1 + 1 + 1 + 1, j + 1, 0, 0, 0⟩ : PS) = ⟨3 + (j + 1) * 4, j + 1, 0, 0, 0⟩
    congr 1
    omega)
  rw [fail_new] at hcom
  obtain ⟨U, hU⟩ : ∃ U : PS, ⟨ws.length - 1, 32, 0, 3, (wAt ws (3 + 32 * 4)).a⟩ = U := ⟨_, rfl⟩
  rw [hU] at hcom
  have uk : (wAt ws U.at').k = 0 := by rw [← hU]; exact hend
  have ue : U.er = 3 := by rw [← hU]
  refine par_er h0 (u := U) ?_ (by rw [hws]; exact uk) ue (by decide)
  rw [hws]
  unfold stmF ps0
  simp only
  rw [if_neg (by rw [isP_not a0.2 (by decide)]; exact Bool.false_ne_true), if_neg (by rw [isP_not a0.2 (by decide)]; exact Bool.false_ne_true), if_pos (isP_yes a0)]
  have e1 : takeP ⟨0, 0, 0, 0, 0⟩ = (⟨1, 0, 0, 0, 0⟩ : PS) := rfl
  rw [e1]
  unfold updF
  have ec : comF ws (namedF ws (exprF ws) [61]) 33 [] ⟨1 + 1 + 1, 0, 0, 0, 0⟩ = ([], U) := hcom
  rw [name_yes a1.1, must_yes a2, ec]
  unfold whrF
  rw [if_neg (by rw [isP_no uk (by decide)]; exact Bool.false_ne_true)]
theorem many3 (i : Nat) (hi : 100 ≤ i) (hl : (mText 3 i).length ≤ 2000) : (parF (mText 3 i)).2.2 = 3 := by
  obtain ⟨h0, hlen, hat⟩ := words_shape (lx3 i) hl
  obtain ⟨hz, -, -, -, -⟩ := words_ok h0
  have hun : ∀ j t, j < i → t < 2 → ([(2, [68, 69, 76, 69, 84, 69]), (2, [70, 82, 79, 77]), (1, [116]), (2, [87, 72, 69, 82, 69])] ++ (rep [(1, [97]), (6, [43])] i ++ [(1, [97])]) : List (Nat × List UInt8))[4 + (j * 2 + t)]? = ([(1, [97]), (6, [43])] : List (Nat × List UInt8))[t]? := fun j t hj ht => by
    rw [List.getElem?_append_right (by simp)]
    have e : 4 + (j * 2 + t) - ([(2, [68, 69, 76, 69, 84, 69]), (2, [70, 82, 79, 77]), (1, [116]), (2, [87, 72, 69, 82, 69])] : List (Nat × List UInt8)).length = j * 2 + t := by simp
    rw [e]
    exact rep_at _ _ i j t hj ht
  have hlast : ([(2, [68, 69, 76, 69, 84, 69]), (2, [70, 82, 79, 77]), (1, [116]), (2, [87, 72, 69, 82, 69])] ++ (rep [(1, [97]), (6, [43])] i ++ [(1, [97])]) : List (Nat × List UInt8))[4 + i * 2]? = some (1, [97]) := by
    rw [List.getElem?_append_right (by simp), List.getElem?_append_right (by rw [rep_len]; simp), rep_len]
    simp
  have a0 := hat 0 _ rfl
  have a1 := hat 1 _ rfl
  have a2 := hat 2 _ rfl
  have a3 := hat 3 _ rfl
  have u0 : ∀ j, j ≤ i → (wAt (wordsR (mText 3 i)).1 (4 + j * 2)).k = 1 := fun j hj => by
    by_cases hji : j < i
    · exact (hat (4 + j * 2) _ (hun j 0 hji (by decide))).1
    · obtain rfl : j = i := by omega
      exact (hat (4 + j * 2) _ hlast).1
  have u1 : ∀ j, j < i → (wAt (wordsR (mText 3 i)).1 (4 + j * 2 + 1)).k = 6 ∧ (wAt (wordsR (mText 3 i)).1 (4 + j * 2 + 1)).s = [43] := fun j hj => hat (4 + j * 2 + 1) _ (hun j 1 hj (by decide))
  obtain ⟨ws, hws⟩ : ∃ ws, (wordsR (mText 3 i)).1 = ws := ⟨_, rfl⟩
  have hsl : ws.length = 4 + (i * 2 + 1) + 1 := by
    rw [← hws, hlen]
    simp only [List.length_append, rep_len, List.length_cons, List.length_nil]
  rw [hws] at hz a0 a1 a2 a3 u0 u1
  have hend : (wAt ws (ws.length - 1)).k = 0 := (hz _ (by omega)).2 (by omega)
  have hnp : ∀ j, j ≤ i → isP (wAt ws (4 + j * 2 + 1)) 6 [46] = false := fun j hj => by
    by_cases hji : j < i
    · exact isP_not (u1 j hji).2 (by decide)
    · obtain rfl : j = i := by omega
      have e : 4 + j * 2 + 1 = ws.length - 1 := by omega
      rw [e]
      exact isP_no hend (by decide)
  have hr5 : ∀ j, j ≤ i → rankI (wAt ws (4 + j * 2 + 1)) ≠ 5 := fun j hj => by
    by_cases hji : j < i
    · unfold rankI
      rw [(u1 j hji).1, (u1 j hji).2]
      decide
    · obtain rfl : j = i := by omega
      have e : 4 + j * 2 + 1 = ws.length - 1 := by omega
      rw [e, rank_end hend]
      decide
  have hr4 : ∀ j, j < i → rankI (wAt ws (4 + j * 2 + 1)) = 4 := fun j hj => by
    unfold rankI
    rw [(u1 j hj).1, (u1 j hj).2]
    decide
  have hone : ∀ j x, j ≤ i → x + 1 ≤ 200 → ∃ t, pr ws 295 5 ⟨4 + j * 2, x, 0, 0, 0⟩ = (t, ⟨4 + j * 2 + 1, x + 1, 0, 0, 0⟩) := fun j x hj hx => by
    obtain ⟨t, ht⟩ := str_path (pr ws 293) (x := x) (e := 0) (r := 0) (p := 0) (u0 j hj) (hnp j hj) (by decide) hx
    exact ⟨t, pr5 293 _ ht (hr5 j hj)⟩
  have hloop : ∀ (d m N : Nat) (t : Et), m + d = 99 → d + 1 ≤ N → ∃ p, (loopF ws (pr ws 295 5) 4 N (t, ⟨4 + m * 2 + 1, 2 * m + 1, 0, 0, 0⟩)).2 = ⟨ws.length - 1, 201, 0, 3, p⟩ := by
    intro d
    induction d with
    | zero =>
      intro m N t hm hN
      obtain ⟨N, rfl⟩ : ∃ k, N = k + 1 := ⟨N - 1, by omega⟩
      obtain rfl : m = 99 := by omega
      unfold loopF
      rw [if_pos (show rankI (wAt ws ((t, (⟨4 + 99 * 2 + 1, 2 * 99 + 1, 0, 0, 0⟩ : PS)) : Et × PS).2.at') = ((4 : Nat) : Int) from hr4 99 (by omega))]
      obtain ⟨t2, ht2⟩ := hone 100 199 (by omega) (by decide)
      have es : (sidesF ws (pr ws 295 5) t ⟨4 + 99 * 2 + 1, 2 * 99 + 1, 0, 0, 0⟩).2 = ⟨ws.length - 1, 201, 0, 3, (wAt ws (4 + 100 * 2 + 1)).a⟩ := by
        unfold sidesF
        have e1 : takeP ⟨4 + 99 * 2 + 1, 2 * 99 + 1, 0, 0, 0⟩ = (⟨4 + 100 * 2, 199, 0, 0, 0⟩ : PS) := rfl
        rw [e1, ht2]
        unfold wholeP
        simp only
        rw [if_pos (by decide), fail_new]
      obtain ⟨Y, hY⟩ : ∃ Y, sidesF ws (pr ws 295 5) t ⟨4 + 99 * 2 + 1, 2 * 99 + 1, 0, 0, 0⟩ = Y := ⟨_, rfl⟩
      rw [hY] at es
      refine ⟨(wAt ws (4 + 100 * 2 + 1)).a, ?_⟩
      · simp only
        rw [hY, loop_stop (by rw [es]; simp only; rw [rank_end hend]; decide) N, es]
    | succ d ih =>
      intro m N t hm hN
      obtain ⟨N, rfl⟩ : ∃ k, N = k + 1 := ⟨N - 1, by omega⟩
      unfold loopF
      rw [if_pos (show rankI (wAt ws ((t, (⟨4 + m * 2 + 1, 2 * m + 1, 0, 0, 0⟩ : PS)) : Et × PS).2.at') = ((4 : Nat) : Int) from hr4 m (by omega))]
      obtain ⟨t2, ht2⟩ := hone (m + 1) (2 * m + 1) (by omega) (by omega)
      have es : sidesF ws (pr ws 295 5) t ⟨4 + m * 2 + 1, 2 * m + 1, 0, 0, 0⟩ = (binT (wdS (wAt ws (4 + m * 2 + 1))) t t2, ⟨4 + (m + 1) * 2 + 1, 2 * (m + 1) + 1, 0, 0, 0⟩) := by
        unfold sidesF
        have e1 : takeP ⟨4 + m * 2 + 1, 2 * m + 1, 0, 0, 0⟩ = (⟨4 + (m + 1) * 2, 2 * m + 1, 0, 0, 0⟩ : PS) := by
          unfold takeP
          simp only
          congr 1
          omega
        rw [e1, ht2]
        unfold wholeP
        simp only
        rw [if_neg (by omega)]
        rfl
      simp only
      rw [es]
      exact ih (m + 1) N _ (by omega) (by omega)
  obtain ⟨t0, ht0⟩ := hone 0 0 (by omega) (by decide)
  obtain ⟨pp, hpp⟩ := hloop 99 0 ws.length t0 rfl (by omega)
  obtain ⟨Y, hY⟩ : ∃ Y, pr ws (293 + 3) 4 ⟨4, 0, 0, 0, 0⟩ = Y := ⟨_, rfl⟩
  have hY2 : Y.2 = ⟨ws.length - 1, 201, 0, 3, pp⟩ := by
    rw [← hY]
    have e : pr ws (293 + 3) 4 ⟨4, 0, 0, 0, 0⟩ = loopF ws (pr ws 295 5) 4 ws.length (pr ws 295 5 ⟨4 + 0 * 2, 0, 0, 0, 0⟩) := rfl
    rw [e, ht0]
    exact hpp
  have yk : (wAt ws Y.2.at').k = 0 := by rw [hY2]; exact hend
  have h4 := u0 0 (by omega)
  have hex : exprF ws ⟨4, 0, 0, 0, 0⟩ = Y := pr_up 293 _ hY (isP_no h4 (by decide)) (rank_end yk) (isP_no yk (by decide))
  refine par_er h0 (u := Y.2) ?_ (by rw [hws]; exact yk) (by rw [hY2]) (by decide)
  rw [hws]
  unfold stmF ps0
  simp only
  rw [if_neg (by rw [isP_not a0.2 (by decide)]; exact Bool.false_ne_true), if_neg (by rw [isP_not a0.2 (by decide)]; exact Bool.false_ne_true), if_neg (by rw [isP_not a0.2 (by decide)]; exact Bool.false_ne_true), if_pos (isP_yes a0)]
  have e1 : takeP ⟨0, 0, 0, 0, 0⟩ = (⟨1, 0, 0, 0, 0⟩ : PS) := rfl
  rw [e1]
  unfold delF
  rw [must_yes a1, name_yes a2.1]
  unfold whrF
  simp only
  rw [if_pos (isP_yes a3)]
  have e2 : takeP ⟨1 + 1 + 1, 0, 0, 0, 0⟩ = (⟨4, 0, 0, 0, 0⟩ : PS) := rfl
  rw [e2, hex]
end Go.Proofs.YthgagldpjledgaaGreatDoor
