/- What the parser does, as plain functions: pr, of a rank. -/
import Derived.Test.YtcniebkehekliaaGreatDoorWhx
namespace Go.Proofs.YtcniebkehekliaaGreatDoor
open Go.RowKit Go.Shelf
def isP (x : Wd) (k : Nat) (l : List UInt8) : Bool := decide (x.k = k) && (x.s == l)
def mustQ (ws : List Wd) (s : PS) (k : Nat) (l : List UInt8) : PS := if isP (wAt ws s.at') k l then takeP s else failP ws s 120
def keyR (l : List UInt8) : Int := if (l == [79, 82]) = true then 0 else if (l == [65, 78, 68]) = true then 1 else -1
def signR (l : List UInt8) : Int :=
  if (l == [61]) = true then 3 else if (l == [60, 62]) = true then 3 else if (l == [60]) = true then 3 else if (l == [60, 61]) = true then 3 else if (l == [62]) = true then 3 else if (l == [62, 61]) = true then 3
  else if (l == [43]) = true then 4 else if (l == [45]) = true then 4 else if (l == [42]) = true then 5 else -1
def rankI (x : Wd) : Int := if x.k = 2 then keyR x.s else if x.k = 6 then signR x.s else -1
def zeroE : En := nodeE 0 ⟨#[]⟩ 0
def zeroT : Et := Et.node zeroE fun _ _ => zeroE
def binT (sg : ByteArray) (a b : Et) : Et := Et.node (nodeE 6 sg 2) fun i => if i = 0 then a else b
def litT (v : Nat × Bool × Int × ByteArray) : Et := Et.node ⟨1, ⟨#[]⟩, v.1, v.2.1, v.2.2.1, v.2.2.2, 0, 0, fun _ => ⟨#[]⟩⟩ fun _ _ => zeroE
def fieldT (s : ByteArray) : Et := Et.node (nodeE 2 s 0) fun _ _ => zeroE
def listT (l : List Et) : Et := Et.node (nodeE 7 ⟨#[]⟩ l.length) fun i => l.getD i zeroT
def structT (l : List (ByteArray × Et)) : Et := Et.node ⟨8, ⟨#[]⟩, 0, false, 0, ⟨#[]⟩, l.length, l.length, fun i => (l.getD i (⟨#[]⟩, zeroT)).1⟩ fun i => (l.getD i (⟨#[]⟩, zeroT)).2
def litV (x : Wd) : Option (Nat × Bool × Int × ByteArray) :=
  if x.k = 3 then (match Lib.parseIntB 64 x.s with | .ok v => some (2, false, v, ⟨#[]⟩) | _ => none)
  else if x.k = 4 then some (3, false, 0, wdS x)
  else if x.k = 5 then some (4, false, 0, wdS x)
  else if x.k = 2 then
    (if x.s = [78, 85, 76, 76] then some (0, false, 0, ⟨#[]⟩) else if x.s = [84, 82, 85, 69] then some (1, true, 0, ⟨#[]⟩) else if x.s = [70, 65, 76, 83, 69] then some (1, false, 0, ⟨#[]⟩) else none)
  else none
def litF (ws : List Wd) (s : PS) : Et × PS :=
  match litV (wAt ws s.at') with
  | some v => (litT v, wholeP ws (takeP s))
  | none => (zeroT, failP ws s 120)
def pathL (ws : List Wd) : Nat → List ByteArray → PS → List ByteArray × PS
  | 0, l, s => (l, s)
  | n + 1, l, s => if isP (wAt ws s.at') 6 [46] then pathL ws n (l ++ [nameS ws (takeP s)]) (nameP ws (takeP s)) else (l, s)
def joinB : List ByteArray → List UInt8
  | [] => []
  | [x] => x.data.toList
  | x :: y :: l => x.data.toList ++ 46 :: joinB (y :: l)
def pathF (ws : List Wd) (s : PS) : ByteArray × PS :=
  (⟨(joinB (pathL ws ws.length [nameS ws s] (nameP ws s)).1).toArray⟩, (pathL ws ws.length [nameS ws s] (nameP ws s)).2)
def comF {α : Type} (ws : List Wd) (one : PS → α × PS) : Nat → List α → PS → List α × PS
  | 0, l, s => (l, s)
  | n + 1, l, s =>
    if l.length = 32 then ([], failP ws s 3)
    else if isP (wAt ws (one s).2.at') 6 [44] then comF ws one n (l ++ [(one s).1]) (takeP (one s).2) else (l ++ [(one s).1], (one s).2)
def sidesF (ws : List Wd) (f : PS → Et × PS) (t : Et) (s : PS) : Et × PS := (binT (wdS (wAt ws s.at')) t (f (takeP s)).1, wholeP ws (f (takeP s)).2)
def loopF (ws : List Wd) (f : PS → Et × PS) (rank : Nat) : Nat → Et × PS → Et × PS
  | 0, x => x
  | n + 1, x => if rankI (wAt ws x.2.at') = (rank : Int) then loopF ws f rank n (sidesF ws f x.1 x.2) else x
def isNullF (ws : List Wd) (t : Et) (s : PS) : Et × PS :=
  if isP (wAt ws s.at') 2 [78, 79, 84] then (oneT 4 (oneT 5 t), wholeP ws (wholeP ws (mustQ ws (takeP s) 2 [78, 85, 76, 76])))
  else (oneT 5 t, wholeP ws (mustQ ws s 2 [78, 85, 76, 76]))
def cmpS (ws : List Wd) (f : PS → Et × PS) (x : Et × PS) : Et × PS := if rankI (wAt ws x.2.at') = 3 then sidesF ws f x.1 x.2 else x
def cmpI (ws : List Wd) (x : Et × PS) : Et × PS := if isP (wAt ws x.2.at') 2 [73, 83] then isNullF ws x.1 (takeP x.2) else x
def cmpF (ws : List Wd) (f : PS → Et × PS) (s : PS) : Et × PS := cmpI ws (cmpS ws f (f s))
def notS (ws : List Wd) (s : PS) : PS := mustQ ws (deepP ws s) 2 [78, 79, 84]
def negF (ws : List Wd) (go : Nat → PS → Et × PS) (s : PS) : Et × PS :=
  if isP (wAt ws s.at') 2 [78, 79, 84] then (oneT 4 (go 2 (notS ws s)).1, backP (wholeP ws (go 2 (notS ws s)).2)) else go 3 s
def namedF (ws : List Wd) (f : PS → Et × PS) (between : List UInt8) (s : PS) : (ByteArray × Et) × PS :=
  ((nameS ws s, (f (mustQ ws (nameP ws s) 6 between)).1), (f (mustQ ws (nameP ws s) 6 between)).2)
def listF (ws : List Wd) (f : PS → Et × PS) (s : PS) : Et × PS :=
  if isP (wAt ws s.at') 6 [93] then (listT [], wholeP ws (takeP s))
  else (listT (comF ws f 33 [] s).1, wholeP ws (mustQ ws (comF ws f 33 [] s).2 6 [93]))
def structF (ws : List Wd) (f : PS → Et × PS) (s : PS) : Et × PS :=
  if isP (wAt ws s.at') 6 [125] then (structT [], wholeP ws (takeP s))
  else (structT (comF ws (namedF ws f [58]) 33 [] s).1, wholeP ws (mustQ ws (comF ws (namedF ws f [58]) 33 [] s).2 6 [125]))
def strB (ws : List Wd) (go : Nat → PS → Et × PS) (s : PS) : Et × PS :=
  if (wAt ws s.at').k = 1 then (fieldT (pathF ws s).1, wholeP ws (pathF ws s).2)
  else if isP (wAt ws s.at') 6 [45] then (oneT 3 (go 6 (takeP s)).1, wholeP ws (go 6 (takeP s)).2)
  else if isP (wAt ws s.at') 6 [40] then ((go 0 (takeP s)).1, mustQ ws (go 0 (takeP s)).2 6 [41])
  else if isP (wAt ws s.at') 6 [91] then listF ws (go 0) (takeP s)
  else if isP (wAt ws s.at') 6 [123] then structF ws (go 0) (takeP s)
  else litF ws s
def strF (ws : List Wd) (go : Nat → PS → Et × PS) (s : PS) : Et × PS := ((strB ws go (deepP ws s)).1, backP (strB ws go (deepP ws s)).2)
/- An expression that binds as strongly as a rank, or more strongly; the first number is for the nesting. -/
def pr (ws : List Wd) : Nat → Nat → PS → Et × PS
  | 0, _, s => (zeroT, s)
  | n + 1, rank, s =>
    if rank = 2 then negF ws (pr ws n) s
    else if rank = 3 then cmpF ws (pr ws n 4) s
    else if rank = 6 then strF ws (pr ws n) s
    else loopF ws (pr ws n (rank + 1)) rank ws.length (pr ws n (rank + 1) s)
/- How far a parser went: words taken pay for expressions; a first error leaves the end alone. -/
structure Pk (c e : Nat) (ws : List Wd) (s s' : PS) : Prop where
  lt : s'.at' < ws.length
  ge : s.at' ≤ s'.at'
  ne : s'.ne = s.ne + e
  ex : s'.ex + c + s.at' ≤ s.ex + s'.at'
  er : (s.er ≠ 0 → s.at' + 1 = ws.length) → s'.er ≠ 0 → s'.at' + 1 = ws.length
theorem Pk.refl {ws : List Wd} {s : PS} (h : s.at' < ws.length) : Pk 0 0 ws s s := ⟨h, Nat.le_refl _, rfl, Nat.le_refl _, fun k => k⟩
theorem Pk.trans {c e : Nat} {ws : List Wd} {s t u : PS} (h : Pk c e ws s t) (k : Pk 0 0 ws t u) : Pk c e ws s u := by
  have a1 := h.ge
  have a2 := k.ge
  have a3 := h.ex
  have a4 := k.ex
  exact ⟨k.lt, by omega, by rw [k.ne, h.ne]; rfl, by omega, fun g => k.er (h.er g)⟩
theorem Pk.less {c e : Nat} {ws : List Wd} {s t : PS} (h : Pk (c + 1) e ws s t) : Pk c e ws s t := by
  have a3 := h.ex
  exact ⟨h.lt, h.ge, h.ne, by omega, h.er⟩
theorem Pk.fail {c e : Nat} {ws : List Wd} {s t : PS} (h : Pk c e ws s t) (x : Nat) : Pk c e ws s (failP ws t x) := by
  have a0 := h.lt
  have a1 := h.ge
  have a2 := h.ne
  have a3 := h.ex
  unfold failP
  split
  · exact ⟨by simp only; omega, by simp only; omega, a2, by simp only; omega, fun _ _ => by simp only; omega⟩
  · exact h
theorem Pk.take {c e : Nat} {ws : List Wd} (hz : Wz ws) {s t : PS} (h : Pk c e ws s t) (hk : (wAt ws t.at').k ≠ 0) : Pk (c + 1) e ws s (takeP t) := by
  have a0 := hz.next h.lt hk
  have a1 := h.ge
  have a2 := h.ne
  have a3 := h.ex
  refine ⟨a0, by simp only [takeP]; omega, a2, by simp only [takeP]; omega, fun g k => ?_⟩
  have := h.er g k
  omega
theorem Pk.whole {c e : Nat} {ws : List Wd} {s t : PS} (h : Pk (c + 1) e ws s t) : Pk c e ws s (wholeP ws t) := by
  have h2 : Pk c e ws s { t with ex := t.ex + 1 } := ⟨h.lt, h.ge, h.ne, by have a3 := h.ex; simp only; omega, h.er⟩
  unfold wholeP
  split
  · exact h2.fail 3
  · exact h2
theorem Pk.deep {c e : Nat} {ws : List Wd} {s t : PS} (h : Pk c e ws s t) : Pk c (e + 1) ws s (deepP ws t) := by
  have h2 : Pk c (e + 1) ws s { t with ne := t.ne + 1 } := ⟨h.lt, h.ge, by have a3 := h.ne; simp only; omega, h.ex, h.er⟩
  unfold deepP
  split
  · exact h2.fail 3
  · exact h2
theorem Pk.back {c e : Nat} {ws : List Wd} {s t : PS} (h : Pk c (e + 1) ws s t) : Pk c e ws s (backP t) := ⟨h.lt, h.ge, by have a3 := h.ne; simp only [backP]; omega, h.ex, h.er⟩
theorem isP_kind {x : Wd} {k : Nat} {l : List UInt8} (h : isP x k l = true) : x.k = k := by
  unfold isP at h
  simp only [Bool.and_eq_true, decide_eq_true_eq] at h
  exact h.1
theorem Pk.is {c e : Nat} {ws : List Wd} (hz : Wz ws) {s t : PS} (h : Pk c e ws s t) {k : Nat} {l : List UInt8} (hk : isP (wAt ws t.at') k l = true) (h0 : k ≠ 0) : Pk (c + 1) e ws s (takeP t) := h.take hz (by rw [isP_kind hk]; exact h0)
theorem Pk.must {c e : Nat} {ws : List Wd} (hz : Wz ws) {s t : PS} (h : Pk c e ws s t) {k : Nat} (h0 : k ≠ 0) (l : List UInt8) : Pk c e ws s (mustQ ws t k l) := by
  unfold mustQ
  split
  · rename_i h1; exact (h.is hz h1 h0).less
  · exact h.fail 120
theorem Pk.name {c e : Nat} {ws : List Wd} (hz : Wz ws) {s t : PS} (h : Pk c e ws s t) : Pk c e ws s (nameP ws t) := by
  unfold nameP
  split
  · rename_i h1; exact (h.take hz (by rw [h1]; decide)).less
  · exact h.fail 120
theorem rankI_kind {x : Wd} (h : 0 ≤ rankI x) : x.k ≠ 0 := by
  intro h0
  unfold rankI at h
  rw [h0] at h
  simp at h
theorem Pk.sides {c e : Nat} {ws : List Wd} (hz : Wz ws) {s t : PS} (h : Pk c e ws s t) (hr : 0 ≤ rankI (wAt ws t.at')) {f : PS → Et × PS} (hf : ∀ u, u.at' < ws.length → Pk 0 0 ws u (f u).2) (x : Et) : Pk c e ws s (sidesF ws f x t).2 := by
  have h1 := h.take hz (rankI_kind hr)
  exact (h1.trans (hf _ h1.lt)).whole
theorem Pk.loop {c e : Nat} {ws : List Wd} (hz : Wz ws) {f : PS → Et × PS} (hf : ∀ u, u.at' < ws.length → Pk 0 0 ws u (f u).2) (rank : Nat) {s : PS} : ∀ (n : Nat) (x : Et × PS), Pk c e ws s x.2 → Pk c e ws s (loopF ws f rank n x).2
  | 0, _, h => h
  | n + 1, x, h => by
    unfold loopF
    split
    · rename_i hr
      exact Pk.loop hz hf rank n _ (h.sides hz (by rw [hr]; omega) hf x.1)
    · exact h
theorem Pk.path {c e : Nat} {ws : List Wd} (hz : Wz ws) {s : PS} : ∀ (n : Nat) (l : List ByteArray) (t : PS), Pk c e ws s t → Pk c e ws s (pathL ws n l t).2
  | 0, _, _, h => h
  | n + 1, l, t, h => by
    unfold pathL
    split
    · rename_i h1
      exact Pk.path hz n _ _ ((h.is hz h1 (by decide)).less.name hz)
    · exact h
theorem Pk.commas {α : Type} {c e : Nat} {ws : List Wd} (hz : Wz ws) {one : PS → α × PS} (hf : ∀ u, u.at' < ws.length → Pk 0 0 ws u (one u).2) {s : PS} : ∀ (n : Nat) (l : List α) (t : PS), Pk c e ws s t → Pk c e ws s (comF ws one n l t).2
  | 0, _, _, h => h
  | n + 1, l, t, h => by
    unfold comF
    split
    · exact h.fail 3
    · have h1 := h.trans (hf t h.lt)
      split
      · rename_i h2
        exact Pk.commas hz hf n _ _ (h1.is hz h2 (by decide)).less
      · exact h1
theorem Pk.named {c e : Nat} {ws : List Wd} (hz : Wz ws) {f : PS → Et × PS} (hf : ∀ u, u.at' < ws.length → Pk 0 0 ws u (f u).2) (bt : List UInt8) {s t : PS} (h : Pk c e ws s t) : Pk c e ws s (namedF ws f bt t).2 := by
  have h1 := (h.name hz).must hz (k := 6) (by decide) bt
  exact h1.trans (hf _ h1.lt)
theorem Pk.list {c e : Nat} {ws : List Wd} (hz : Wz ws) {f : PS → Et × PS} (hf : ∀ u, u.at' < ws.length → Pk 0 0 ws u (f u).2) {s t : PS} (h : Pk (c + 1) e ws s t) : Pk c e ws s (listF ws f t).2 := by
  unfold listF
  split
  · rename_i h1; exact (h.is hz h1 (by decide)).whole.less
  · exact ((Pk.commas hz hf 33 [] t h).must hz (by decide) _).whole
theorem Pk.struct {c e : Nat} {ws : List Wd} (hz : Wz ws) {f : PS → Et × PS} (hf : ∀ u, u.at' < ws.length → Pk 0 0 ws u (f u).2) {s t : PS} (h : Pk (c + 1) e ws s t) : Pk c e ws s (structF ws f t).2 := by
  unfold structF
  split
  · rename_i h1; exact (h.is hz h1 (by decide)).whole.less
  · exact ((Pk.commas hz (fun u hu => Pk.named hz hf [58] (Pk.refl hu)) 33 [] t h).must hz (by decide) _).whole
theorem litV_kind {x : Wd} {v : Nat × Bool × Int × ByteArray} (h : litV x = some v) : x.k ≠ 0 := by
  intro h0
  unfold litV at h
  rw [h0] at h
  simp at h
theorem Pk.lit {c e : Nat} {ws : List Wd} (hz : Wz ws) {s t : PS} (h : Pk c e ws s t) : Pk c e ws s (litF ws t).2 := by
  unfold litF
  split
  · rename_i h1; exact (h.take hz (litV_kind h1)).whole
  · exact h.fail 120
theorem Pk.isNull {c e : Nat} {ws : List Wd} (hz : Wz ws) (x : Et) {s t : PS} (h : Pk (c + 1) e ws s t) : Pk c e ws s (isNullF ws x t).2 := by
  unfold isNullF
  split
  · rename_i h1; exact ((h.is hz h1 (by decide)).must hz (by decide) _).whole.whole
  · exact (h.must hz (by decide) _).whole
theorem Pk.str {c e : Nat} {ws : List Wd} (hz : Wz ws) {go : Nat → PS → Et × PS} (hf : ∀ r u, u.at' < ws.length → Pk 0 0 ws u (go r u).2) {s t : PS} (h : Pk c e ws s t) : Pk c e ws s (strB ws go t).2 := by
  unfold strB
  split
  · rename_i h1
    refine Pk.whole ?_
    unfold pathF
    refine Pk.path hz _ _ _ ?_
    unfold nameP
    rw [if_pos h1]
    exact h.take hz (by rw [h1]; decide)
  split
  · rename_i h1
    have h2 := h.is hz h1 (by decide)
    exact (h2.trans (hf _ _ h2.lt)).whole
  split
  · rename_i h1
    have h2 := h.is hz h1 (by decide)
    exact ((h2.trans (hf _ _ h2.lt)).must hz (by decide) _).less
  split
  · rename_i h1; exact Pk.list hz (hf 0) (h.is hz h1 (by decide))
  split
  · rename_i h1; exact Pk.struct hz (hf 0) (h.is hz h1 (by decide))
  · exact h.lit hz
theorem pr_ok {ws : List Wd} (hz : Wz ws) : ∀ (n rank : Nat) (s : PS), s.at' < ws.length → Pk 0 0 ws s (pr ws n rank s).2
  | 0, _, _, h => Pk.refl h
  | n + 1, rank, s, h => by
    have ih := fun r u hu => pr_ok hz n r u hu
    unfold pr
    split
    · unfold negF
      split
      · rename_i h1
        have h2 : Pk 1 1 ws s (notS ws s) := by
          by_cases h3 : isP (wAt ws (deepP ws s).at') 2 [78, 79, 84] = true
          · unfold notS mustQ
            rw [if_pos h3]
            exact (Pk.refl h).deep.is hz h3 (by decide)
          · have h4 := hz.next h (by rw [isP_kind h1]; decide)
            have h5 : (deepP ws s).at' = s.at' ∨ (deepP ws s).at' + 1 = ws.length := by
              unfold deepP failP
              split
              · split
                · right; simp only; omega
                · left; rfl
              · left; rfl
            rcases h5 with h5 | h5
            · rw [h5] at h3; exact absurd h1 h3
            · have h6 := (Pk.refl h).deep
              have h7 : Pk 1 1 ws s (deepP ws s) := by
                refine ⟨h6.lt, h6.ge, h6.ne, ?_, h6.er⟩
                have h8 : (deepP ws s).ex = s.ex := by
                  unfold deepP failP
                  split
                  · split
                    · rfl
                    · rfl
                  · rfl
                omega
              exact h7.must hz (by decide) _
        exact (h2.trans (ih _ _ h2.lt)).whole.back
      · exact ih _ _ h
    split
    · unfold cmpF cmpI
      have h1 := ih 4 s h
      have h2 : Pk 0 0 ws s (cmpS ws (pr ws n 4) (pr ws n 4 s)).2 := by
        unfold cmpS
        split
        · rename_i hr; exact h1.sides hz (by rw [hr]; decide) (ih 4) _
        · exact h1
      split
      · rename_i h3; exact Pk.isNull hz _ (h2.is hz h3 (by decide))
      · exact h2
    split
    · exact (Pk.str hz ih (Pk.refl h).deep).back
    · exact Pk.loop hz (ih _) rank _ _ (ih _ s h)
end Go.Proofs.YtcniebkehekliaaGreatDoor
