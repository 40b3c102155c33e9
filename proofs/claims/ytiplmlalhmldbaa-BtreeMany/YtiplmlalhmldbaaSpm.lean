/- All keys of a tree that are in a span, and no others, are handed on. -/
import Derived.Test.YtiplmlalhmldbaaSpa
namespace Go.Proofs.Ytiplmlalhmldbaa
open Go.RowKit Go.Shelf
theorem has_below {lo hi k : ByteArray} (h : ltB k lo = true) : hasB lo hi k = false := hasB_no h
theorem has_past {lo hi x y : ByteArray} (h0 : ltB x lo = false) (h1 : hasB lo hi x = false) (h2 : ltB x y = true) : hasB lo hi y = false := by
  cases h3 : hi.toList.isEmpty with
  | true => rw [hasB_open h0 h3] at h1; cases h1
  | false =>
    rw [hasB_end h0 h3] at h1
    have h4 : ltB y lo = false := by
      cases e : ltB y lo with
      | false => rfl
      | true => rw [ltB_trans h2 e] at h0; cases h0
    rw [hasB_end h4 h3]
    cases e : Op.bytesLess y.toList hi.toList with
    | false => rfl
    | true =>
      have : ltB x hi = true := ltB_trans (b := y) h2 e
      have h5 : ltB x hi = false := h1
      rw [this] at h5
      cases h5
abbrev inS (lo hi : ByteArray) (xs : List Im) : List Im := xs.filter (fun x => hasB lo hi x.1)
theorem inS_low {lo hi : ByteArray} {xs : List Im} (h : ∀ y ∈ xs, ltB y.1 lo = true) : inS lo hi xs = [] := filter_no (fun y hy => has_below (h y hy))
theorem take_filter {lo hi : ByteArray} : ∀ {ys : List Im}, Pw ys → (∀ y ∈ ys, ltB y.1 lo = false) → ys.takeWhile (fun x => hasB lo hi x.1) = inS lo hi ys
  | [], _, _ => rfl
  | y :: ys, hp, hl => by
    have hp := List.pairwise_cons.1 hp
    have h0 := hl y List.mem_cons_self
    show _ = List.filter _ _
    cases e : hasB lo hi y.1 with
    | true =>
      rw [List.takeWhile_cons_of_pos (p := fun x : Im => hasB lo hi x.1) e, List.filter_cons_of_pos (p := fun x : Im => hasB lo hi x.1) e, take_filter hp.2 (fun z hz => hl z (List.mem_cons_of_mem _ hz))]
    | false =>
      rw [List.takeWhile_cons_of_neg (p := fun x : Im => hasB lo hi x.1) (by simp [e]), List.filter_cons_of_neg (p := fun x : Im => hasB lo hi x.1) (by simp [e])]
      exact (filter_no (fun z hz => has_past h0 e (hp.1 z hz))).symm
theorem span_leaf {lo hi : ByteArray} {xs : List Im} (hp : Pw xs) : spanL xs lo hi (posK xs lo) = inS lo hi xs := by
  have hs := pos_split hp lo
  have e : inS lo hi xs = inS lo hi (xs.take (posK xs lo)) ++ inS lo hi (xs.drop (posK xs lo)) := by rw [← List.filter_append, List.take_append_drop]
  rw [e, inS_low hs.1, List.nil_append]
  exact take_filter (hp.sublist (List.drop_sublist _ _)) hs.2
/- What stands from kid i on. -/
def from' {h : Nat} (xs : List Im) (ts : List (Nd h)) (i : Nat) : List Im := flat h (ts.getD i (dflt h)) ++ zipS (xs.drop i) ((ts.drop (i + 1)).map (flat h))
theorem from_step {h : Nat} {xs : List Im} {ts : List (Nd h)} {i : Nat} (hi : i < xs.length) (hts : ts.length = xs.length + 1) : from' xs ts i = flat h (ts.getD i (dflt h)) ++ xs[i]! :: from' xs ts (i + 1) := by
  unfold from'
  have e3 : xs.drop i = xs[i]! :: xs.drop (i + 1) := by rw [getElem!_pos xs i hi]; exact List.drop_eq_getElem_cons hi
  have e4 : ts.drop (i + 1) = ts.getD (i + 1) (dflt h) :: ts.drop (i + 1 + 1) := by
    rw [List.getD_eq_getElem?_getD, List.getElem?_eq_getElem (by omega), Option.getD_some]
    exact List.drop_eq_getElem_cons (by omega)
  rw [e3, zipS_cons _ _ (by rw [e4]; simp), e4]
  rfl
theorem from_pw {h : Nat} {xs : List Im} {ts : List (Nd h)} (hts : ts.length = xs.length + 1) (hp : Pw (zipF xs (ts.map (flat h)))) {i : Nat} (hi : i ≤ xs.length) : Pw (from' xs ts i) := by
  rw [zip_part hi hts, List.append_assoc] at hp
  exact (List.pairwise_append.1 hp).2.1
theorem span_inner {h : Nat} {xs : List Im} {ts : List (Nd h)} {lo hi : ByteArray} (hts : ts.length = xs.length + 1) (hp : Pw (zipF xs (ts.map (flat h)))) (kd : Nat → List Im) (hkd : ∀ i, i < ts.length → kd i = inS lo hi (flat h (ts.getD i (dflt h)))) :
    ∀ (f i : Nat), i + f = xs.length → (∀ y ∈ xs.drop i, ltB y.1 lo = false) → spI xs kd lo hi i f = inS lo hi (from' xs ts i)
  | 0, i, e, _ => by
    show kd i = _
    unfold from'
    rw [hkd i (by omega), List.drop_eq_nil_of_le (by omega), zipS_nil, List.append_nil]
  | f + 1, i, e, hl => by
    have hlt : i < xs.length := by omega
    have e3 : xs.drop i = xs[i]! :: xs.drop (i + 1) := by rw [getElem!_pos xs i hlt]; exact List.drop_eq_getElem_cons hlt
    rw [e3] at hl
    have h0 := hl _ List.mem_cons_self
    have ih := span_inner hts hp kd hkd f (i + 1) (by omega) (fun y hy => hl y (List.mem_cons_of_mem _ hy))
    have hpi := from_pw hts hp (i := i) (by omega)
    rw [from_step hlt hts] at hpi ⊢
    show kd i ++ (if hasB lo hi (xs[i]!).1 = true then xs[i]! :: spI xs kd lo hi (i + 1) f else []) = List.filter _ _
    rw [hkd i (by omega), List.filter_append]
    have hpi := List.pairwise_cons.1 (List.pairwise_append.1 hpi).2.1
    cases e : hasB lo hi (xs[i]!).1 with
    | true => rw [if_pos rfl, ih, List.filter_cons_of_pos (p := fun x : Im => hasB lo hi x.1) e]
    | false =>
      rw [if_neg (by decide), List.filter_cons_of_neg (p := fun x : Im => hasB lo hi x.1) (by show ¬ hasB lo hi (xs[i]!).1 = true; rw [e]; decide)]
      rw [filter_no (xs := from' xs ts (i + 1)) (fun z hz => has_past h0 e (hpi.1 z hz))]
theorem span_flat : ∀ {h : Nat} {t : Nd h} (lo hi : ByteArray), Bal h t → Pw (flat h t) → spT h t lo hi = inS lo hi (flat h t)
  | 0, _, _, _, _, hp => span_leaf hp
  | h + 1, t, lo, hi, B, hp => by
    have hts : t.2.length = t.1.length + 1 := B.1
    have hp0 : Pw (zipF t.1 (t.2.map (flat h))) := hp
    have hpx : Pw t.1 := hp.sublist (its_sub B)
    have hs := pos_split hpx lo
    have hpl := posK_le t.1 lo
    have hz := zip_part (h := h) (xs := t.1) (ts := t.2) (i := posK t.1 lo) hpl hts
    have hsi := span_inner hts hp0 (fun i => spT h (t.2.getD i (dflt h)) lo hi) (fun i hi' => by
      have hm := getD_mem hi' (dflt h)
      exact span_flat lo hi (B.2 _ hm).1 (hp.sublist (kid_sub B hm))) (t.1.length - posK t.1 lo) (posK t.1 lo) (by omega) hs.2
    show spI t.1 (fun i => spT h (t.2.getD i (dflt h)) lo hi) lo hi (posK t.1 lo) (t.1.length - posK t.1 lo) = inS lo hi (zipF t.1 (t.2.map (flat h)))
    rw [hsi]
    rw [hz, List.append_assoc] at hp0 ⊢
    show _ = List.filter _ _
    rw [List.filter_append]
    have hb := pre_below (by simp; omega) hs.1 (List.pairwise_append.1 hp0).1
    rw [filter_no (fun y hy => has_below (hb y hy)), List.nil_append]
    rfl
end Go.Proofs.Ytiplmlalhmldbaa
