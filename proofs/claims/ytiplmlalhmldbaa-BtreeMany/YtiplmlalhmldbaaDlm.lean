/- Plain mathematics of a key taken out: kids in a place (kid_math), sisters made one (joinT, joinedT), the last key, withoutT. -/
import Derived.Test.YtiplmlalhmldbaaWan
namespace Go.Proofs.Ytiplmlalhmldbaa
theorem kid_math {h : Nat} {xs : List Im} {ts : List (Nd h)} {i : Nat} {k2 : Nd h} (hi : i ≤ xs.length) (h1 : ts.length = xs.length + 1)
    (hold : ∀ k, k ∈ ts.take i ∨ k ∈ ts.drop (i + 1) → Bal h k ∧ 3 ≤ (its h k).length ∧ (its h k).length ≤ 7) (i1 : Bal h k2) (i3 : 3 ≤ (its h k2).length) (i4 : (its h k2).length ≤ 15) :
    Bal (h + 1) (withKidT xs ts i k2) ∧ flat (h + 1) (withKidT xs ts i k2) = zipP (xs.take i) ((ts.take i).map (flat h)) ++ flat h k2 ++ zipS (xs.drop i) ((ts.drop (i + 1)).map (flat h)) ∧
      xs.length ≤ (its (h + 1) (withKidT xs ts i k2)).length ∧ (its (h + 1) (withKidT xs ts i k2)).length ≤ xs.length + 1 := by
  have hlA : (xs.take i).length = ((ts.take i).map (flat h)).length := by simp; omega
  unfold withKidT
  by_cases h7 : 7 < (its h k2).length
  · rw [if_pos h7]
    have hmid : (its h k2).length / 2 < (its h k2).length := by omega
    have pf := piece_flat i1 hmid
    have l1 := piece_its h k2 0 ((its h k2).length / 2)
    have l2 := piece_its h k2 ((its h k2).length / 2 + 1) (its h k2).length
    have b1 := piece_bal i1 (a := 0) (b := (its h k2).length / 2) (by omega) (by omega)
    have b2 := piece_bal i1 (a := (its h k2).length / 2 + 1) (b := (its h k2).length) (by omega) (by omega)
    refine ⟨⟨?_, ?_⟩, ?_, ?_, ?_⟩
    · show (ts.take i ++ [pieceT h k2 0 ((its h k2).length / 2), pieceT h k2 ((its h k2).length / 2 + 1) (its h k2).length] ++ ts.drop (i + 1)).length = (xs.take i ++ [(its h k2)[(its h k2).length / 2]!] ++ xs.drop i).length + 1
      simp
      omega
    · intro k hk
      rcases List.mem_append.1 hk with hk | hk
      · rcases List.mem_append.1 hk with hk | hk
        · exact hold k (.inl hk)
        · simp only [List.mem_cons, List.not_mem_nil, or_false] at hk
          rcases hk with rfl | rfl
          · refine ⟨b1, ?_⟩
            rw [l1]
            simp
            omega
          · refine ⟨b2, ?_⟩
            rw [l2]
            simp
            omega
      · exact hold k (.inr hk)
    · show zipF (xs.take i ++ [(its h k2)[(its h k2).length / 2]!] ++ xs.drop i) ((ts.take i ++ [pieceT h k2 0 ((its h k2).length / 2), pieceT h k2 ((its h k2).length / 2 + 1) (its h k2).length] ++ ts.drop (i + 1)).map (flat h)) = _
      have z3 := zip_at ((its h k2)[(its h k2).length / 2]! :: xs.drop i) (flat h (pieceT h k2 0 ((its h k2).length / 2))) (flat h (pieceT h k2 ((its h k2).length / 2 + 1) (its h k2).length) :: (ts.drop (i + 1)).map (flat h)) hlA
      rw [zipS_cons _ _ (by simp)] at z3
      rw [List.map_append, List.map_append, List.append_assoc, List.append_assoc, List.singleton_append]
      refine z3.trans ?_
      rw [← pf]
      simp [zipF]
    · show xs.length ≤ (xs.take i ++ [(its h k2)[(its h k2).length / 2]!] ++ xs.drop i).length
      simp
      omega
    · show (xs.take i ++ [(its h k2)[(its h k2).length / 2]!] ++ xs.drop i).length ≤ xs.length + 1
      simp
      omega
  · rw [if_neg h7]
    refine ⟨⟨?_, ?_⟩, ?_, ?_, ?_⟩
    · show (ts.take i ++ [k2] ++ ts.drop (i + 1)).length = xs.length + 1
      simp
      omega
    · intro k hk
      rcases List.mem_append.1 hk with hk | hk
      · rcases List.mem_append.1 hk with hk | hk
        · exact hold k (.inl hk)
        · rw [List.mem_singleton] at hk
          rw [hk]
          exact ⟨i1, by omega, by omega⟩
      · exact hold k (.inr hk)
    · show zipF xs ((ts.take i ++ [k2] ++ ts.drop (i + 1)).map (flat h)) = _
      have z3 := zip_at (xs.drop i) (flat h k2) ((ts.drop (i + 1)).map (flat h)) hlA
      rw [List.take_append_drop] at z3
      rw [← z3]
      simp
    · exact Nat.le_refl _
    · exact Nat.le_succ _
/- Two sisters and the key between them as one. -/
def joinT : (h : Nat) → Nd h → Im → Nd h → Nd h
  | 0, a, x, b => its 0 a ++ [x] ++ its 0 b
  | _ + 1, a, x, b => (a.1 ++ [x] ++ b.1, a.2 ++ b.2)
theorem join_its : ∀ (h : Nat) (a : Nd h) (x : Im) (b : Nd h), its h (joinT h a x b) = its h a ++ [x] ++ its h b
  | 0, _, _, _ => rfl
  | _ + 1, _, _, _ => rfl
theorem join_len (h : Nat) (a : Nd h) (x : Im) (b : Nd h) : (its h (joinT h a x b)).length = (its h a).length + 1 + (its h b).length := by
  rw [join_its, List.length_append, List.length_append, List.length_singleton]
theorem take_snoc {α : Type} {l : List α} {j : Nat} (h : j < l.length) (d : α) : l.take (j + 1) = l.take j ++ [l.getD j d] := by
  rw [List.getD_eq_getElem?_getD, List.getElem?_eq_getElem h, Option.getD_some, List.take_append_getElem]
theorem join_bal : ∀ {h : Nat} {a b : Nd h} (x : Im), Bal h a → Bal h b → Bal h (joinT h a x b)
  | 0, _, _, _, _, _ => trivial
  | h + 1, a, b, x, A, B => by
    have h1 : a.2.length = a.1.length + 1 := A.1
    have h2 : b.2.length = b.1.length + 1 := B.1
    refine ⟨?_, fun k hk => ?_⟩
    · show (a.2 ++ b.2).length = (a.1 ++ [x] ++ b.1).length + 1
      simp
      omega
    · rcases List.mem_append.1 hk with hk | hk
      · exact A.2 k hk
      · exact B.2 k hk
theorem join_flat : ∀ {h : Nat} {a b : Nd h} (x : Im), Bal h a → Bal h b → flat h (joinT h a x b) = flat h a ++ x :: flat h b
  | 0, a, b, x, _, _ => by
    show its 0 a ++ [x] ++ its 0 b = its 0 a ++ x :: its 0 b
    simp
  | h + 1, a, b, x, A, B => by
    have h1 : a.2.length = a.1.length + 1 := A.1
    have h2 : b.2.length = b.1.length + 1 := B.1
    show zipF (a.1 ++ [x] ++ b.1) ((a.2 ++ b.2).map (flat h)) = zipF a.1 (a.2.map (flat h)) ++ x :: zipF b.1 (b.2.map (flat h))
    rcases List.eq_nil_or_concat a.2 with e | ⟨C, c, e⟩
    · rw [e] at h1; simp at h1
    · rw [List.concat_eq_append] at e
      rw [e] at h1 ⊢
      have hl : a.1.length = (C.map (flat h)).length := by simp at h1 ⊢; omega
      have z1 := zip_at [] (flat h c) [] hl
      have z2 := zip_at (x :: b.1) (flat h c) (b.2.map (flat h)) hl
      rw [List.append_nil, zipS_nil, List.append_nil] at z1
      rw [zipS_cons x b.1 (by intro e2; have := congrArg List.length e2; simp at this; rw [this] at h2; simp at h2)] at z2
      rw [List.append_assoc a.1, List.singleton_append, List.map_append, List.map_append, List.append_assoc, List.map_singleton, List.singleton_append, z2, z1]
def joinedT {h : Nat} (xs : List Im) (ts : List (Nd h)) (i : Nat) (kid : Nd h) : Nd (h + 1) :=
  withKidT (xs.take (i - 1) ++ xs.drop (i - 1 + 1)) (ts.take (i - 1 + 1) ++ ts.drop (i - 1 + 2)) (i - 1)
    (joinT h (if 0 < i then ts.getD (i - 1) (dflt h) else kid) xs[i - 1]! (if 0 < i then kid else ts.getD 1 (dflt h)))
theorem joined_math {h : Nat} {xs : List Im} {ts : List (Nd h)} {i : Nat} {k2 : Nd h} (hi : i ≤ xs.length) (h0 : 0 < xs.length) (h1 : ts.length = xs.length + 1)
    (hold : ∀ k, k ∈ ts.take i ∨ k ∈ ts.drop (i + 1) → Bal h k ∧ 3 ≤ (its h k).length ∧ (its h k).length ≤ 7) (i1 : Bal h k2) (i3 : (its h k2).length = 2) :
    Bal (h + 1) (joinedT xs ts i k2) ∧ flat (h + 1) (joinedT xs ts i k2) = zipP (xs.take i) ((ts.take i).map (flat h)) ++ flat h k2 ++ zipS (xs.drop i) ((ts.drop (i + 1)).map (flat h)) ∧
      xs.length ≤ (its (h + 1) (joinedT xs ts i k2)).length + 1 ∧ (its (h + 1) (joinedT xs ts i k2)).length ≤ xs.length := by
  unfold joinedT
  have hxs : (xs.take (i - 1) ++ xs.drop (i - 1 + 1)).length = xs.length - 1 := by simp; omega
  have hts : (ts.take (i - 1 + 1) ++ ts.drop (i - 1 + 2)).length = (xs.take (i - 1) ++ xs.drop (i - 1 + 1)).length + 1 := by rw [hxs]; simp; omega
  have e1 : (ts.take (i - 1 + 1) ++ ts.drop (i - 1 + 2)).take (i - 1) = ts.take (i - 1) := by
    rw [List.take_append_of_le_length (by simp; omega), List.take_take]
    congr 1
    omega
  have e2 : (ts.take (i - 1 + 1) ++ ts.drop (i - 1 + 2)).drop (i - 1 + 1) = ts.drop (i - 1 + 2) := List.drop_left' (by simp; omega)
  have e3 : (xs.take (i - 1) ++ xs.drop (i - 1 + 1)).take (i - 1) = xs.take (i - 1) := List.take_left' (by simp; omega)
  have e4 : (xs.take (i - 1) ++ xs.drop (i - 1 + 1)).drop (i - 1) = xs.drop (i - 1 + 1) := List.drop_left' (by simp; omega)
  by_cases hi0 : 0 < i
  · rw [if_pos hi0, if_pos hi0]
    obtain ⟨j, rfl⟩ : ∃ j, i = j + 1 := ⟨i - 1, by omega⟩
    rw [Nat.add_sub_cancel] at *
    have hsis := hold (ts.getD j (dflt h)) (.inl (by
      rw [take_snoc (by omega : j < ts.length) (dflt h)]
      exact List.mem_append_right _ (List.mem_singleton.2 rfl)))
    have km := kid_math (h := h) (xs := xs.take j ++ xs.drop (j + 1)) (ts := ts.take (j + 1) ++ ts.drop (j + 2)) (i := j) (k2 := joinT h (ts.getD j (dflt h)) xs[j]! k2) (by omega) hts
      (fun k hk => by
        rw [e1, e2] at hk
        rcases hk with hk | hk
        · exact hold k (.inl (List.mem_of_mem_take (by rw [List.take_take]; rwa [Nat.min_eq_left (by omega)] : k ∈ (ts.take (j + 1)).take j)))
        · exact hold k (.inr hk)) (join_bal _ hsis.1 i1) (by rw [join_len]; omega) (by rw [join_len]; omega)
    rw [e1, e2, e3, e4, join_flat _ hsis.1 i1] at km
    refine ⟨km.1, km.2.1.trans ?_, by have := km.2.2.1; omega, by have := km.2.2.2; omega⟩
    have t1 : xs.take (j + 1) = xs.take j ++ [xs[j]!] := by rw [getElem!_pos xs j (by omega), List.take_append_getElem]
    have t2 : (ts.take (j + 1)).map (flat h) = (ts.take j).map (flat h) ++ [flat h (ts.getD j (dflt h))] := by
      rw [take_snoc (by omega : j < ts.length) (dflt h), List.map_append, List.map_singleton]
    rw [t1, t2, zipP_last (by simp; omega)]
    simp
  · obtain rfl : i = 0 := by omega
    rw [if_neg (by omega), if_neg (by omega)]
    simp only [Nat.zero_sub, Nat.zero_add] at *
    have hm1 : ts.getD 1 (dflt h) ∈ ts.drop 1 := by
      rw [List.getD_eq_getElem?_getD, List.getElem?_eq_getElem (by omega), Option.getD_some, List.drop_eq_getElem_cons (by omega : 1 < ts.length)]
      exact List.mem_cons_self
    have hsis := hold _ (.inr hm1)
    have km := kid_math (h := h) (xs := xs.take 0 ++ xs.drop 1) (ts := ts.take 1 ++ ts.drop 2) (i := 0) (k2 := joinT h k2 xs[0]! (ts.getD 1 (dflt h))) (by omega) hts
      (fun k hk => by
        rw [e1, e2] at hk
        rcases hk with hk | hk
        · simp at hk
        · refine hold k (.inr ?_)
          rw [List.drop_eq_getElem_cons (by omega : 1 < ts.length)]
          exact List.mem_cons_of_mem _ hk) (join_bal _ i1 hsis.1) (by rw [join_len]; omega) (by rw [join_len]; omega)
    rw [e1, e2, e3, e4, join_flat _ i1 hsis.1] at km
    refine ⟨km.1, km.2.1.trans ?_, by have := km.2.2.1; omega, by have := km.2.2.2; omega⟩
    have t1 : xs.drop 0 = xs[0]! :: xs.drop 1 := by rw [getElem!_pos xs 0 (by omega)]; exact List.drop_eq_getElem_cons (by omega)
    have t2 : (ts.drop 1).map (flat h) = flat h (ts.getD 1 (dflt h)) :: (ts.drop 2).map (flat h) := by
      rw [List.getD_eq_getElem?_getD, List.getElem?_eq_getElem (by omega), Option.getD_some, List.drop_eq_getElem_cons (by omega : 1 < ts.length)]
      rfl
    rw [t1, t2, zipS_cons _ _ (by simp)]
    simp [zipF]
/- The highest key. -/
def lastT : (h : Nat) → Nd h → Im
  | 0, t => (its 0 t)[(its 0 t).length - 1]!
  | h + 1, t => lastT h (t.2.getD (t.2.length - 1) (dflt h))
theorem last_flat : ∀ {h : Nat} {t : Nd h}, Bal h t → 0 < (its h t).length → ∃ G, flat h t = G ++ [lastT h t]
  | 0, t, _, hn => by
    have h1 := take_snoc (l := its 0 t) (j := (its 0 t).length - 1) (by omega) default
    rw [Nat.sub_add_cancel (by omega), List.take_length, List.getD_eq_getElem?_getD, ← List.getElem!_eq_getElem?_getD] at h1
    exact ⟨_, h1⟩
  | h + 1, t, H, hn => by
    have h1 : t.2.length = t.1.length + 1 := H.1
    have e := take_snoc (l := t.2) (j := t.2.length - 1) (by omega) (dflt h)
    rw [Nat.sub_add_cancel (by omega), List.take_length] at e
    have hm := getD_mem (l := t.2) (i := t.2.length - 1) (by omega) (dflt h)
    have hk := H.2 _ hm
    obtain ⟨G, hG⟩ := last_flat hk.1 (by omega)
    have z := zip_at [] (flat h (t.2.getD (t.2.length - 1) (dflt h))) [] (A := t.1) (C := (t.2.take (t.2.length - 1)).map (flat h)) (by simp; omega)
    rw [List.append_nil, zipS_nil, List.append_nil] at z
    refine ⟨zipP t.1 ((t.2.take (t.2.length - 1)).map (flat h)) ++ G, ?_⟩
    show zipF t.1 (t.2.map (flat h)) = _
    conv => lhs; rw [e]
    rw [List.map_append, List.map_singleton, z, hG]
    simp [lastT]
/- A list without a key. -/
def delF (xs : List Im) (k : ByteArray) : List Im := xs.filter (fun y => ltB y.1 k) ++ xs.filter (fun y => ltB k y.1)
theorem delF_mid {A K S : List Im} {k : ByteArray} (hA : ∀ y ∈ A, ltB y.1 k = true) (hS : ∀ y ∈ S, ltB k y.1 = true) : delF (A ++ K ++ S) k = A ++ delF K k ++ S := by
  unfold delF
  rw [List.filter_append, List.filter_append, List.filter_append, List.filter_append, filter_lo hA, filter_lo hS, filter_no (xs := A) (p := fun y => ltB k y.1) (fun y hy => ltB_asymm (hA y hy)), filter_no (xs := S) (p := fun y => ltB y.1 k) (fun y hy => ltB_asymm (hS y hy))]
  simp
theorem delF_here {A S : List Im} {y : Im} {k : ByteArray} (hy : y.1 = k) (hA : ∀ z ∈ A, ltB z.1 k = true) (hS : ∀ z ∈ S, ltB k z.1 = true) : delF (A ++ [y] ++ S) k = A ++ S := by
  rw [delF_mid hA hS]
  have : delF [y] k = [] := by
    unfold delF
    rw [filter_no (fun z hz => by rw [List.mem_singleton.1 hz, hy]; exact ltB_irrefl _), filter_no (fun z hz => by rw [List.mem_singleton.1 hz, hy]; exact ltB_irrefl _)]
    rfl
  rw [this, List.append_nil]
theorem delF_pw {xs : List Im} (hp : Pw xs) (k : ByteArray) : Pw (delF xs k) := by
  refine List.pairwise_append.2 ⟨hp.sublist List.filter_sublist, hp.sublist List.filter_sublist, fun a ha b hb => ?_⟩
  exact ltB_trans (List.mem_filter.1 ha).2 (List.mem_filter.1 hb).2
theorem delK_delF {xs : List Im} (hp : Pw xs) {k : ByteArray} (hk : isK xs k = true) : delK xs k = delF xs k := by
  obtain ⟨hlt, he⟩ := isK_at hk
  have hs := (pos_split hp k).1
  have hb := pos_behind hp hk
  unfold delK
  have hc := cut_at hlt
  conv => rhs; rw [hc]
  rw [delF_here he hs hb]
def withKid2T {h : Nat} (xs : List Im) (ts : List (Nd h)) (i : Nat) (kid : Nd h) : Nd (h + 1) := if (its h kid).length < 3 then joinedT xs ts i kid else withKidT xs ts i kid
theorem kid2_math {h : Nat} {xs : List Im} {ts : List (Nd h)} {i : Nat} {k2 : Nd h} (hi : i ≤ xs.length) (h0 : 0 < xs.length) (h1 : ts.length = xs.length + 1)
    (hold : ∀ k, k ∈ ts.take i ∨ k ∈ ts.drop (i + 1) → Bal h k ∧ 3 ≤ (its h k).length ∧ (its h k).length ≤ 7) (i1 : Bal h k2) (i3 : 2 ≤ (its h k2).length) (i4 : (its h k2).length ≤ 7) :
    Bal (h + 1) (withKid2T xs ts i k2) ∧ flat (h + 1) (withKid2T xs ts i k2) = zipP (xs.take i) ((ts.take i).map (flat h)) ++ flat h k2 ++ zipS (xs.drop i) ((ts.drop (i + 1)).map (flat h)) ∧
      xs.length ≤ (its (h + 1) (withKid2T xs ts i k2)).length + 1 ∧ (its (h + 1) (withKid2T xs ts i k2)).length ≤ xs.length := by
  unfold withKid2T
  split
  · exact joined_math hi h0 h1 hold i1 (by omega)
  · have km := kid_math hi h1 hold i1 (by omega) (by omega)
    have e : withKidT xs ts i k2 = mkN xs (ts.take i ++ [k2] ++ ts.drop (i + 1)) := if_neg (by omega)
    rw [e] at km ⊢
    exact ⟨km.1, km.2.1, Nat.le_succ _, Nat.le_refl _⟩
def withoutT : (h : Nat) → Nd h → ByteArray → Nd h
  | 0, t, k => delK (its 0 t) k
  | h + 1, t, k => if isK t.1 k = true
    then withKid2T (t.1.take (posK t.1 k) ++ [lastT h (t.2.getD (posK t.1 k) (dflt h))] ++ t.1.drop (posK t.1 k + 1)) t.2 (posK t.1 k) (withoutT h (t.2.getD (posK t.1 k) (dflt h)) (lastT h (t.2.getD (posK t.1 k) (dflt h))).1)
    else withKid2T t.1 t.2 (posK t.1 k) (withoutT h (t.2.getD (posK t.1 k) (dflt h)) k)
theorem has_mem {xs : List Im} {k : ByteArray} : hasF xs k = true ↔ ∃ y ∈ xs, y.1 = k := by
  unfold hasF
  simp
theorem without_math : ∀ {h : Nat} {t : Nd h} (k : ByteArray), Bal h t → Pw (flat h t) → hasF (flat h t) k = true → 0 < (its h t).length →
    Bal h (withoutT h t k) ∧ flat h (withoutT h t k) = delF (flat h t) k ∧ (its h t).length ≤ (its h (withoutT h t k)).length + 1 ∧ (its h (withoutT h t k)).length ≤ (its h t).length
  | 0, t, k, _, hp, hk, _ => by
    have hK : isK (its 0 t) k = true := by
      cases e : isK (its 0 t) k with
      | true => rfl
      | false =>
        exfalso
        obtain ⟨y, hy, rfl⟩ := has_mem.1 hk
        have hs := (pos_split hp y.1).1
        have ha := pos_above hp e
        have hy : y ∈ its 0 t := hy
        rw [← List.take_append_drop (posK (its 0 t) y.1) (its 0 t)] at hy
        rcases List.mem_append.1 hy with h | h
        · have := hs y h; rw [ltB_irrefl] at this; cases this
        · have := ha y h; rw [ltB_irrefl] at this; cases this
    have hlt := (isK_at hK).1
    refine ⟨trivial, delK_delF hp hK, ?_, ?_⟩
    · show (its 0 t).length ≤ (delK (its 0 t) k).length + 1
      unfold delK; simp; omega
    · show (delK (its 0 t) k).length ≤ (its 0 t).length
      unfold delK; simp; omega
  | h + 1, t, k, H, hp, hk, hn => by
    have h1 : t.2.length = t.1.length + 1 := H.1
    have hn : 0 < t.1.length := hn
    have hpx : Pw t.1 := hp.sublist (its_sub H)
    have hpl := posK_le t.1 k
    have hs := pos_split hpx k
    have hz := zip_part (h := h) (xs := t.1) (ts := t.2) (i := posK t.1 k) hpl h1
    have habv := fun e => pos_above hpx (k := k) e
    have hat := fun e => isK_at (xs := t.1) (k := k) e
    have hp0 : Pw (zipF t.1 (t.2.map (flat h))) := hp
    have hk0 : hasF (zipF t.1 (t.2.map (flat h))) k = true := hk
    show Bal (h + 1) (if isK t.1 k = true then _ else _) ∧ flat (h + 1) (if isK t.1 k = true then _ else _) = delF (zipF t.1 (t.2.map (flat h))) k ∧ t.1.length ≤ (its (h + 1) (if isK t.1 k = true then _ else _)).length + 1 ∧ (its (h + 1) (if isK t.1 k = true then _ else _)).length ≤ t.1.length
    generalize posK t.1 k = i at *
    have hlA : (t.1.take i).length = ((t.2.take i).map (flat h)).length := by simp; omega
    have hm := getD_mem (l := t.2) (i := i) (by omega) (dflt h)
    have hkid := H.2 _ hm
    have hpk := hp.sublist (kid_sub H hm)
    have hold : ∀ k, k ∈ t.2.take i ∨ k ∈ t.2.drop (i + 1) → Bal h k ∧ 3 ≤ (its h k).length ∧ (its h k).length ≤ 7 := fun k hk => H.2 k (by
      rcases hk with hk | hk
      · exact List.mem_of_mem_take hk
      · exact List.mem_of_mem_drop hk)
    by_cases hK : isK t.1 k = true
    · rw [if_pos hK]
      obtain ⟨hlt, he⟩ := hat hK
      obtain ⟨G, hG⟩ := last_flat hkid.1 (by omega)
      generalize lastT h (t.2.getD i (dflt h)) = low at *
      have hGp := hpk
      rw [hG] at hGp
      have hGl := (List.pairwise_append.1 hGp).2.2
      obtain ⟨i1, i2, i3, i4⟩ := without_math low.1 hkid.1 hpk (has_mem.2 ⟨low, by rw [hG]; simp, rfl⟩) (by omega)
      have i5 : flat h (withoutT h (t.2.getD i (dflt h)) low.1) = G := by
        have := delF_here (A := G) (S := []) (y := low) rfl (fun z hz => hGl z hz low (List.mem_singleton.2 rfl)) (fun z hz => by cases hz)
        rw [List.append_nil, List.append_nil] at this
        rw [i2, hG, this]
      generalize withoutT h (t.2.getD i (dflt h)) low.1 = k2 at *
      have hl : (t.1.take i ++ [low] ++ t.1.drop (i + 1)).length = t.1.length := by simp; omega
      have km := kid2_math (h := h) (xs := t.1.take i ++ [low] ++ t.1.drop (i + 1)) (ts := t.2) (i := i) (k2 := k2) (by omega) (by omega) (by omega) hold i1 (by omega) (by omega)
      rw [hl] at km
      refine ⟨km.1, km.2.1.trans ?_, km.2.2.1, km.2.2.2⟩
      have t1 : (t.1.take i ++ [low] ++ t.1.drop (i + 1)).take i = t.1.take i := by rw [List.append_assoc]; exact List.take_left' (by simp; omega)
      have t2 : (t.1.take i ++ [low] ++ t.1.drop (i + 1)).drop i = low :: t.1.drop (i + 1) := by rw [List.append_assoc]; exact List.drop_left' (by simp; omega)
      have hD : (t.2.drop (i + 1)).map (flat h) ≠ [] := by
        intro e
        have := congrArg List.length e
        simp at this
        omega
      have e3 : t.1.drop i = t.1[i]! :: t.1.drop (i + 1) := by rw [getElem!_pos t.1 i hlt]; exact List.drop_eq_getElem_cons hlt
      rw [t1, t2, zipS_cons _ _ hD, i5]
      rw [e3, zipS_cons _ _ hD] at hz
      rw [hz] at hp0 ⊢
      have e5 := List.pairwise_append.1 hp0
      have hb : ∀ z ∈ zipP (t.1.take i) ((t.2.take i).map (flat h)) ++ flat h (t.2.getD i (dflt h)), ltB z.1 k = true := by
        intro z hz
        have := e5.2.2 z hz _ List.mem_cons_self
        rwa [he] at this
      have ha : ∀ z ∈ zipF (t.1.drop (i + 1)) ((t.2.drop (i + 1)).map (flat h)), ltB k z.1 = true := by
        intro z hz
        have := (List.pairwise_cons.1 e5.2.1).1 z hz
        rwa [he] at this
      have e6 := delF_here (y := t.1[i]!) he hb ha
      rw [List.append_assoc (_ ++ _) [t.1[i]!], List.singleton_append] at e6
      rw [e6, hG]
      simp
    · rw [if_neg hK]
      have hK' : isK t.1 k = false := by simpa using hK
      have habv := habv hK'
      rw [hz] at hp0 hk0
      have e5 := List.pairwise_append.1 hp0
      have e6 := List.pairwise_append.1 e5.1
      have hb := pre_below hlA hs.1 e6.1
      have ha := suf_above (B := t.1.drop i) (D := (t.2.drop (i + 1)).map (flat h)) (by simp; omega) habv e5.2.1
      have hhas : hasF (flat h (t.2.getD i (dflt h))) k = true := by
        obtain ⟨y, hy, rfl⟩ := has_mem.1 hk0
        rcases List.mem_append.1 hy with hy | hy
        · rcases List.mem_append.1 hy with hy | hy
          · have := hb y hy; rw [ltB_irrefl] at this; cases this
          · exact has_mem.2 ⟨y, hy, rfl⟩
        · have := ha y hy; rw [ltB_irrefl] at this; cases this
      obtain ⟨i1, i2, i3, i4⟩ := without_math k hkid.1 hpk hhas (by omega)
      generalize withoutT h (t.2.getD i (dflt h)) k = k2 at *
      have km := kid2_math (h := h) (xs := t.1) (ts := t.2) (i := i) (k2 := k2) hpl hn h1 hold i1 (by omega) (by omega)
      refine ⟨km.1, km.2.1.trans ?_, km.2.2.1, km.2.2.2⟩
      rw [hz, delF_mid hb ha, i2]
end Go.Proofs.Ytiplmlalhmldbaa
