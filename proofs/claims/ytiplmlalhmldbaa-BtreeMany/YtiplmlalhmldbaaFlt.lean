/- Plain mathematics of trees: all keys of a node (flat), which nodes are as they must be (Bal), pieces, and a key put in (withT). -/
import Derived.Test.YtiplmlalhmldbaaWin
import Derived.Test.YtiplmlalhmldbaaMat
namespace Go.Proofs.Ytiplmlalhmldbaa
def zipS (xs : List Im) (ks : List (List Im)) : List Im := (List.zipWith (fun x k => x :: k) xs ks).flatten
def zipP (xs : List Im) (ks : List (List Im)) : List Im := (List.zipWith (fun x k => k ++ [x]) xs ks).flatten
def zipF (xs : List Im) : List (List Im) → List Im
  | [] => []
  | k :: ks => k ++ zipS xs ks
theorem zipS_cons (x : Im) (xs : List Im) {ks : List (List Im)} (h : ks ≠ []) : zipS (x :: xs) ks = x :: zipF xs ks := by
  cases ks with
  | nil => exact absurd rfl h
  | cons k ks => simp [zipS, zipF]
theorem zipS_nil (ks : List (List Im)) : zipS [] ks = [] := by cases ks <;> rfl
theorem zipP_cons (x : Im) (xs : List Im) (k : List Im) (ks : List (List Im)) : zipP (x :: xs) (k :: ks) = k ++ x :: zipP xs ks := by simp [zipP]
theorem zip_at (B : List Im) (k : List Im) (D : List (List Im)) : ∀ {A : List Im} {C : List (List Im)}, A.length = C.length → zipF (A ++ B) (C ++ k :: D) = zipP A C ++ k ++ zipS B D
  | [], [], _ => rfl
  | [], _ :: _, h => by cases h
  | _ :: _, [], h => by cases h
  | a :: A, c :: C, h => by
    have ih := zip_at B k D (A := A) (C := C) (by simpa using h)
    show c ++ zipS (a :: (A ++ B)) (C ++ k :: D) = _
    rw [zipS_cons a (A ++ B) (by simp), ih, zipP_cons]
    simp
theorem zipP_last {A : List Im} {C : List (List Im)} (h : A.length = C.length) (a : Im) (c : List Im) : zipP (A ++ [a]) (C ++ [c]) = zipP A C ++ c ++ [a] := by
  unfold zipP
  rw [List.zipWith_append h]
  simp
/- All keys of a node and of those below it. -/
def flat : (h : Nat) → Nd h → List Im
  | 0, t => its 0 t
  | h + 1, t => zipF t.1 (t.2.map (flat h))
/- The kids are as they must be. -/
def Bal : (h : Nat) → Nd h → Prop
  | 0, _ => True
  | h + 1, t => t.2.length = t.1.length + 1 ∧ ∀ k ∈ t.2, Bal h k ∧ 3 ≤ (its h k).length ∧ (its h k).length ≤ 7
theorem Bal.shp : ∀ {h : Nat} {t : Nd h}, Bal h t → Shp h t
  | 0, _, _ => trivial
  | _ + 1, _, H => H.1
theorem getD_mem {α : Type} {l : List α} {i : Nat} (h : i < l.length) (d : α) : l.getD i d ∈ l := by
  rw [List.getD_eq_getElem?_getD, List.getElem?_eq_getElem h]
  exact List.getElem_mem h
theorem part_at {α : Type} {l : List α} {i : Nat} (h : i < l.length) (d : α) : l = l.take i ++ l.getD i d :: l.drop (i + 1) := by
  rw [List.getD_eq_getElem?_getD, List.getElem?_eq_getElem h, Option.getD_some, ← List.drop_eq_getElem_cons h, List.take_append_drop]
theorem zip_part {h : Nat} {xs : List Im} {ts : List (Nd h)} {i : Nat} (hi : i ≤ xs.length) (hts : ts.length = xs.length + 1) :
    zipF xs (ts.map (flat h)) = zipP (xs.take i) ((ts.take i).map (flat h)) ++ flat h (ts.getD i (dflt h)) ++ zipS (xs.drop i) ((ts.drop (i + 1)).map (flat h)) := by
  have e := part_at (l := ts) (i := i) (by omega) (dflt h)
  have z := zip_at (xs.drop i) (flat h (ts.getD i (dflt h))) ((ts.drop (i + 1)).map (flat h)) (A := xs.take i) (C := (ts.take i).map (flat h)) (by simp; omega)
  rw [List.take_append_drop] at z
  rw [← z]
  conv => lhs; rw [e]
  rw [List.map_append, List.map_cons]
theorem its_sub : ∀ {h : Nat} {t : Nd h}, Bal h t → List.Sublist (its h t) (flat h t)
  | 0, _, _ => List.Sublist.refl _
  | h + 1, t, H => by
    have key : ∀ (xs : List Im) (ks : List (List Im)), xs.length ≤ ks.length → List.Sublist xs (zipS xs ks) := by
      intro xs
      induction xs with
      | nil => intro ks _; exact List.nil_sublist _
      | cons x xs ih =>
        intro ks hk
        cases ks with
        | nil => simp at hk
        | cons k ks =>
          show List.Sublist (x :: xs) ((List.zipWith (fun x k => x :: k) (x :: xs) (k :: ks)).flatten)
          rw [List.zipWith_cons_cons, List.flatten_cons, List.cons_append]
          refine List.Sublist.cons_cons x ?_
          exact (ih ks (by simpa using hk)).trans (List.sublist_append_right _ _)
    show List.Sublist t.1 (zipF t.1 (t.2.map (flat h)))
    obtain ⟨h1, _⟩ := H
    cases e : t.2 with
    | nil => rw [e] at h1; simp at h1
    | cons k ks =>
      rw [e] at h1
      rw [List.map_cons]
      exact (key t.1 (ks.map (flat h)) (by simp at h1 ⊢; omega)).trans (List.sublist_append_right _ _)
theorem kid_sub {h : Nat} {t : Nd (h + 1)} (H : Bal (h + 1) t) {k : Nd h} (hk : k ∈ t.2) : List.Sublist (flat h k) (flat (h + 1) t) := by
  obtain ⟨i, hi, rfl⟩ := List.getElem_of_mem hk
  have h1 : t.2.length = t.1.length + 1 := H.1
  have hz := zip_part (h := h) (xs := t.1) (ts := t.2) (i := i) (by omega) h1
  show List.Sublist _ (zipF t.1 (t.2.map (flat h)))
  rw [hz, List.getD_eq_getElem?_getD, List.getElem?_eq_getElem hi, Option.getD_some]
  exact (List.sublist_append_right _ _).trans (List.sublist_append_left _ _)
theorem ok_of : ∀ {h : Nat} {t : Nd h}, Bal h t → Pw (flat h t) → (its h t).length ≤ 50 → Ok h t
  | 0, _, _, hp, hn => ⟨(ris_pw _).2 hp, hn⟩
  | h + 1, t, H, hp, hn => by
    refine ⟨(ris_pw _).2 (hp.sublist (its_sub H)), hn, H.1, fun i hi => ?_⟩
    have hm := getD_mem hi (dflt h)
    have hk := H.2 _ hm
    exact ⟨ok_of hk.1 (hp.sublist (kid_sub H hm)) (by omega), by omega⟩
/- Pieces. -/
theorem piece_its : ∀ (h : Nat) (t : Nd h) (a b : Nat), its h (pieceT h t a b) = ((its h t).drop a).take (b - a)
  | 0, _, _, _ => rfl
  | _ + 1, _, _, _ => rfl
theorem piece_bal : ∀ {h : Nat} {t : Nd h}, Bal h t → ∀ {a b : Nat}, a ≤ b → b ≤ (its h t).length → Bal h (pieceT h t a b)
  | 0, _, _, _, _, _, _ => trivial
  | h + 1, t, H, a, b, hab, hb => by
    have h1 : t.2.length = t.1.length + 1 := H.1
    have hb : b ≤ t.1.length := hb
    refine ⟨?_, fun k hk => H.2 k (List.mem_of_mem_drop (List.mem_of_mem_take hk))⟩
    show ((t.2.drop a).take (b + 1 - a)).length = ((t.1.drop a).take (b - a)).length + 1
    simp
    omega
theorem piece_flat : ∀ {h : Nat} {t : Nd h}, Bal h t → ∀ {m : Nat}, m < (its h t).length → flat h (pieceT h t 0 m) ++ (its h t)[m]! :: flat h (pieceT h t (m + 1) (its h t).length) = flat h t
  | 0, t, _, m, hm => by
    show ((its 0 t).drop 0).take (m - 0) ++ (its 0 t)[m]! :: ((its 0 t).drop (m + 1)).take ((its 0 t).length - (m + 1)) = its 0 t
    rw [List.take_of_length_le (l := (its 0 t).drop (m + 1)) (by simp), List.drop_zero, Nat.sub_zero]
    have := cut_at hm
    rw [List.append_assoc, List.singleton_append] at this
    exact this.symm
  | h + 1, t, H, m, hm => by
    have h1 : t.2.length = t.1.length + 1 := H.1
    have hm : m < t.1.length := hm
    show zipF ((t.1.drop 0).take (m - 0)) (((t.2.drop 0).take (m + 1 - 0)).map (flat h)) ++ t.1[m]! :: zipF ((t.1.drop (m + 1)).take (t.1.length - (m + 1))) (((t.2.drop (m + 1)).take (t.1.length + 1 - (m + 1))).map (flat h)) = zipF t.1 (t.2.map (flat h))
    rw [List.take_of_length_le (l := t.1.drop (m + 1)) (by simp), List.take_of_length_le (l := t.2.drop (m + 1)) (by simp; omega), List.drop_zero, List.drop_zero, Nat.sub_zero, Nat.sub_zero]
    have z2 := zip_part (h := h) (xs := t.1) (ts := t.2) (i := m) (by omega) h1
    have e3 : t.1.drop m = t.1[m]! :: t.1.drop (m + 1) := by rw [getElem!_pos t.1 m hm]; exact List.drop_eq_getElem_cons hm
    have z1 := zip_at [] (flat h (t.2.getD m (dflt h))) [] (A := t.1.take m) (C := (t.2.take m).map (flat h)) (by simp; omega)
    have e1 : t.2.take (m + 1) = t.2.take m ++ [t.2.getD m (dflt h)] := by
      rw [List.getD_eq_getElem?_getD, List.getElem?_eq_getElem (by omega), Option.getD_some, List.take_append_getElem]
    rw [z2, e3, zipS_cons _ _ (by
      intro e
      have := congrArg List.length e
      simp at this
      omega), e1, List.map_append]
    rw [List.append_nil] at z1
    show zipF (t.1.take m) ((t.2.take m).map (flat h) ++ [flat h (t.2.getD m (dflt h))]) ++ _ = _
    rw [z1, zipS_nil]
    simp
def withT : (h : Nat) → Nd h → Im → Nd h
  | 0, t, x => insK (its 0 t) x
  | h + 1, t, x => if isK t.1 x.1 = true then mkN (t.1.take (posK t.1 x.1) ++ [x] ++ t.1.drop (posK t.1 x.1 + 1)) t.2 else withKidT t.1 t.2 (posK t.1 x.1) (withT h (t.2.getD (posK t.1 x.1) (dflt h)) x)
theorem insK_len (xs : List Im) (x : Im) : xs.length ≤ (insK xs x).length ∧ (insK xs x).length ≤ xs.length + 1 := by
  have hpl := posK_le xs x.1
  unfold insK
  split
  · have := isK_lt (xs := xs) (key := x.1) (by assumption)
    simp
    omega
  · simp
    omega
theorem pre_below {A : List Im} {C : List (List Im)} (h : A.length = C.length) {k : ByteArray} (hA : ∀ y ∈ A, ltB y.1 k = true) (hp : Pw (zipP A C)) : ∀ y ∈ zipP A C, ltB y.1 k = true := by
  rcases List.eq_nil_or_concat A with rfl | ⟨A0, a, rfl⟩
  · intro y hy
    simp [zipP] at hy
  · rcases List.eq_nil_or_concat C with rfl | ⟨C0, c, rfl⟩
    · simp at h
    · rw [List.concat_eq_append] at h hA
      rw [List.concat_eq_append, List.concat_eq_append] at hp ⊢
      rw [List.concat_eq_append] at h
      rw [zipP_last (by simpa using h)] at hp ⊢
      intro y hy
      have ha : ltB a.1 k = true := hA a (by simp)
      rcases List.mem_append.1 hy with hy | hy
      · exact ltB_trans ((List.pairwise_append.1 hp).2.2 y hy a (by simp)) ha
      · rw [List.mem_singleton] at hy
        rw [hy]
        exact ha
theorem suf_above {B : List Im} {D : List (List Im)} (h : B.length = D.length) {k : ByteArray} (hB : ∀ y ∈ B, ltB k y.1 = true) (hp : Pw (zipS B D)) : ∀ y ∈ zipS B D, ltB k y.1 = true := by
  cases B with
  | nil => intro y hy; rw [zipS_nil] at hy; cases hy
  | cons b B =>
    have hD : D ≠ [] := by rintro rfl; simp at h
    rw [zipS_cons b B hD] at hp ⊢
    have hp := List.pairwise_cons.1 hp
    have hb : ltB k b.1 = true := hB b (by simp)
    intro y hy
    rcases List.mem_cons.1 hy with rfl | hy
    · exact hb
    · exact ltB_trans hb (hp.1 y hy)
theorem with_math : ∀ {h : Nat} {t : Nd h} (x : Im), Bal h t → Pw (flat h t) →
    Bal h (withT h t x) ∧ flat h (withT h t x) = insF (flat h t) x ∧ (its h t).length ≤ (its h (withT h t x)).length ∧ (its h (withT h t x)).length ≤ (its h t).length + 1
  | 0, t, x, _, hp => ⟨trivial, insK_insF hp x, (insK_len _ _).1, (insK_len _ _).2⟩
  | h + 1, t, x, H, hp => by
    have h1 : t.2.length = t.1.length + 1 := H.1
    have hpx : Pw t.1 := hp.sublist (its_sub H)
    have hpl := posK_le t.1 x.1
    have hs := pos_split hpx x.1
    have hz := zip_part (h := h) (xs := t.1) (ts := t.2) (i := posK t.1 x.1) hpl h1
    have hbeh := fun e => pos_behind hpx (k := x.1) e
    have habv := fun e => pos_above hpx (k := x.1) e
    have hat := fun e => isK_at (xs := t.1) (k := x.1) e
    have hp0 : Pw (zipF t.1 (t.2.map (flat h))) := hp
    show Bal (h + 1) (if isK t.1 x.1 = true then _ else _) ∧ flat (h + 1) (if isK t.1 x.1 = true then _ else _) = insF (zipF t.1 (t.2.map (flat h))) x ∧ t.1.length ≤ (its (h + 1) (if isK t.1 x.1 = true then _ else _)).length ∧ (its (h + 1) (if isK t.1 x.1 = true then _ else _)).length ≤ t.1.length + 1
    generalize posK t.1 x.1 = i at *
    have hlA : (t.1.take i).length = ((t.2.take i).map (flat h)).length := by simp; omega
    by_cases hK : isK t.1 x.1 = true
    · rw [if_pos hK]
      obtain ⟨hlt, he⟩ := hat hK
      have hbeh := hbeh hK
      have hc := cut_at hlt
      have hl : (t.1.take i ++ [x] ++ t.1.drop (i + 1)).length = t.1.length := by simp; omega
      refine ⟨⟨?_, H.2⟩, ?_, ?_, ?_⟩
      · show t.2.length = (t.1.take i ++ [x] ++ t.1.drop (i + 1)).length + 1
        omega
      · have e3 : t.1.drop i = t.1[i]! :: t.1.drop (i + 1) := by rw [getElem!_pos t.1 i hlt]; exact List.drop_eq_getElem_cons hlt
        have hD : (t.2.drop (i + 1)).map (flat h) ≠ [] := by
          intro e
          have := congrArg List.length e
          simp at this
          omega
        have ez := hz
        rw [e3, zipS_cons _ _ hD] at ez
        show zipF (t.1.take i ++ [x] ++ t.1.drop (i + 1)) (t.2.map (flat h)) = insF (zipF t.1 (t.2.map (flat h))) x
        rw [ez] at hp0 ⊢
        have e5 := List.pairwise_append.1 hp0
        have hb : ∀ z ∈ zipP (t.1.take i) ((t.2.take i).map (flat h)) ++ flat h (t.2.getD i (dflt h)), ltB z.1 x.1 = true := by
          intro z hz
          have := e5.2.2 z hz _ List.mem_cons_self
          rwa [he] at this
        have ha : ∀ z ∈ zipF (t.1.drop (i + 1)) ((t.2.drop (i + 1)).map (flat h)), ltB x.1 z.1 = true := by
          intro z hz
          have := (List.pairwise_cons.1 e5.2.1).1 z hz
          rwa [he] at this
        have e6 := insF_here (y := t.1[i]!) (x := x) he hb ha
        rw [List.append_assoc (_ ++ _) [t.1[i]!], List.singleton_append] at e6
        rw [e6]
        have z3 := zip_at (x :: t.1.drop (i + 1)) (flat h (t.2.getD i (dflt h))) ((t.2.drop (i + 1)).map (flat h)) hlA
        rw [zipS_cons _ _ hD] at z3
        have e7 := part_at (l := t.2) (i := i) (by omega) (dflt h)
        have e8 : t.2.map (flat h) = (t.2.take i).map (flat h) ++ flat h (t.2.getD i (dflt h)) :: (t.2.drop (i + 1)).map (flat h) := by
          conv => lhs; rw [e7]
          rw [List.map_append, List.map_cons]
        rw [e8, List.append_assoc (t.1.take i) [x], List.singleton_append, z3]
        simp
      · show t.1.length ≤ (t.1.take i ++ [x] ++ t.1.drop (i + 1)).length
        omega
      · show (t.1.take i ++ [x] ++ t.1.drop (i + 1)).length ≤ t.1.length + 1
        omega
    · rw [if_neg hK]
      have hK' : isK t.1 x.1 = false := by simpa using hK
      have habv := habv hK'
      have hm := getD_mem (l := t.2) (i := i) (by omega) (dflt h)
      have hkid := H.2 _ hm
      obtain ⟨i1, i2, i3, i4⟩ := with_math x hkid.1 (hp.sublist (kid_sub H hm))
      generalize withT h (t.2.getD i (dflt h)) x = k2 at *
      rw [hz] at hp0
      have e5 := List.pairwise_append.1 hp0
      have e6 := List.pairwise_append.1 e5.1
      have hb := pre_below hlA hs.1 e6.1
      have ha := suf_above (B := t.1.drop i) (D := (t.2.drop (i + 1)).map (flat h)) (by simp; omega) habv e5.2.1
      have hF : insF (zipF t.1 (t.2.map (flat h))) x = zipP (t.1.take i) ((t.2.take i).map (flat h)) ++ flat h k2 ++ zipS (t.1.drop i) ((t.2.drop (i + 1)).map (flat h)) := by
        rw [hz, insF_mid hb ha, i2]
      rw [hF]
      have hold : ∀ k, k ∈ t.2.take i ∨ k ∈ t.2.drop (i + 1) → Bal h k ∧ 3 ≤ (its h k).length ∧ (its h k).length ≤ 7 := fun k hk => H.2 k (by
        rcases hk with hk | hk
        · exact List.mem_of_mem_take hk
        · exact List.mem_of_mem_drop hk)
      unfold withKidT
      by_cases h7 : 7 < (its h k2).length
      · rw [if_pos h7]
        have hmid : (its h k2).length / 2 < (its h k2).length := by omega
        have pf := piece_flat i1 hmid
        have l1 := piece_its h k2 0 ((its h k2).length / 2)
        have l2 := piece_its h k2 ((its h k2).length / 2 + 1) (its h k2).length
        have b1 := piece_bal i1 (a := 0) (b := (its h k2).length / 2) (by omega) (by omega)
        have b2 := piece_bal i1 (a := (its h k2).length / 2 + 1) (b := (its h k2).length) (by omega) (by omega)
        refine ⟨⟨?_, ?_⟩, ?_, ?_, ?_⟩
        · show (t.2.take i ++ [pieceT h k2 0 ((its h k2).length / 2), pieceT h k2 ((its h k2).length / 2 + 1) (its h k2).length] ++ t.2.drop (i + 1)).length = (t.1.take i ++ [(its h k2)[(its h k2).length / 2]!] ++ t.1.drop i).length + 1
          simp
          omega
        · intro k hk
          rcases List.mem_append.1 hk with hk | hk
          · rcases List.mem_append.1 hk with hk | hk
            · exact hold k (.inl hk)
            · simp only [List.mem_cons, List.not_mem_nil, or_false] at hk
              rcases hk with rfl | rfl
              · refine ⟨b1, ?_⟩
                rw [l1]
                simp
                omega
              · refine ⟨b2, ?_⟩
                rw [l2]
                simp
                omega
          · exact hold k (.inr hk)
        · show zipF (t.1.take i ++ [(its h k2)[(its h k2).length / 2]!] ++ t.1.drop i) ((t.2.take i ++ [pieceT h k2 0 ((its h k2).length / 2), pieceT h k2 ((its h k2).length / 2 + 1) (its h k2).length] ++ t.2.drop (i + 1)).map (flat h)) = _
          have z3 := zip_at ((its h k2)[(its h k2).length / 2]! :: t.1.drop i) (flat h (pieceT h k2 0 ((its h k2).length / 2))) (flat h (pieceT h k2 ((its h k2).length / 2 + 1) (its h k2).length) :: (t.2.drop (i + 1)).map (flat h)) hlA
          rw [zipS_cons _ _ (by simp)] at z3
          rw [List.map_append, List.map_append, List.append_assoc, List.append_assoc, List.singleton_append]
          refine z3.trans ?_
          rw [← pf]
          simp [zipF]
        · show t.1.length ≤ (t.1.take i ++ [(its h k2)[(its h k2).length / 2]!] ++ t.1.drop i).length
          simp
          omega
        · show (t.1.take i ++ [(its h k2)[(its h k2).length / 2]!] ++ t.1.drop i).length ≤ t.1.length + 1
          simp
          omega
      · rw [if_neg h7]
        refine ⟨⟨?_, ?_⟩, ?_, ?_, ?_⟩
        · show (t.2.take i ++ [k2] ++ t.2.drop (i + 1)).length = t.1.length + 1
          simp
          omega
        · intro k hk
          rcases List.mem_append.1 hk with hk | hk
          · rcases List.mem_append.1 hk with hk | hk
            · exact hold k (.inl hk)
            · rw [List.mem_singleton] at hk
              rw [hk]
              exact ⟨i1, by omega, by omega⟩
          · exact hold k (.inr hk)
        · show zipF t.1 ((t.2.take i ++ [k2] ++ t.2.drop (i + 1)).map (flat h)) = _
          have z3 := zip_at (t.1.drop i) (flat h k2) ((t.2.drop (i + 1)).map (flat h)) hlA
          rw [List.take_append_drop] at z3
          rw [← z3]
          simp
        · exact Nat.le_refl _
        · exact Nat.le_succ _
end Go.Proofs.Ytiplmlalhmldbaa
