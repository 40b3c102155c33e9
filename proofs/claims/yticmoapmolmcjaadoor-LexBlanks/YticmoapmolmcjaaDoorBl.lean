/- Blanks ahead and behind change nothing but places; texts and bytes between quotes are read again (plain). -/
import Derived.Test.YticmoapmolmcjaaDoorNu
namespace Go.Proofs.YticmoapmolmcjaaDoor
def Wd.up (k : Nat) (x : Wd) : Wd := ⟨x.k, x.s, x.a + k⟩
theorem wds_up : ∀ (f : Nat) (l : List UInt8) (a k : Nat), l.length ≤ f → wdsL l (a + k) = ((wdsL l a).1.map (Wd.up k), (wdsL l a).2.map (· + k))
  | _, [], a, k, _ => rfl
  | 0, c :: r, _, _, h => by simp at h
  | f + 1, c :: r, a, k, h => by
    simp only [List.length_cons] at h
    cases hb : blankB (c.toNat : Int) with
    | true =>
      rw [wdsL_blank r _ hb, wdsL_blank r _ hb, show a + k + 1 = a + 1 + k by omega]
      exact wds_up f r (a + 1) k (by omega)
    | false =>
      cases hf : fstA (c :: r) with
      | none => rw [wdsL_none _ hb hf, wdsL_none _ hb hf]; rfl
      | some x =>
        obtain ⟨q, t, n⟩ := x
        have hl := fstA_le hf
        rw [wdsL_some _ hb hf, wdsL_some _ hb hf, show a + k + n = a + n + k by omega, wds_up f ((c :: r).drop n) (a + n) k (by simp only [List.length_drop, List.length_cons]; omega)]
        rfl
theorem wds_pre : ∀ (pre l : List UInt8) (a : Nat), (∀ c ∈ pre, blankB (c.toNat : Int) = true) → wdsL (pre ++ l) a = wdsL l (a + pre.length)
  | [], l, a, _ => rfl
  | c :: r, l, a, h => by
    rw [List.cons_append, wdsL_blank _ _ (h c (by simp)), wds_pre r l (a + 1) (fun d hd => h d (List.mem_cons_of_mem _ hd)), List.length_cons, show a + 1 + r.length = a + (r.length + 1) by omega]
theorem blank_not (c : UInt8) (h : blankB (c.toNat : Int) = true) : inNameB (c.toNat : Int) = false ∧ digitB (c.toNat : Int) = false ∧ c ≠ 39 ∧ c ≠ 61 ∧ c ≠ 62 := by
  have hd : c.toNat = 32 ∨ c.toNat = 10 ∨ c.toNat = 9 := by
    unfold blankB at h
    simp at h
    omega
  have hne : ∀ n : Nat, n ≠ 32 → n ≠ 10 → n ≠ 9 → n < 256 → c ≠ UInt8.ofNat n := by
    intro n h1 h2 h3 h4 e
    rw [e, UInt8.toNat_ofNat'] at hd
    omega
  refine ⟨?_, ?_, hne 39 (by decide) (by decide) (by decide) (by decide), hne 61 (by decide) (by decide) (by decide) (by decide), hne 62 (by decide) (by decide) (by decide) (by decide)⟩
  · rcases hd with h | h | h <;> rw [h] <;> rfl
  · rcases hd with h | h | h <;> rw [h] <;> rfl
theorem pre_two (x y c : UInt8) (r post : List UInt8) (hp : ∀ d ∈ post, d ≠ y) : [x, y].isPrefixOf (c :: (r ++ post)) = [x, y].isPrefixOf (c :: r) := by
  cases r with
  | nil =>
    cases post with
    | nil => rfl
    | cons d q =>
      have := hp d (by simp)
      simp only [List.nil_append, List.isPrefixOf]
      rw [show (y == d) = false by simpa using fun e => this e.symm]
      simp
  | cons d q => rfl
theorem fst_post {c : UInt8} {r post : List UInt8} (hp : ∀ d ∈ post, blankB (d.toNat : Int) = true) : fstA (c :: r ++ post) = fstA (c :: r) := by
  have h1 : ∀ d ∈ post, inNameB (d.toNat : Int) = false := fun d hd => (blank_not d (hp d hd)).1
  have h2 : ∀ d ∈ post, digitB (d.toNat : Int) = false := fun d hd => (blank_not d (hp d hd)).2.1
  have h3 : ∀ d ∈ post, d ≠ 39 := fun d hd => (blank_not d (hp d hd)).2.2.1
  have h4 : ∀ d ∈ post, d ≠ 61 := fun d hd => (blank_not d (hp d hd)).2.2.2.1
  have h5 : ∀ d ∈ post, d ≠ 62 := fun d hd => (blank_not d (hp d hd)).2.2.2.2
  have hx := pre_two 120 39 c r post h3
  have ht : twoB (c :: (r ++ post)) = twoB (c :: r) := by
    unfold twoB
    rw [pre_two 60 62 c r post h5, pre_two 60 61 c r post h4, pre_two 62 61 c r post h4]
  have hs : signN (c :: (r ++ post)) = signN (c :: r) := by
    unfold signN
    rw [ht]
  have hr1 : runL inNameB (c :: (r ++ post)) = runL inNameB (c :: r) := by rw [← List.cons_append]; exact runL_app _ post h1 _
  have hr2 : runL digitB (c :: (r ++ post)) = runL digitB (c :: r) := by rw [← List.cons_append]; exact runL_app _ post h2 _
  have htk : ∀ n, n ≤ (c :: r).length → (c :: (r ++ post)).take n = (c :: r).take n := by
    intro n hn
    rw [← List.cons_append, List.take_append_of_le_length hn]
  have hq : qL ((r ++ post).drop 1) = qL (r.drop 1) := by
    cases r with
    | nil =>
      have : ∀ p : List UInt8, (∀ d ∈ p, d ≠ 39) → qL p = none := by
        intro p hp
        have := qL_app p hp []
        rw [List.nil_append] at this
        rw [this]
        rfl
      rw [List.nil_append, this _ (fun d hd => h3 d (List.mem_of_mem_drop hd))]
      rfl
    | cons d q => exact qL_app post h3 q
  rw [List.cons_append, fstA, fstA, hx, hr1, hr2, hs, hq, qL_app post h3 r, htk _ (runL_le _ _), htk _ (runL_le _ _), htk _ (signN_le _)]
theorem wds_post (post : List UInt8) (hp : ∀ d ∈ post, blankB (d.toNat : Int) = true) : ∀ (f : Nat) (l : List UInt8) (a : Nat), l.length ≤ f → wdsL (l ++ post) a = wdsL l a
  | _, [], a, _ => by
    have := wds_pre post [] a hp
    rw [List.append_nil] at this
    rw [List.nil_append, this]
    rfl
  | 0, c :: r, _, h => by simp at h
  | f + 1, c :: r, a, h => by
    simp only [List.length_cons] at h
    cases hb : blankB (c.toNat : Int) with
    | true =>
      rw [List.cons_append, wdsL_blank _ _ hb, wdsL_blank _ _ hb]
      exact wds_post post hp f r (a + 1) (by omega)
    | false =>
      have hfp := fst_post (c := c) (r := r) hp
      rw [List.cons_append] at hfp ⊢
      cases hf : fstA (c :: r) with
      | none => rw [wdsL_none _ hb hf, wdsL_none _ hb (hfp.trans hf)]
      | some x =>
        obtain ⟨q, t, n⟩ := x
        have hl := fstA_le hf
        rw [wdsL_some _ hb hf, wdsL_some _ hb (hfp.trans hf), ← List.cons_append, List.drop_append_of_le_length hl.2.1, wds_post post hp f ((c :: r).drop n) (a + n) (by simp only [List.length_drop, List.length_cons]; omega)]
/- What the law asks of the words of a text with blanks ahead and behind. -/
theorem words_blanks {pre l post : List UInt8} (h1 : ∀ c ∈ pre, blankB (c.toNat : Int) = true) (h2 : ∀ c ∈ post, blankB (c.toNat : Int) = true) (hl : (pre ++ l ++ post).length ≤ 2000) :
    (wordsR (pre ++ l ++ post)).2.2 = (wordsR l).2.2 ∧ (wordsR (pre ++ l ++ post)).1.length = (wordsR l).1.length ∧
      ∀ i x, (wordsR l).1[i]? = some x → ∃ y, (wordsR (pre ++ l ++ post)).1[i]? = some y ∧ y.k = x.k ∧ y.s = x.s ∧ (i + 1 < (wordsR l).1.length → y.a = x.a + pre.length) := by
  have hw : wdsL (pre ++ l ++ post) 0 = ((wdsL l 0).1.map (Wd.up pre.length), (wdsL l 0).2.map (· + pre.length)) := by
    rw [wds_post post h2 _ (pre ++ l) 0 (Nat.le_refl _), wds_pre pre l 0 h1, wds_up _ l 0 pre.length (Nat.le_refl _)]
  have hl2 : l.length ≤ 2000 := by simp at hl; omega
  unfold wordsR
  rw [if_neg (by omega), if_neg (by omega), hw]
  cases h : (wdsL l 0).2 with
  | some p => exact ⟨rfl, rfl, fun i x hx => by cases hx⟩
  | none =>
    refine ⟨rfl, by simp, fun i x hx => ?_⟩
    have hx' : ((wdsL l 0).1 ++ [⟨0, [], l.length⟩])[i]? = some x := hx
    rcases Nat.lt_or_ge i (wdsL l 0).1.length with hi | hi
    · rw [List.getElem?_append_left hi] at hx'
      refine ⟨x.up pre.length, ?_, rfl, rfl, fun _ => rfl⟩
      show ((wdsL l 0).1.map (Wd.up pre.length) ++ [⟨0, [], _⟩])[i]? = _
      rw [List.getElem?_append_left (by simpa using hi), List.getElem?_map, hx']
      rfl
    · rw [List.getElem?_append_right hi] at hx'
      have h0 : i - (wdsL l 0).1.length = 0 := by
        rcases Nat.eq_zero_or_pos (i - (wdsL l 0).1.length) with h | h
        · exact h
        · rw [List.getElem?_eq_none (by simp; omega)] at hx'; cases hx'
      rw [h0] at hx'
      injection hx' with hx'
      subst hx'
      refine ⟨⟨0, [], (pre ++ l ++ post).length⟩, ?_, rfl, rfl, fun hlt => ?_⟩
      · show ((wdsL l 0).1.map (Wd.up pre.length) ++ [⟨0, [], _⟩])[i]? = _
        rw [List.getElem?_append_right (by simpa using hi), List.length_map, h0]
        rfl
      · exfalso
        have hlt' : i + 1 < ((wdsL l 0).1 ++ [(⟨0, [], l.length⟩ : Wd)]).length := hlt
        simp at hlt'
        omega
theorem wds_place : ∀ (f : Nat) (l : List UInt8) (a : Nat), l.length ≤ f → ∀ x ∈ (wdsL l a).1, x.a ≤ a + l.length
  | _, [], a, _, x, h => by cases h
  | 0, c :: r, _, h, _, _ => by simp at h
  | f + 1, c :: r, a, h, x, hx => by
    simp only [List.length_cons] at h ⊢
    cases hb : blankB (c.toNat : Int) with
    | true =>
      rw [wdsL_blank r _ hb] at hx
      have := wds_place f r (a + 1) (by omega) x hx
      omega
    | false =>
      cases hf : fstA (c :: r) with
      | none => rw [wdsL_none _ hb hf] at hx; cases hx
      | some y =>
        obtain ⟨q, t, n⟩ := y
        have hl := fstA_le hf
        rw [wdsL_some _ hb hf, List.mem_cons] at hx
        rcases hx with rfl | hx
        · show a ≤ _
          omega
        · have := wds_place f ((c :: r).drop n) (a + n) (by simp only [List.length_drop, List.length_cons]; omega) x hx
          simp only [List.length_drop, List.length_cons] at this hl
          omega
theorem words_place {l : List UInt8} {x : Wd} (h : x ∈ (wordsR l).1) : x.a ≤ l.length := by
  unfold wordsR at h
  split at h
  · cases h
  · split at h
    · have h' : x ∈ (wdsL l 0).1 ++ [⟨0, [], l.length⟩] := h
      rw [List.mem_append] at h'
      rcases h' with h' | h'
      · have := wds_place _ l 0 (Nat.le_refl _) x h'
        omega
      · rw [List.mem_singleton] at h'
        rw [h']
        exact Nat.le_refl _
    · cases h
/- Quotes. -/
def esc : List UInt8 → List UInt8
  | [] => []
  | c :: r => if c = 39 then 39 :: 39 :: esc r else c :: esc r
def hexD (n : Nat) : UInt8 := [48, 49, 50, 51, 52, 53, 54, 55, 56, 57, 97, 98, 99, 100, 101, 102].getD n 0
def hexE : List UInt8 → List UInt8
  | [] => []
  | c :: r => hexD (c.toNat / 16) :: hexD (c.toNat % 16) :: hexE r
theorem esc_len : ∀ l : List UInt8, (esc l).length ≤ 2 * l.length
  | [] => Nat.le_refl _
  | c :: r => by
    have := esc_len r
    unfold esc
    split <;> simp <;> omega
theorem hexE_len : ∀ l : List UInt8, (hexE l).length = 2 * l.length
  | [] => rfl
  | c :: r => by
    have := hexE_len r
    unfold hexE
    simp; omega
theorem esc_snoc : ∀ (l : List UInt8) (c : UInt8), esc (l ++ [c]) = esc l ++ (if c = 39 then [39, 39] else [c])
  | [], c => by
    show (if c = 39 then 39 :: 39 :: esc [] else c :: esc []) = _
    split <;> rfl
  | d :: l, c => by
    rw [List.cons_append, esc, esc, esc_snoc l c]
    split <;> rfl
theorem hexE_snoc : ∀ (l : List UInt8) (c : UInt8), hexE (l ++ [c]) = hexE l ++ [hexD (c.toNat / 16), hexD (c.toNat % 16)]
  | [], c => rfl
  | d :: l, c => by rw [List.cons_append, hexE, hexE, hexE_snoc l c]; rfl
theorem q_esc : ∀ l : List UInt8, qL (esc l ++ [39]) = some (l, (esc l).length + 1)
  | [] => rfl
  | c :: r => by
    rw [esc]
    split
    · next h =>
      subst h
      rw [List.cons_append, List.cons_append, qL_two, q_esc r]
      simp
    · next h =>
      rw [List.cons_append, qL_other h, q_esc r]
      simp
theorem hexD_ok (n : Nat) (h : n < 16) : hexV (hexD n) = n ∧ hexD n ≠ 39 := by
  have : ∀ n : Fin 16, hexV (hexD n.val) = n.val ∧ hexD n.val ≠ 39 := by decide +kernel
  exact this ⟨n, h⟩
theorem hexE_no39 : ∀ (l : List UInt8), ∀ c ∈ hexE l, c ≠ 39
  | [], c, h => by cases h
  | d :: r, c, h => by
    have hd := UInt8.toNat_lt d
    rw [hexE, List.mem_cons, List.mem_cons] at h
    rcases h with rfl | rfl | h
    · exact (hexD_ok _ (by omega)).2
    · exact (hexD_ok _ (Nat.mod_lt _ (by decide))).2
    · exact hexE_no39 r c h
theorem q_plain : ∀ l : List UInt8, (∀ c ∈ l, c ≠ 39) → qL (l ++ [39]) = some (l, l.length + 1)
  | [], _ => rfl
  | c :: r, h => by
    rw [List.cons_append, qL_other (h c (by simp)), q_plain r (fun d hd => h d (List.mem_cons_of_mem _ hd))]
    rfl
theorem hex_hexE : ∀ l : List UInt8, hexL (hexE l) = some l
  | [] => rfl
  | c :: r => by
    have hd := UInt8.toNat_lt c
    have h1 := hexD_ok (c.toNat / 16) (by omega)
    have h2 := hexD_ok (c.toNat % 16) (Nat.mod_lt _ (by decide))
    rw [hexE, hexL, h1.1, h2.1, if_pos (by omega), hex_hexE r, show c.toNat / 16 * 16 + c.toNat % 16 = c.toNat by omega]
    simp
theorem fst_quote (l : List UInt8) : fstA (39 :: (esc l ++ [39])) = some (4, l, (39 :: (esc l ++ [39])).length) := by
  rw [fstA, if_neg (by simp [List.isPrefixOf]), if_neg (by decide), if_neg (by decide), if_pos rfl, q_esc]
  simp
theorem fst_hex (l : List UInt8) : fstA (120 :: 39 :: (hexE l ++ [39])) = some (5, l, (120 :: 39 :: (hexE l ++ [39])).length) := by
  rw [fstA, if_pos (by simp [List.isPrefixOf]), List.drop_succ_cons, List.drop_zero, q_plain _ (hexE_no39 l)]
  simp [hex_hexE]
theorem words_quote {l : List UInt8} (h : l.length ≤ 400) : wordsR (39 :: (esc l ++ [39])) = ([⟨4, l, 0⟩, ⟨0, [], (39 :: (esc l ++ [39])).length⟩], 0, 0) := by
  have hl := esc_len l
  have := wds_one (l := 39 :: (esc l ++ [39])) (c := 39) rfl (by decide) (fst_quote l) rfl
  rw [if_neg (by simp; omega)] at this
  exact this
theorem words_hex {l : List UInt8} (h : l.length ≤ 400) : wordsR (120 :: 39 :: (hexE l ++ [39])) = ([⟨5, l, 0⟩, ⟨0, [], (120 :: 39 :: (hexE l ++ [39])).length⟩], 0, 0) := by
  have hl := hexE_len l
  have := wds_one (l := 120 :: 39 :: (hexE l ++ [39])) (c := 120) rfl (by decide) (fst_hex l) rfl
  rw [if_neg (by simp; omega)] at this
  exact this
end Go.Proofs.YticmoapmolmcjaaDoor
