/- Plain facts about frames one behind the other: cut anywhere, those are found that are whole; with one byte turned, fewer are good than there are frames. Bodies have at most 65536 bytes. -/
import Derived.Test.YthhjaploldhdaaaDoorFrm
namespace Go.Proofs.YthhjaploldhdaaaDoor
open Go
/- The check tells texts apart that part at one byte. -/
theorem tab_top (i j : Nat) (hi : i < 16) (hj : j < 16) (h : tabF i >>> 28 = tabF j >>> 28) : i = j := by
  have : ∀ a b : Fin 16, tabF a.val >>> 28 = tabF b.val >>> 28 → a = b := by decide +kernel
  have := this ⟨i, hi⟩ ⟨j, hj⟩ h
  simpa using this
theorem shr4_28 (c : BitVec 32) : (c >>> 4) >>> 28 = 0#32 := by
  apply BitVec.eq_of_toNat_eq
  have := c.isLt
  simp [BitVec.toNat_ushiftRight, Nat.shiftRight_eq_div_pow]
  omega
theorem nib_inj {c d : BitVec 32} (h : nibB c = nibB d) : c = d := by
  unfold nibB at h
  have hi : ixB c < 16 := by unfold ixB; omega
  have hj : ixB d < 16 := by unfold ixB; omega
  have h28 := congrArg (fun z : BitVec 32 => z >>> 28) h
  simp only [BitVec.ushiftRight_xor_distrib, shr4_28, BitVec.zero_xor] at h28
  have e := tab_top _ _ hi hj h28
  rw [e] at h
  have e4 : c >>> 4 = d >>> 4 := by
    have h2 := congrArg (fun z : BitVec 32 => z ^^^ tabF (ixB d)) h
    simpa [BitVec.xor_assoc] using h2
  have t4 := congrArg BitVec.toNat e4
  simp only [BitVec.toNat_ushiftRight, Nat.shiftRight_eq_div_pow] at t4
  unfold ixB at e
  apply BitVec.eq_of_toNat_eq
  omega
theorem xor_cancel {a b x : BitVec 32} (h : a ^^^ x = b ^^^ x) : a = b := by
  have h2 := congrArg (fun z : BitVec 32 => z ^^^ x) h
  simpa [BitVec.xor_assoc] using h2
theorem step_inj {c d : BitVec 32} {b : UInt8} (h : stepB c b = stepB d b) : c = d := xor_cancel (nib_inj (nib_inj h))
theorem step_byte {c : BitVec 32} {x y : UInt8} (h : stepB c x = stepB c y) : x = y := by
  have h1 : c ^^^ wB x = c ^^^ wB y := nib_inj (nib_inj h)
  rw [BitVec.xor_comm c, BitVec.xor_comm c] at h1
  have h2 := congrArg BitVec.toNat (xor_cancel h1)
  unfold wB at h2
  rw [BitVec.toNat_ofNat, BitVec.toNat_ofNat] at h2
  have hx := x.toNat_lt
  have hy := y.toNat_lt
  apply UInt8.toNat_inj.1
  omega
theorem fold_inj : ∀ (t : List UInt8) (c d : BitVec 32), t.foldl stepB c = t.foldl stepB d → c = d
  | [], _, _, h => h
  | b :: t, c, d, h => step_inj (fold_inj t (stepB c b) (stepB d b) h)
theorem check_part (u t : List UInt8) (x y : UInt8) (h : checkB (u ++ x :: t) = checkB (u ++ y :: t)) : x = y := by
  unfold checkB at h
  have h1 : crcB (u ++ x :: t) = crcB (u ++ y :: t) := by
    have h2 := congrArg (fun z : BitVec 32 => ~~~ z) h
    simpa using h2
  unfold crcB at h1
  rw [List.foldl_append, List.foldl_append, List.foldl_cons, List.foldl_cons] at h1
  exact step_byte (fold_inj t _ _ h1)
theorem getD_left (a b : List UInt8) (d : UInt8) (k : Nat) (h : k < a.length) : (a ++ b).getD k d = a.getD k d := by
  simp [List.getD_eq_getElem?_getD, List.getElem?_append_left h]
theorem getD_right (a b : List UInt8) (d : UInt8) (k : Nat) (h : a.length ≤ k) : (a ++ b).getD k d = b.getD (k - a.length) d := by
  simp [List.getD_eq_getElem?_getD, List.getElem?_append_right h]
theorem set_part (l : List UInt8) (k : Nat) (y : UInt8) (h : k < l.length) : ∃ u x t, l = u ++ x :: t ∧ u.length = k ∧ l.set k y = u ++ y :: t ∧ x = l.getD k 0 := by
  refine ⟨l.take k, l.getD k 0, l.drop (k + 1), ?_, by simp; omega, ?_, rfl⟩
  · have e : l.getD k 0 = l[k] := by simp [List.getD_eq_getElem?_getD, h]
    rw [e, List.getElem_cons_drop, List.take_append_drop]
  · rw [List.set_eq_take_append_cons_drop, if_pos h]
theorem check_set (l : List UInt8) (k : Nat) (y : UInt8) (h : k < l.length) (hy : y ≠ l.getD k 0) : checkB (l.set k y) ≠ checkB l := by
  obtain ⟨u, x, t, e1, _, e2, hx⟩ := set_part l k y h
  intro e
  rw [e2] at e
  conv at e => rhs; rw [e1]
  have := check_part u t y x e
  rw [this, hx] at hy
  exact hy rfl
theorem set_ne (l : List UInt8) (k : Nat) (y : UInt8) (h : k < l.length) (hy : y ≠ l.getD k 0) : l.set k y ≠ l := by
  intro e
  have := congrArg (fun z => z.getD k 0) e
  simp [List.getD_eq_getElem?_getD, h] at this
  rw [this] at hy
  simp [List.getD_eq_getElem?_getD, h] at hy
/- Frames one behind the other. -/
def cat (bs : List (List UInt8)) : List UInt8 := bs.flatMap frameL
theorem cat_cons (b : List UInt8) (bs : List (List UInt8)) : cat (b :: bs) = frameL b ++ cat bs := by simp [cat]
theorem cat_snoc (bs : List (List UInt8)) (b : List UInt8) : cat (bs ++ [b]) = cat bs ++ frameL b := by simp [cat]
def goods (a : Nat) : List (List UInt8) → List Fr
  | [] => []
  | b :: bs => ⟨a + 12, b, true⟩ :: goods (a + 12 + b.length) bs
theorem goods_len : ∀ (bs : List (List UInt8)) (a : Nat), (goods a bs).length = bs.length
  | [], _ => rfl
  | _ :: bs, _ => by simp [goods, goods_len bs]
def wholeL : List (List UInt8) → Nat → Nat
  | [], _ => 0
  | b :: bs, m => if 12 + b.length ≤ m then 1 + wholeL bs (m - (12 + b.length)) else 0
theorem scan_cut : ∀ (bs : List (List UInt8)) (p : List UInt8) (m : Nat), (∀ b ∈ bs, b.length ≤ 65536) → scanL (p ++ (cat bs).take m) p.length = goods p.length (bs.take (wholeL bs m))
  | [], p, m, _ => by
    simp [cat, wholeL, goods]
    exact scan_end _ _ (by omega)
  | b :: bs, p, m, hb => by
    have hb0 : b.length ≤ 65536 := hb b (by simp)
    rw [cat_cons]
    unfold wholeL
    by_cases hm : 12 + b.length ≤ m
    · rw [if_pos hm]
      have e : (frameL b ++ cat bs).take m = frameL b ++ (cat bs).take (m - (12 + b.length)) := by
        rw [List.take_append, frameL_len, List.take_of_length_le (by rw [frameL_len]; exact hm)]
      rw [e, scan_frame p b _ hb0]
      have ih := scan_cut bs (p ++ frameL b) (m - (12 + b.length)) (fun x hx => hb x (by simp [hx]))
      rw [List.append_assoc, List.length_append, frameL_len] at ih
      have e2 : p.length + 12 + b.length = p.length + (12 + b.length) := by omega
      rw [e2, ih, Nat.add_comm 1, List.take_succ_cons]
      simp only [goods]
      rw [e2]
    · rw [if_neg hm]
      simp only [List.take_zero, goods]
      refine scanL_no _ _ ?_
      rintro ⟨h1, _, h3⟩
      have hlen : ((frameL b ++ cat bs).take m).length = m := by
        rw [List.length_take, List.length_append, frameL_len]; omega
      rw [List.length_append, hlen] at h1 h3
      have e4 : longF (p ++ (frameL b ++ cat bs).take m) p.length = b.length := by
        have h4 := long_frame p b (cat bs) hb0
        unfold longF sub at h4 ⊢
        rw [List.drop_left] at h4 ⊢
        rw [List.take_take]
        have : min (p.length + 4 - p.length) m = p.length + 4 - p.length := by omega
        rw [this]
        exact h4
      omega
theorem scan_cat (bs : List (List UInt8)) (p : List UInt8) (hb : ∀ b ∈ bs, b.length ≤ 65536) : scanL (p ++ cat bs) p.length = goods p.length bs := by
  have h := scan_cut bs p (cat bs).length hb
  rw [List.take_length] at h
  rw [h]
  congr 1
  have : ∀ bs : List (List UInt8), wholeL bs (cat bs).length = bs.length := by
    intro bs
    induction bs with
    | nil => rfl
    | cons b bs ih =>
      unfold wholeL
      rw [cat_cons, List.length_append, frameL_len, if_pos (by omega)]
      have : 12 + b.length + (cat bs).length - (12 + b.length) = (cat bs).length := by omega
      rw [this, ih]; simp; omega
  rw [this, List.take_length]
def E (bs : List (List UInt8)) (j : Nat) : Nat := (cat (bs.take j)).length
theorem E_zero (bs : List (List UInt8)) : E bs 0 = 0 := rfl
theorem E_cons (b : List UInt8) (bs : List (List UInt8)) (j : Nat) : E (b :: bs) (j + 1) = 12 + b.length + E bs j := by
  unfold E; rw [List.take_succ_cons, cat_cons, List.length_append, frameL_len]
theorem E_full (bs : List (List UInt8)) : E bs bs.length = (cat bs).length := by unfold E; rw [List.take_length]
theorem whole_eq : ∀ (bs : List (List UInt8)) (n j : Nat), (∀ i, i < j → E bs (i + 1) ≤ n) → j ≤ bs.length → (j = bs.length ∨ n < E bs (j + 1)) → wholeL bs n = j
  | [], n, j, _, h2, _ => by simp at h2; simp [wholeL, h2]
  | b :: bs, n, 0, _, _, h3 => by
    rcases h3 with h | h
    · simp at h
    · rw [E_cons, E_zero] at h
      unfold wholeL
      rw [if_neg (by omega)]
  | b :: bs, n, j + 1, h1, h2, h3 => by
    have h0 := h1 0 (by omega)
    rw [E_cons, E_zero] at h0
    unfold wholeL
    rw [if_pos (by omega), whole_eq bs (n - (12 + b.length)) j ?_ (by simpa using h2) ?_, Nat.add_comm]
    · intro i hi
      have h := h1 (i + 1) (by omega)
      rw [E_cons] at h
      omega
    · rcases h3 with h | h
      · left; simpa using h
      · right
        rw [E_cons] at h
        omega
theorem goods_last : ∀ (bs : List (List UInt8)) (a : Nat), bs ≠ [] → lastOf (goods a bs) = a + (cat bs).length
  | [], _, h => absurd rfl h
  | [b], a, _ => by simp [goods, lastOf, Fr.stop, cat, frameL_len]; omega
  | b :: c :: bs, a, _ => by
    have ih := goods_last (c :: bs) (a + 12 + b.length) (by simp)
    rw [cat_cons, List.length_append, frameL_len]
    have e : lastOf (goods a (b :: c :: bs)) = lastOf (goods (a + 12 + b.length) (c :: bs)) := by
      simp [goods, lastOf]
    rw [e, ih]; omega
theorem last_take (bs : List (List UInt8)) (j : Nat) (h : j ≤ bs.length) : lastOf (goods 0 (bs.take j)) = E bs j := by
  cases j with
  | zero => rfl
  | succ j =>
    rw [goods_last _ _ (by intro e; have h1 := congrArg List.length e; rw [List.length_take] at h1; simp only [List.length_nil] at h1; omega), Nat.zero_add]
    rfl
theorem cat_le (m : Nat) : ∀ bs : List (List UInt8), (∀ b ∈ bs, b.length ≤ m) → (cat bs).length ≤ (12 + m) * bs.length
  | [], _ => by simp [cat]
  | b :: bs, h => by
    have h1 := cat_le m bs (fun x hx => h x (by simp [hx]))
    have h2 := h b (by simp)
    rw [cat_cons, List.length_append, frameL_len, List.length_cons, Nat.mul_succ]
    omega
theorem take_snoc {α : Type} (l : List α) (d : α) (k : Nat) (h : k < l.length) : l.take (k + 1) = l.take k ++ [l.getD k d] := by
  rw [List.take_succ_eq_append_getElem h]; simp [List.getD_eq_getElem?_getD, h]
theorem E_le (bs : List (List UInt8)) (j : Nat) : E bs j ≤ (cat bs).length := by
  unfold E
  conv => rhs; rw [← List.take_append_drop j bs]
  unfold cat
  rw [List.flatMap_append, List.length_append]
  omega
def goodN (l : List Fr) : Nat := (l.filter (·.good)).length
theorem goodN_le (l : List Fr) : goodN l ≤ l.length := List.length_filter_le _ _
theorem goodN_cons (f : Fr) (l : List Fr) : goodN (f :: l) = (if f.good then 1 else 0) + goodN l := by
  unfold goodN
  cases h : f.good <;> simp [h]
  omega
theorem no_frame (p h c r : List UInt8) (hh : h.length = 4) (hc : c.length = 4) (hn : numL c ≠ (checkB h).toNat) : scanL (p ++ (h ++ (c ++ r))) p.length = [] := by
  refine scanL_no _ _ ?_
  rintro ⟨_, ⟨_, h2⟩, _⟩
  have e1 : sub (p ++ (h ++ (c ++ r))) p.length (p.length + 4) = h := sub_mid p h _ _ _ rfl (by rw [hh])
  have e2 : sub (p ++ (h ++ (c ++ r))) (p.length + 4) (p.length + 8) = c := by
    rw [← List.append_assoc p]
    exact sub_mid (p ++ h) c _ _ _ (by simp [hh]) (by simp [hh, hc])
  rw [e1, e2] at h2
  exact hn h2
theorem odd_frame (p b d r : List UInt8) (hb : b.length ≤ 65536) (hd : d.length = 4) (s : List UInt8) (hs : s = p ++ (four (lenB b) ++ (four (checkB (four (lenB b))) ++ (d ++ (b ++ r))))) (hn : (checkB b).toNat ≠ numL d) :
    scanL s p.length = ⟨p.length + 12, b, false⟩ :: scanL s (p.length + 12 + b.length) := by
  have e1 : sub s p.length (p.length + 4) = four (lenB b) := by rw [hs]; exact sub_mid p _ _ _ _ rfl (by rw [four_len])
  have e2 : sub s (p.length + 4) (p.length + 8) = four (checkB (four (lenB b))) := by
    rw [hs, ← List.append_assoc p]
    exact sub_mid (p ++ four (lenB b)) _ _ _ _ (by simp [four_len]) (by simp [four_len])
  have e3 : sub s (p.length + 8) (p.length + 12) = d := by
    rw [hs, ← List.append_assoc p, ← List.append_assoc (p ++ _)]
    exact sub_mid (p ++ four (lenB b) ++ four (checkB (four (lenB b)))) _ _ _ _ (by simp [four_len]) (by simp [four_len, hd])
  have e4 : sub s (p.length + 12) (p.length + 12 + b.length) = b := by
    rw [hs, ← List.append_assoc p, ← List.append_assoc (p ++ _), ← List.append_assoc (p ++ _ ++ _)]
    exact sub_mid (p ++ four (lenB b) ++ four (checkB (four (lenB b))) ++ d) _ _ _ _ (by simp [four_len, hd]) (by simp [four_len, hd])
  have hl : longF s p.length = b.length := by unfold longF; rw [e1, num_four, lenB_nat b hb]
  have hlen : s.length = p.length + 12 + b.length + r.length := by rw [hs]; simp [four_len, hd]; omega
  have ht : there s p.length := ⟨by omega, ⟨by rw [hl]; exact hb, by rw [e1, e2, num_four]⟩, by rw [hl]; omega⟩
  have hf : frF s p.length = ⟨p.length + 12, b, false⟩ := by
    have eb : bodyF s p.length = b := by unfold bodyF; rw [hl, e4]
    unfold frF
    rw [eb, e3, decide_eq_false hn]
  rw [scanL_yes _ _ ht, hf]
  rfl
theorem flip_good : ∀ (bs : List (List UInt8)) (p : List UInt8) (k : Nat) (y : UInt8), (∀ b ∈ bs, b.length ≤ 65536) → k < (cat bs).length → y ≠ (cat bs).getD k 0 → goodN (scanL (p ++ (cat bs).set k y) p.length) < bs.length
  | [], _, k, _, _, hk, _ => by simp [cat] at hk
  | b :: bs, p, k, y, hb, hk, hy => by
    have hb0 : b.length ≤ 65536 := hb b (by simp)
    have hbs : ∀ x ∈ bs, x.length ≤ 65536 := fun x hx => hb x (by simp [hx])
    rw [cat_cons] at hk hy ⊢
    rw [List.length_append, frameL_len] at hk
    have rest : ∀ P : List UInt8, goodN (scanL (P ++ cat bs) P.length) ≤ bs.length := fun P => by
      rw [scan_cat bs P hbs]
      exact Nat.le_trans (goodN_le _) (by rw [goods_len]; exact Nat.le_refl _)
    have hsp : frameL b ++ cat bs = four (lenB b) ++ (four (checkB (four (lenB b))) ++ (four (checkB b) ++ (b ++ cat bs))) := by
      have h := frame_split [] b (cat bs)
      simpa using h
    by_cases h1 : k < 4
    · rw [hsp] at hy ⊢
      rw [List.set_append_left _ _ (by rw [four_len]; exact h1)]
      rw [no_frame p _ _ _ (by simp [four_len]) (four_len _) ?_]
      · simp [goodN]
      · rw [num_four]
        intro e
        refine check_set (four (lenB b)) k y (by rw [four_len]; exact h1) ?_ (BitVec.eq_of_toNat_eq e.symm)
        rw [getD_left _ _ _ _ (by rw [four_len]; exact h1)] at hy
        exact hy
    by_cases h2 : k < 8
    · rw [hsp] at hy ⊢
      rw [List.set_append_right _ _ (by rw [four_len]; omega), four_len, List.set_append_left _ _ (by rw [four_len]; omega)]
      rw [no_frame p _ _ _ (four_len _) (by simp [four_len]) ?_]
      · simp [goodN]
      · intro e
        rw [getD_right _ _ _ _ (by rw [four_len]; omega), four_len, getD_left _ _ _ _ (by rw [four_len]; omega)] at hy
        refine set_ne (four (checkB (four (lenB b)))) (k - 4) y (by rw [four_len]; omega) hy ?_
        exact ((four_eq_iff _ _ (by simp [four_len])).2 e.symm).symm
    by_cases h3 : k < 12
    · have e8 : k - 4 - 4 = k - 8 := by omega
      rw [hsp] at hy ⊢
      rw [List.set_append_right _ _ (by rw [four_len]; omega), four_len, List.set_append_right _ _ (by rw [four_len]; omega), four_len, e8, List.set_append_left _ _ (by rw [four_len]; omega)]
      rw [getD_right _ _ _ _ (by rw [four_len]; omega), four_len, getD_right _ _ _ _ (by rw [four_len]; omega), four_len, e8, getD_left _ _ _ _ (by rw [four_len]; omega)] at hy
      rw [odd_frame p b ((four (checkB b)).set (k - 8) y) (cat bs) hb0 (by simp [four_len]) _ rfl ?_, goodN_cons]
      · have hr := rest (p ++ (four (lenB b) ++ (four (checkB (four (lenB b))) ++ ((four (checkB b)).set (k - 8) y ++ b))))
        have el : (p ++ (four (lenB b) ++ (four (checkB (four (lenB b))) ++ ((four (checkB b)).set (k - 8) y ++ b)))).length = p.length + 12 + b.length := by simp [four_len]; omega
        rw [el] at hr
        simp only [List.append_assoc] at hr ⊢
        simp
        omega
      · intro e
        exact set_ne (four (checkB b)) (k - 8) y (by rw [four_len]; omega) hy ((four_eq_iff _ _ (by simp [four_len])).2 e).symm
    by_cases h4 : k < 12 + b.length
    · have e12 : k - 4 - 4 - 4 = k - 12 := by omega
      rw [hsp] at hy ⊢
      rw [List.set_append_right _ _ (by rw [four_len]; omega), four_len, List.set_append_right _ _ (by rw [four_len]; omega), four_len, List.set_append_right _ _ (by rw [four_len]; omega), four_len, e12, List.set_append_left _ _ (by omega)]
      rw [getD_right _ _ _ _ (by rw [four_len]; omega), four_len, getD_right _ _ _ _ (by rw [four_len]; omega), four_len, getD_right _ _ _ _ (by rw [four_len]; omega), four_len, e12, getD_left _ _ _ _ (by omega)] at hy
      have elen : lenB b = lenB (b.set (k - 12) y) := by unfold lenB; rw [List.length_set]
      rw [odd_frame p (b.set (k - 12) y) (four (checkB b)) (cat bs) (by rw [List.length_set]; exact hb0) (four_len _) _ (by rw [← elen]) ?_, goodN_cons]
      · have hr := rest (p ++ (four (lenB b) ++ (four (checkB (four (lenB b))) ++ (four (checkB b) ++ b.set (k - 12) y))))
        have el : (p ++ (four (lenB b) ++ (four (checkB (four (lenB b))) ++ (four (checkB b) ++ b.set (k - 12) y)))).length = p.length + 12 + b.length := by simp [four_len]; omega
        rw [el] at hr
        simp only [List.append_assoc, List.length_set] at hr ⊢
        simp
        omega
      · rw [num_four]
        intro e
        exact check_set b (k - 12) y (by omega) hy (BitVec.eq_of_toNat_eq e)
    · rw [List.set_append_right _ _ (by rw [frameL_len]; omega), frameL_len, scan_frame p b _ hb0, goodN_cons]
      rw [getD_right _ _ _ _ (by rw [frameL_len]; omega), frameL_len] at hy
      have ih := flip_good bs (p ++ frameL b) (k - (12 + b.length)) y hbs (by omega) hy
      rw [List.append_assoc, List.length_append, frameL_len] at ih
      have e2 : p.length + 12 + b.length = p.length + (12 + b.length) := by omega
      rw [e2]
      simp
      omega
end Go.Proofs.YthhjaploldhdaaaDoor
