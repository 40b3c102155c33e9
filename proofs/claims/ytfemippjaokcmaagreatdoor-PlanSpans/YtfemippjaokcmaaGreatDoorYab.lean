/- Keys are ordered as values are compared; which keys a sign and a value's span hold: plain facts. PlanSpans: plain: which keys are in the span of a sign and a value; the memory of its two values. -/
import Derived.Test.YtfemippjaokcmaaGreatDoorXai
import Derived.Test.YtfemippjaokcmaaGreatDoorXah
import Derived.Test.YtfemippjaokcmaaGreatDoorYaa
import Derived.Test.YtfemippjaokcmaaGreatDoorXbc
import Derived.Test.YtfemippjaokcmaaGreatDoorXag
namespace Go.Proofs.YtfemippjaokcmaaGreatDoor.V
open Go.RowKit
set_option maxRecDepth 100000 in
theorem feq_cases (F : Nat -> Int) : ∀ m, (fe m F = 0 /\ ∀ i, i < m -> F i = 0) ∨ ∃ i, i < m /\ F i ≠ 0 /\ (∀ j, j < i -> F j = 0) /\ fe m F = F i
  | 0 => Or.inl ⟨rfl, fun i hi => absurd hi (Nat.not_lt_zero i)⟩
  | m + 1 => by
    rcases feq_cases F m with ⟨h1, h2⟩ | ⟨i, h1, h2, h3, h4⟩
    . by_cases h0 : F m = 0
      . left
        refine ⟨by rw [fe, if_pos h1, h0], fun i hi => ?_⟩
        rcases Nat.lt_or_ge i m with k | k
        . exact h2 i k
        . obtain rfl : i = m := by omega
          exact h0
      . right
        exact ⟨m, Nat.lt_succ_self m, h0, h2, by rw [fe, if_pos h1]⟩
    . right
      exact ⟨i, by omega, h2, h3, by rw [fe, if_neg (by rw [h4]; exact h2), h4]⟩
def realT : Tr -> Prop
  | .no => False
  | .mk _ _ n _ m f _ _ => (-9223372036854775808 <= n /\ n < 9223372036854775808) /\ ∀ i, i < m -> realT (f i)
set_option maxRecDepth 100000 in
theorem Lies.realT {B : Nat} {w : World} (t : Tr) : ∀ {x : Ad}, Lies B w t x -> realT t := by
  induction t with
  | no => exact fun h => h.no.elim
  | mk k b n s m f q g ih =>
    intro x h
    have hl := h.lims
    obtain ⟨A, _, hr⟩ := h.part
    exact ⟨hl.2.1, fun i hi => ih i (hr i hi)⟩
def Same1 (x y : List UInt8) (c : Int) : Prop := lt8 x y = decide (c < 0) /\ (c = 0 ↔ x = y)
theorem cmpL_lt : ∀ a b : List UInt8, lt8 a b = decide (Lib.compareBytes a b < 0)
  | [], [] => by simp [lt8_irrefl, Lib.compareBytes]
  | [], c :: y => by rw [lt8_nil_l]; rfl
  | c :: x, [] => by rw [lt8_nil_r]; rfl
  | a :: x, b :: y => by
    rw [lt8_cons, Lib.compareBytes, cmpL_lt x y]
    by_cases h1 : a < b
    . rw [if_pos h1, decide_eq_true h1]; rfl
    . rw [if_neg h1, decide_eq_false h1]
      by_cases h2 : b < a
      . rw [if_pos h2]
        have : (a == b) = false := by
          apply Bool.eq_false_iff.2
          intro e
          have e := eq_of_beq e
          subst e
          exact h1 h2
        rw [this]; rfl
      . rw [if_neg h2]
        have : a = b := by
          apply UInt8.toNat_inj.1
          rw [UInt8.lt_iff_toNat_lt] at h1 h2
          omega
        subst this
        simp
theorem cmpL_eq : ∀ a b : List UInt8, Lib.compareBytes a b = 0 ↔ a = b
  | [], [] => by simp [Lib.compareBytes]
  | [], c :: y => by simp [Lib.compareBytes]
  | c :: x, [] => by simp [Lib.compareBytes]
  | a :: x, b :: y => by
    rw [Lib.compareBytes]
    by_cases h1 : a < b
    . rw [if_pos h1]
      refine ⟨fun h => (by cases h), fun h => ?_⟩
      injection h with h _
      subst h
      rw [UInt8.lt_iff_toNat_lt] at h1; omega
    . rw [if_neg h1]
      by_cases h2 : b < a
      . rw [if_pos h2]
        refine ⟨fun h => (by cases h), fun h => ?_⟩
        injection h with h _
        subst h
        exact absurd h2 h1
      . rw [if_neg h2, cmpL_eq x y]
        have : a = b := by
          apply UInt8.toNat_inj.1
          rw [UInt8.lt_iff_toNat_lt] at h1 h2
          omega
        subst this
        simp
theorem cmpI_lt (a b : Int) : decide (cmpI a b < 0) = decide (a < b) := by
  unfold cmpI
  rw [decide_eq_decide]
  repeat' split
  all_goals omega
theorem cmpI_eq (a b : Int) : cmpI a b = 0 ↔ a = b := by
  unfold cmpI
  repeat' split
  all_goals omega
theorem same_kinds {a b : Tr} {d d' : Int} (ha : soundT a d = 0) (hb : soundT b d' = 0) (hne : a.k ≠ b.k) : Same1 (keyT a) (keyT b) (cmpI a.k b.k) := by
  obtain ⟨a0, a6, r, hr⟩ := key_head ha
  obtain ⟨b0, b6, r', hr'⟩ := key_head hb
  obtain ⟨x, hx⟩ : ∃ x, a.k = x := ⟨_, rfl⟩
  obtain ⟨y, hy⟩ : ∃ y, b.k = y := ⟨_, rfl⟩
  rw [hx] at a0 a6 hr hne ⊢
  rw [hy] at b0 b6 hr' hne ⊢
  have hn : UInt8.ofNat x.toNat ≠ UInt8.ofNat y.toNat := fun e => hne (kind_byte a0 a6 b0 b6 e)
  refine ⟨?_, ?_⟩
  . rw [hr, hr', lt8_cons, cmpI_lt]
    have e1 : (UInt8.ofNat x.toNat == UInt8.ofNat y.toNat) = false := by simpa using hn
    rw [e1, Bool.false_and, Bool.or_false, decide_eq_decide, UInt8.lt_iff_toNat_lt]
    rw [UInt8.toNat_ofNat', UInt8.toNat_ofNat']
    omega
  . rw [cmpI_eq]
    refine ⟨fun h => absurd h hne, fun h => ?_⟩
    rw [hr, hr'] at h
    injection h with h _
    exact absurd h hn
theorem same_head {c : UInt8} {x y : List UInt8} {v : Int} (h : Same1 x y v) : Same1 (c :: x) (c :: y) v := by
  refine ⟨?_, ?_⟩
  . rw [lt8_cons, h.1]
    simp
  . rw [h.2]
    simp
theorem ext_list {s t : ByteArray} (h : s.data.toList = t.data.toList) : s = t := by
  apply ByteArray.ext
  exact Array.toList_inj.mp h
theorem same_text (s t : ByteArray) : Same1 (ktextL s ++ []) (ktextL t ++ []) (cmpB s t) := by
  unfold cmpB
  refine ⟨?_, ?_⟩
  . by_cases h : s = t
    . subst h
      rw [lt8_irrefl, (cmpL_eq _ _).2 rfl]; rfl
    . rw [ktext_lt h, cmpL_lt]
  . rw [cmpL_eq]
    refine ⟨fun h => by rw [ext_list h], fun h => ?_⟩
    have hc : Comp (ktextL s ++ []) (ktextL t ++ []) := by rw [h]; exact Comp.refl _
    rw [ktext_ff hc]
theorem same_num {n n' : Int} (h : -9223372036854775808 <= n /\ n < 9223372036854775808) (h' : -9223372036854775808 <= n' /\ n' < 9223372036854775808) : Same1 (be8 (turnN n)) (be8 (turnN n')) (cmpI n n') := by
  refine ⟨?_, ?_⟩
  . rw [be8_lt _ _ (turnN_lt h.2) (turnN_lt h'.2), cmpI_lt, decide_eq_decide]
    unfold turnN; omega
  . rw [cmpI_eq]
    refine ⟨fun e => by rw [e], fun e => ?_⟩
    have := be8_inj (turnN_lt h.2) (turnN_lt h'.2) e
    unfold turnN at this; omega
theorem same_part {k : Int} {f f' : Nat -> Tr} {g g' : Nat -> ByteArray} {i : Nat} {q q' : Nat} (hi : k = 6 -> i < min q q') (hno : k ≠ 6 -> q = 0) (hc : Same1 (keyT (f i)) (keyT (f' i)) (cmpT (f i) (f' i))) :
    (cmpF q q' g g' (fun i => cmpT (f i) (f' i)) i = 0 ↔ partF k f g i = partF k f' g' i) := by
  unfold cmpF partF
  by_cases h6 : k = 6
  . rw [if_pos h6, if_pos h6]
    by_cases hn : (g i).data.toList = (g' i).data.toList
    . rw [if_neg (fun h => h.2 hn), ext_list hn]
      show cmpT (f i) (f' i) = 0 ↔ _
      rw [hc.2]
      simp
    . rw [if_pos ⟨hi h6, hn⟩]
      unfold cmpB
      rw [cmpL_eq]
      refine ⟨fun h => absurd h hn, fun h => ?_⟩
      injection h with _ h
      have hC : Comp (ktextL (g i) ++ keyT (f i)) (ktextL (g' i) ++ keyT (f' i)) := by rw [h]; exact Comp.refl _
      rw [ktext_ff hC]
  . rw [if_neg h6, if_neg h6, if_neg (by rw [hno h6]; omega)]
    show cmpT (f i) (f' i) = 0 ↔ _
    rw [hc.2]
    simp
theorem formed_q {k : Int} {b : Bool} {n : Int} {s : ByteArray} {m q : Nat} (h : formedB k b n s m q = true) (h6 : k ≠ 6) : q = 0 := by
  unfold formedB at h
  simp only [Bool.and_eq_true, Bool.or_eq_true, decide_eq_true_eq] at h
  omega
theorem same_rows {k : Int} {m m' q q' : Nat} {f f' : Nat -> Tr} {g g' : Nat -> ByteArray} {d d' : Int} (h6 : k = 6 -> q = m /\ q' = m') (hno : k ≠ 6 -> q = 0)
    (hs : ∀ i, i < m -> soundT (f i) d = 0) (hs' : ∀ i, i < m' -> soundT (f' i) d' = 0) (ih : ∀ i, i < m -> i < m' -> Same1 (keyT (f i)) (keyT (f' i)) (cmpT (f i) (f' i))) :
    Same1 (rowT m (partF k f g)) (rowT m' (partF k f' g')) (if fe (min m m') (cmpF q q' g g' (fun i => cmpT (f i) (f' i))) = 0 then cmpI m m' else fe (min m m') (cmpF q q' g g' (fun i => cmpT (f i) (f' i)))) := by
  have hp : ∀ i, i < min m m' -> (cmpF q q' g g' (fun i => cmpT (f i) (f' i)) i = 0 ↔ partF k f g i = partF k f' g' i) := fun i hi => same_part (fun h => by have := h6 h; omega) hno (ih i (by omega) (by omega))
  have hF : ∀ (f : Nat -> Tr) (g : Nat -> ByteArray) i, ∃ r, partF k f g i = 1 :: r := fun f g i => ⟨_, rfl⟩
  rcases feq_cases (cmpF q q' g g' (fun i => cmpT (f i) (f' i))) (min m m') with ⟨h0, hz⟩ | ⟨i, hi, hne, hz, hv⟩
  . rw [if_pos h0]
    have hj : ∀ j, j < min m m' -> partF k f g j = partF k f' g' j := fun j hj => (hp j hj).1 (hz j hj)
    refine ⟨?_, ?_⟩
    . rw [row_end (hF f g) (hF f' g') hj, cmpI_lt, decide_eq_decide]
      omega
    . rw [cmpI_eq]
      refine ⟨fun h => ?_, fun h => ?_⟩
      . obtain rfl : m = m' := by omega
        unfold rowT
        rw [cat_congr (fun j hj' => hj j (by omega))]
      . have e1 := row_end (hF f g) (hF f' g') hj
        have e2 := row_end (m := m') (l := m) (hF f' g') (hF f g) (fun j hj' => (hj j (by omega)).symm)
        rw [h, lt8_irrefl] at e1
        rw [h, lt8_irrefl] at e2
        have e1 := of_decide_eq_false e1.symm
        have e2 := of_decide_eq_false e2.symm
        omega
  . rw [if_neg (by rw [hv]; exact hne), hv]
    have hj : ∀ j, j < i -> partF k f g j = partF k f' g' j := fun j hj => (hp j (by omega)).1 (hz j hj)
    have hi1 : i < m := by omega
    have hi2 : i < m' := by omega
    have hk := ih i hi1 hi2
    unfold cmpF at hne ⊢
    by_cases hc : i < min q q' /\ (g i).data.toList ≠ (g' i).data.toList
    . rw [if_pos hc] at hne ⊢
      have k6 : k = 6 := by
        apply Classical.byContradiction
        intro h
        have := hno h
        omega
      have hsn : g i ≠ g' i := fun e => hc.2 (by rw [e])
      have e1 := row_name (m := m) (l := m') (F := partF k f g) (G := partF k f' g') (s := g i) (t := g' i) (x := keyT (f i)) (y := keyT (f' i)) hj hi1 hi2 (by unfold partF; rw [if_pos k6]) (by unfold partF; rw [if_pos k6]) hsn
      refine ⟨?_, fun h => absurd h hne, fun h => ?_⟩
      . rw [e1]; unfold cmpB; exact cmpL_lt _ _
      . have e2 := row_name (m := m') (l := m) (F := partF k f' g') (G := partF k f g) (s := g' i) (t := g i) (x := keyT (f' i)) (y := keyT (f i)) (fun j hj' => (hj j hj').symm) hi2 hi1 (by unfold partF; rw [if_pos k6]) (by unfold partF; rw [if_pos k6]) (fun e => hsn e.symm)
        rw [h, lt8_irrefl] at e1
        rw [h, lt8_irrefl] at e2
        rcases lt8_total (g i).data.toList (g' i).data.toList with c | c | c
        . rw [c] at e1; cases e1
        . exact absurd c hc.2
        . rw [c] at e2; cases e2
    . rw [if_neg hc] at hne ⊢
      have hne' : cmpT (f i) (f' i) ≠ 0 := hne
      have hkn : keyT (f i) ≠ keyT (f' i) := fun e => hne' (hk.2.2 e)
      have hap := key_apart (hs i hi1) (hs' i hi2) hkn
      have hnm : k = 6 -> g i = g' i := fun h => by
        apply Classical.byContradiction
        intro e
        have := h6 h
        exact hc ⟨by omega, fun e2 => e (ext_list e2)⟩
      obtain ⟨p, hp1, hp2⟩ : ∃ p, partF k f g i = p ++ keyT (f i) /\ partF k f' g' i = p ++ keyT (f' i) := by
        unfold partF
        by_cases k6 : k = 6
        . rw [if_pos k6, if_pos k6, hnm k6]
          exact ⟨1 :: ktextL (g' i), rfl, rfl⟩
        . rw [if_neg k6, if_neg k6]
          exact ⟨[1], rfl, rfl⟩
      have e1 := row_part hj hi1 hi2 hp1 hp2 hap
      refine ⟨?_, fun h => absurd h hne, fun h => ?_⟩
      . rw [e1, hk.1]
      . have e2 := row_part (fun j hj' => (hj j hj').symm) hi2 hi1 hp2 hp1 (fun c => hap c.symm)
        rw [h, lt8_irrefl] at e1
        rw [h, lt8_irrefl] at e2
        rcases lt8_total (keyT (f i)) (keyT (f' i)) with c | c | c
        . rw [c] at e1; cases e1
        . exact absurd c hkn
        . rw [c] at e2; cases e2
theorem key_cmp (t : Tr) : ∀ u (d1 d2 : Int), realT t -> realT u -> soundT t d1 = 0 -> soundT u d2 = 0 -> Same1 (keyT t) (keyT u) (cmpT t u) := by
  induction t with
  | no => exact fun _ _ _ h => h.elim
  | mk k b n s m f q g ih =>
    intro u d1 d2 ht hu s1 s2
    cases u with
    | no => exact hu.elim
    | mk k' b' n' s' m' f' q' g' =>
    have P1 := soundP s1
    have P2 := soundP s2
    by_cases hk : k = k'
    . subst hk
      rw [cmpT]
      show Same1 _ _ (if k = k then _ else cmpI k k)
      rw [if_pos rfl]
      by_cases k1 : k = 1
      . subst k1
        rw [if_pos rfl, key_bool, key_bool]
        show Same1 _ _ (cmpB (boolB b) (boolB b'))
        refine same_head ?_
        cases b <;> cases b' <;> refine ⟨by decide, by decide⟩
      rw [if_neg k1]
      by_cases k2 : k = 2
      . subst k2
        rw [if_pos rfl, key_num, key_num]
        exact same_head (same_num ht.1 hu.1)
      rw [if_neg k2]
      by_cases k3 : k = 3 ∨ k = 4
      . rw [if_pos k3]
        rcases k3 with rfl | rfl
        . rw [key_str, key_str]
          exact same_head (same_text s s')
        . rw [key_byt, key_byt]
          exact same_head (same_text s s')
      rw [if_neg k3]
      by_cases k5 : k = 5 ∨ k = 6
      . rw [if_pos k5]
        have hrow : Same1 (rowT m (partF k f g)) (rowT m' (partF k f' g')) (if fe (min m m') (cmpF q q' g g' (fun i => cmpT (f i) (f' i))) = 0 then cmpI m m' else fe (min m m') (cmpF q q' g g' (fun i => cmpT (f i) (f' i)))) :=
          same_rows (fun h => ⟨(P1.nm h).1, (P2.nm h).1⟩) (formed_q P1.fm) P1.ch P2.ch (fun i hi hi' => ih i (f' i) _ _ (ht.2 i hi) (hu.2 i hi') (P1.ch i hi) (P2.ch i hi'))
        rcases k5 with rfl | rfl
        . rw [key_lst, key_lst]
          exact same_head hrow
        . rw [key_stc, key_stc]
          exact same_head hrow
      . rw [if_neg k5]
        have k0 : k = 0 := by have := P1.k0; have := P1.k6; omega
        rw [key_no k0, key_no k0]
        exact ⟨by decide, by decide⟩
    . have h := same_kinds s1 s2 (show Tr.k (.mk k b n s m f q g) ≠ Tr.k (.mk k' b' n' s' m' f' q' g') from hk)
      rw [cmpT]
      show Same1 _ _ (if k = k' then _ else cmpI k k')
      rw [if_neg hk]
      exact h
theorem next_in {A K : List UInt8} {nx : List UInt8} (hn : nextF K = some nx) (hap : ¬ Comp K A ∨ K = A) : lt8 A nx = (lt8 A K || decide (A = K)) := by
  have hp := span_prefix (p := K) (s := A) hn
  rcases hap with h | h
  . have h1 : ¬ K <+: A := fun e => h (Or.inl e)
    rw [decide_eq_false h1] at hp
    have h2 : ¬ A = K := fun e => h (by rw [e]; exact Comp.refl _)
    rw [decide_eq_false h2, Bool.or_false]
    cases hA : lt8 A K with
    | false => rw [hA] at hp; simpa using hp
    | true =>
      have hK : lt8 K nx = true := by
        have hk := span_prefix (p := K) (s := K) hn
        rw [decide_eq_true (List.prefix_refl K), lt8_irrefl] at hk
        simpa using hk
      exact lt8_trans hA hK
  . subst h
    rw [lt8_irrefl]
    have hk := span_prefix (p := K) (s := K) hn
    rw [decide_eq_true (List.prefix_refl K), lt8_irrefl] at hk
    simpa using hk
end Go.Proofs.YtfemippjaokcmaaGreatDoor.V
namespace Go.Proofs.YtfemippjaokcmaaGreatDoor
open Go.RowKit Go.Shelf
attribute [local go_sem] Oper.semAt_some fw0 fw1 fw2
def kyB (t : V.Tr) : ByteArray := ⟨(V.keyT t).toArray⟩
theorem ky_list (t : V.Tr) : (kyB t).toList = V.keyT t := by rw [Lib.toList_data]; rfl
theorem nx_list (K : ByteArray) : (V.nextB K).toList = V.nextL K.data.toList := by rw [Lib.toList_data]; rfl
structure SpF (T U : V.Tr) : Prop where
  lt : Op.bytesLess (kyB T).toList (kyB U).toList = decide (V.cmpT T U < 0)
  nx : Op.bytesLess (kyB T).toList (V.nextB (kyB U)).toList = decide (V.cmpT T U <= 0)
  e1 : (kyB U).toList.isEmpty = false
  e2 : (V.nextB (kyB U)).toList.isEmpty = false
theorem empty_eq {l : List UInt8} {b : Bool} (h : l.isEmpty = b) : (l == []) = b := by rw [<- h]; cases l <;> rfl
theorem sp_facts {T U : V.Tr} (hT : V.realT T) (hU : V.realT U) (s1 : V.soundT T 1 = 0) (s2 : V.soundT U 1 = 0) : SpF T U := by
  have hc := V.key_cmp T U 1 1 hT hU s1 s2
  obtain ⟨n, hn⟩ := V.next_key s2
  have hnl : V.nextL (kyB U).data.toList = n := by
    show (V.nextF (V.keyT U)).getD [] = n
    rw [hn]; rfl
  have hin := V.next_in (A := V.keyT T) (K := V.keyT U) hn (by
    by_cases h : V.keyT U = V.keyT T
    . exact .inr h
    . exact .inl (V.key_apart s2 s1 h))
  refine ⟨?_, ?_, ?_, ?_⟩
  . rw [ky_list, ky_list]; exact hc.1
  . rw [ky_list, nx_list, hnl]
    show V.lt8 (V.keyT T) n = _
    rw [hin, hc.1]
    by_cases h0 : V.cmpT T U = 0
    . rw [decide_eq_true (hc.2.1 h0), h0]; rfl
    . rw [decide_eq_false (fun e => h0 (hc.2.2 e)), Bool.or_false, decide_eq_decide]; omega
  . rw [ky_list]
    cases U <;> rw [V.keyT] <;> rfl
  . rw [nx_list, hnl]
    have := V.nextF_ne hn
    cases n with
    | nil => exact absurd rfl this
    | cons => rfl
theorem ky_len {t : V.Tr} (h : V.checkT t = 0) : (kyB t).size <= 9216 := by
  have := V.key_short h
  unfold kyB
  show (V.keyT t).toArray.size <= 9216
  rw [List.size_toArray]
  exact this
theorem ne_sign {a : ByteArray} {l : List UInt8} (h : a.data.toList ≠ l) : (a.toList == l) = false := by rw [Lib.toList_data]; simpa using h
def RfT (T : V.Tr) (v : Value) (W : World) : Prop := ∃ A, v = T.val A /\ V.Lies W.heap.size W T A
theorem RfT.later {T : V.Tr} : ∀ v W W', RfT T v W -> Below W.heap.size W W' -> RfT T v W' := fun _ _ _ ⟨A, h1, h2⟩ hb => ⟨A, h1, (V.Lies.later hb h2).up hb.size⟩
theorem ref_t {T : V.Tr} (hs : V.slim T) {W0 : World} {A : V.Ad} (hL : V.Lies W0.heap.size W0 T A) (W : World) (hb : Below W0.heap.size W0 W) : Calls Tryz.prog 17 #[.agg #[.int .i64 T.k, .bool T.b, .int .i64 T.n, .string T.s, .slice A.pa T.m A.pc, .slice A.na T.q A.nc]] W fun e w' => (∃ v, e = .returned v /\ RfT T v w') /\ Below W.heap.size W w' := by
  have hL2 : V.Lies W.heap.size W T A := (V.Lies.later hb hL).up hb.size
  refine (V.ref_all T hs W.heap.size W A hL2 (Nat.le_refl _)).mono ?_
  rintro e w' ⟨B, rfl, hl, hb2⟩
  exact ⟨⟨_, rfl, B, rfl, hl.up (fun k hk => by have := hb2.size; omega)⟩, hb2⟩
set_option maxRecDepth 100000 in
theorem eql33t (a b c d : ByteArray) (w : World) : (Op.equalIn 10000 33 (.agg #[.string a, .string b]) (.agg #[.string c, .string d])).run Tryz.prog w = .ok ((a.toList == c.toList) && (b.toList == d.toList)) w := by
  have u3 := Tryz.underlying9
  have a3 := Tryz.isAgg9
  have z3 := Tryz.sizeOf9
  rw [show (10000 : Nat) = 9999 + 1 from rfl, Op.equalIn]
  simp only [Sem.run_bind, run_underlying Tryz.underlying33, Result.andThen_ok]
  go_simp
  by_cases h1 : a.toList = c.toList <;> by_cases h2 : b.toList = d.toList <;> simp [h1, h2]
structure SpW (w W : World) (T U : V.Tr) (A C : V.Ad) (z7 z8 : Nat) : Prop where
  bel : Below w.heap.size w W
  r7 : W.heap[z7]? = some (.cells #[.int .i64 T.k, .bool T.b, .int .i64 T.n, .string T.s, .slice A.pa T.m A.pc, .slice A.na T.q A.nc] 25 (0, 0))
  r8 : W.heap[z8]? = some (.cells #[.int .i64 U.k, .bool U.b, .int .i64 U.n, .string U.s, .slice C.pa U.m C.pc, .slice C.na U.q C.nc] 25 (0, 0))
  lT : V.Lies W.heap.size W T A
  lU : V.Lies W.heap.size W U C
theorem SpW.later {w W W' : World} {T U : V.Tr} {A C : V.Ad} {z7 z8 : Nat} (h : SpW w W T U A C z7 z8) (hb : Below W.heap.size W W') : SpW w W' T U A C z7 z8 :=
  ⟨h.bel.trans (hb.mono h.bel.size), Below.row hb h.r7, Below.row hb h.r8, (V.Lies.later hb h.lT).up hb.size, (V.Lies.later hb h.lU).up hb.size⟩
structure SpT (T U : V.Tr) : Prop where
  cT : V.checkT T = 0
  cU : V.checkT U = 0
  mT : V.small T
  mU : V.small U
  sT : V.slim T
  sf : SpF T U
end Go.Proofs.YtfemippjaokcmaaGreatDoor
