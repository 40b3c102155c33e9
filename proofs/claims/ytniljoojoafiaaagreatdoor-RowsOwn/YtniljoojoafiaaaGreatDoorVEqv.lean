/- A value's bytes are taken again as the same value, and what is taken of bytes has just these bytes: plain facts. -/
import Derived.Test.YtniljoojoafiaaaGreatDoorXay
namespace Go.Proofs.YtniljoojoafiaaaGreatDoor.V
open Go.RowKit
def eqvT : Tr → Tr → Prop
  | .no, _ => False
  | .mk k b n s m f q g, u => u ≠ .no ∧ u.k = k ∧ u.b = b ∧ u.n = n ∧ u.s = s ∧ u.m = m ∧ u.q = q ∧ (∀ i, i < m → eqvT (f i) (u.f i)) ∧ (∀ i, i < q → u.g i = g i)
set_option maxRecDepth 100000 in
theorem fe_congr {F G : Nat → Int} : ∀ {m : Nat}, (∀ i, i < m → F i = G i) → fe m F = fe m G
  | 0, _ => rfl
  | m + 1, h => by
    rw [fe, fe, fe_congr (m := m) (fun i hi => h i (by omega)), h m (by omega)]
set_option maxRecDepth 100000 in
theorem cat_congr {F G : Nat → List UInt8} : ∀ {m : Nat}, (∀ i, i < m → F i = G i) → cat m F = cat m G
  | 0, _ => rfl
  | m + 1, h => by
    rw [cat, cat, cat_congr (m := m) (fun i hi => h i (by omega)), h m (by omega)]
set_option maxRecDepth 100000 in
theorem okN_congr {g g' : Nat → ByteArray} {i : Nat} (h : ∀ j, j ≤ i → g' j = g j) : okN g' i = okN g i := by
  unfold okN
  rw [h i (Nat.le_refl _), h (i - 1) (Nat.sub_le _ _)]
set_option maxRecDepth 100000 in
theorem namedB_congr {q m : Nat} {g g' : Nat → ByteArray} (h : ∀ i, i < q → g' i = g i) : namedB q m g' = namedB q m g := by
  unfold namedB
  apply decide_eq_decide.mpr
  constructor
  · rintro ⟨h1, h2⟩
    exact ⟨h1, fun i hi => by rw [← okN_congr (fun j hj => h j (by omega))]; exact h2 i hi⟩
  · rintro ⟨h1, h2⟩
    exact ⟨h1, fun i hi => by rw [okN_congr (fun j hj => h j (by omega))]; exact h2 i hi⟩
set_option maxRecDepth 100000 in
theorem eqv_sound (t : Tr) : ∀ (u : Tr) (d : Int), eqvT t u → soundT u d = soundT t d := by
  induction t with
  | no => exact fun _ _ h => h.elim
  | mk k b n s m f q g ih =>
    intro u d h
    cases u with
    | no => exact absurd rfl h.1
    | mk k' b' n' s' m' f' q' g' =>
      obtain ⟨_, hk, hb, hn, hs, hm, hq, hf, hg⟩ := h
      obtain rfl : k' = k := hk
      obtain rfl : b' = b := hb
      obtain rfl : n' = n := hn
      obtain rfl : s' = s := hs
      obtain rfl : m' = m := hm
      obtain rfl : q' = q := hq
      rw [soundT, soundT, namedB_congr (g := g) (g' := g') hg, fe_congr (F := fun i => soundT (f' i) (d + 1)) (G := fun i => soundT (f i) (d + 1)) (fun i hi => ih i (f' i) (d + 1) (hf i hi))]
set_option maxRecDepth 100000 in
theorem eqv_small (t : Tr) : ∀ (u : Tr), eqvT t u → small t → small u := by
  induction t with
  | no => exact fun _ h => h.elim
  | mk k b n s m f q g ih =>
    intro u h hsm
    cases u with
    | no => exact absurd rfl h.1
    | mk k' b' n' s' m' f' q' g' =>
      obtain ⟨_, hk, hb, hn, hs, hm, hq, hf, hg⟩ := h
      obtain rfl : s' = s := hs
      obtain rfl : m' = m := hm
      exact ⟨hsm.1, fun i hi => ih i (f' i) (hf i hi) (hsm.2 i hi)⟩
set_option maxRecDepth 100000 in
theorem eqv_bytes (t : Tr) : ∀ (u : Tr) (d : Int), eqvT t u → soundT t d = 0 → bytesT u = bytesT t := by
  induction t with
  | no => exact fun _ _ h => h.elim
  | mk k b n s m f q g ih =>
    intro u d h h0
    have hP := soundP h0
    cases u with
    | no => exact absurd rfl h.1
    | mk k' b' n' s' m' f' q' g' =>
      obtain ⟨_, hk, hb, hn, hs, hm, hq, hf, hg⟩ := h
      obtain rfl : k' = k := hk
      obtain rfl : b' = b := hb
      obtain rfl : n' = n := hn
      obtain rfl : s' = s := hs
      obtain rfl : m' = m := hm
      obtain rfl : q' = q := hq
      have hc : cat m' (fun i => (if k' = 6 then textL (g' i) else []) ++ bytesT (f' i)) = cat m' (fun i => (if k' = 6 then textL (g i) else []) ++ bytesT (f i)) := by
        refine cat_congr fun i hi => ?_
        rw [ih i (f' i) (d + 1) (hf i hi) (hP.ch i hi)]
        by_cases h6 : k' = 6
        · have hgi : g' i = g i := hg i (by rw [(hP.nm h6).1]; exact hi)
          rw [if_pos h6, if_pos h6, hgi]
        · rw [if_neg h6, if_neg h6]
      rw [bytesT, bytesT, hc]
set_option maxRecDepth 100000 in
theorem eqv_check {t u : Tr} (h : eqvT t u) : checkT u = checkT t := by
  unfold checkT
  rw [eqv_sound t u 1 h]
  by_cases h0 : soundT t 1 = 0
  · rw [eqv_bytes t u 1 h h0]
  · rw [if_neg h0, if_neg h0]
set_option maxRecDepth 100000 in
theorem eqv_enc {t u : Tr} (h : eqvT t u) : encT u = encT t := by
  unfold encT
  rw [eqv_check h]
  by_cases h0 : checkT t = 0
  · have h1 : soundT t 1 = 0 := by
      unfold checkT at h0
      by_cases h2 : soundT t 1 = 0
      · exact h2
      · rw [if_neg h2] at h0; exact h0
    rw [eqv_bytes t u 1 h h1]
  · rw [if_neg h0, if_neg h0]
set_option maxRecDepth 100000 in
theorem eqv_cmp (t : Tr) : ∀ (u : Tr), eqvT t u → cmpT t u = 0 := by
  induction t with
  | no => exact fun _ h => h.elim
  | mk k b n s m f q g ih =>
    intro u h
    obtain ⟨_, hk, hb, hn, hs, hm, hq, hf, hg⟩ := h
    rw [cmpT, hk, hb, hn, hs, hm, hq, if_pos rfl, cmpB_self, cmpB_self, cmpI_self, cmpI_self]
    have h : fe (min m m) (cmpF q q g u.g (fun i => cmpT (f i) (u.f i))) = 0 := fe_none _ _ (fun i hi => by
      unfold cmpF
      rw [if_neg]
      · exact ih i (u.f i) (hf i (by omega))
      · rintro ⟨h1, h2⟩
        exact h2 (by rw [hg i (by omega)]))
    rw [h, if_pos rfl]
    simp
def Hs (s : ByteArray) (o : Nat) (l : List UInt8) : Prop := ∃ r, s.data.toList.drop o = l ++ r
set_option maxRecDepth 100000 in
theorem Hs.fst {s : ByteArray} {o : Nat} {a b : List UInt8} (h : Hs s o (a ++ b)) : Hs s o a := by
  obtain ⟨r, hr⟩ := h
  exact ⟨b ++ r, by rw [hr, List.append_assoc]⟩
set_option maxRecDepth 100000 in
theorem Hs.snd {s : ByteArray} {o : Nat} {a b : List UInt8} (h : Hs s o (a ++ b)) : Hs s (o + a.length) b := by
  obtain ⟨r, hr⟩ := h
  refine ⟨r, ?_⟩
  rw [← List.drop_drop, hr, List.append_assoc, List.drop_left]
set_option maxRecDepth 100000 in
theorem Hs.le {s : ByteArray} {o : Nat} {l : List UInt8} (h : Hs s o l) (ho : o ≤ s.size) : o + l.length ≤ s.size := by
  obtain ⟨r, hr⟩ := h
  have := congrArg List.length hr
  rw [List.length_drop, List.length_append, ← Lib.size_eq] at this
  omega
set_option maxRecDepth 100000 in
theorem Hs.byte {s : ByteArray} {o : Nat} {x : UInt8} {l : List UInt8} (h : Hs s o (x :: l)) : byteAt s o = x.toNat := by
  obtain ⟨r, hr⟩ := h
  unfold byteAt
  have : s.data.toList[o]? = some x := by
    have h2 := congrArg (fun l => l[0]?) hr
    simpa using h2
  rw [List.getD_eq_getElem?_getD, this]
  rfl
set_option maxRecDepth 100000 in
theorem ext_toList (s : ByteArray) (a n : Nat) : (s.extract a (a + n)).data.toList = (s.data.toList.drop a).take n := by
  rw [ByteArray.data_extract, Array.toList_extract]
  simp [List.extract]
set_option maxRecDepth 100000 in
theorem uintA_put {s : ByteArray} {o n : Nat} (hn : n < 18446744073709551616) (h : Hs s o (put n)) : uintA s o 0 = ⟨n, o + (put n).length, 0⟩ := by
  obtain ⟨r, hr⟩ := h
  unfold uintA tkA
  rw [if_pos rfl, hr, take_put n hn r]
set_option maxRecDepth 100000 in
theorem countA_put {s : ByteArray} {o n : Nat} (hn : n ≤ 32) (h : Hs s o (put n)) : countA s o 0 32 = ⟨n, o + (put n).length, 0⟩ := by
  obtain ⟨r, hr⟩ := h
  unfold countA tkA cnt
  rw [if_pos rfl, hr, take_put n (by omega) r, if_neg]
  rintro ⟨_, h1⟩
  simp only at h1
  omega
set_option maxRecDepth 100000 in
theorem textA_put {s t : ByteArray} {o : Nat} {m : Int} (hm : (t.size : Int) ≤ m) (hm2 : m ≤ 1048576) (ho : o ≤ s.size) (h : Hs s o (textL t)) : textA s o 0 m = ⟨t, o + (textL t).length, 0⟩ := by
  have hle := h.le ho
  have hc : cnt (tkA s o) (min m 1048576) = ⟨t.size, (put t.size).length, 0⟩ := by
    obtain ⟨r, hr⟩ := h
    unfold tkA cnt
    unfold textL at hr
    rw [hr, List.append_assoc, take_put t.size (by omega), if_neg]
    rintro ⟨_, h1⟩
    simp only at h1
    omega
  have hl : (textL t).length = (put t.size).length + t.size := by unfold textL; rw [List.length_append, ← Lib.size_eq]
  have he : s.extract (o + (put t.size).length) (o + (put t.size).length + t.size) = t := by
    apply ByteArray.ext
    apply Array.toList_inj.mp
    rw [ext_toList]
    obtain ⟨r, hr⟩ := h
    rw [← List.drop_drop, hr]
    unfold textL
    rw [List.append_assoc, List.drop_left, List.take_left' (by rw [← Lib.size_eq])]
  unfold textA
  rw [if_pos rfl, hc]
  simp only
  rw [if_pos trivial, if_neg (by omega), he, hl]
  congr 1
  omega
set_option maxRecDepth 100000 in
theorem boolA_put {s : ByteArray} {o : Nat} {b : Bool} (ho : o < s.size) (h : Hs s o [if b then 1 else 0]) : boolA s o 0 = ⟨b, o + 1, 0⟩ := by
  have hb := h.byte
  unfold boolA
  rw [if_pos rfl, if_pos ho, hb]
  cases b
  · rfl
  · rfl
set_option maxRecDepth 100000 in
theorem getD_left {α : Type} {l : List α} {x d : α} {j : Nat} (h : j < l.length) : (l ++ [x]).getD j d = l.getD j d := by
  rw [List.getD_eq_getElem?_getD, List.getD_eq_getElem?_getD, List.getElem?_append_left h]
set_option maxRecDepth 100000 in
theorem getD_last {α : Type} {l : List α} {x d : α} : (l ++ [x]).getD l.length d = x := by
  rw [List.getD_eq_getElem?_getD, List.getElem?_append_right (Nat.le_refl _)]
  simp
set_option maxRecDepth 100000 in
theorem run_put {s : ByteArray} {six : Bool} {T : Nat → Int → Tak} {f : Nat → Tr} {g : Nat → ByteArray} {m o : Nat} (ho : o ≤ s.size) (hg : six = true → ∀ i, i < m → (g i).size ≤ 16)
    (hT : ∀ i, i < m → ∀ o, o ≤ s.size → Hs s o (bytesT (f i)) → ∃ u, T o 0 = ⟨u, o + (bytesT (f i)).length, 0⟩ ∧ eqvT (f i) u) :
    ∀ i, i ≤ m → Hs s o (cat m (fun i => (if six then textL (g i) else []) ++ bytesT (f i))) →
    ∃ ns ts, runA s six T ⟨[], [], o, 0⟩ i = ⟨ns, ts, o + (cat i (fun i => (if six then textL (g i) else []) ++ bytesT (f i))).length, 0⟩ ∧ ts.length = i ∧ (∀ j, j < i → eqvT (f j) (ts.getD j .no)) ∧ ns.length = (if six then i else 0) ∧ (∀ j, j < ns.length → ns.getD j ⟨#[]⟩ = g j)
  | 0, _, _ => ⟨[], [], rfl, rfl, fun j hj => absurd hj (Nat.not_lt_zero j), by split <;> rfl, fun j hj => absurd hj (Nat.not_lt_zero j)⟩
  | i + 1, hi, h => by
    obtain ⟨ns, ts, hr, hl, he, hnl, hng⟩ := run_put ho hg hT i (by omega) h
    obtain ⟨F, hF⟩ : ∃ F : Nat → List UInt8, (fun i => (if six then textL (g i) else []) ++ bytesT (f i)) = F := ⟨_, rfl⟩
    rw [hF] at hr h ⊢
    have hFi : F i = (if six then textL (g i) else []) ++ bytesT (f i) := by rw [← hF]
    obtain ⟨y, hy⟩ := cat_more F (i := i + 1) (m := m) hi
    have hcs : cat (i + 1) F = cat i F ++ F i := rfl
    rw [hy] at h
    have h1 := h.fst
    rw [hcs] at h1
    have h2 := h1.snd
    have hle := h1.fst.le ho
    rw [runA, hr]
    unfold stepA
    cases six with
    | false =>
      have hFi2 : F i = bytesT (f i) := by rw [hFi]; simp
      rw [hFi2] at h2
      obtain ⟨u, hu, heq⟩ := hT i (by omega) _ hle h2
      refine ⟨ns, ts ++ [u], ?_, by simp [hl], fun j hj => ?_, hnl, hng⟩
      · unfold nameA
        simp only [Bool.false_eq_true, if_false]
        rw [hu, hcs, List.length_append, hFi2, Nat.add_assoc]
      · rcases Nat.lt_or_ge j i with k | k
        · rw [getD_left (by omega)]; exact he j k
        · obtain rfl : j = ts.length := by omega
          rw [getD_last, hl]
          exact heq
    | true =>
      have hFi2 : F i = textL (g i) ++ bytesT (f i) := by rw [hFi]; simp
      rw [hFi2] at h2
      have hgs := hg rfl i (by omega)
      have htx := textA_put (m := 16) (by omega) (by decide) hle h2.fst
      obtain ⟨u, hu, heq⟩ := hT i (by omega) _ (h2.fst.le hle) h2.snd
      simp only [if_true] at hnl
      refine ⟨ns ++ [g i], ts ++ [u], ?_, by simp [hl], fun j hj => ?_, by simp [hnl], fun j hj => ?_⟩
      · unfold nameA
        simp only [if_true]
        rw [htx]
        simp only
        rw [hu, hcs, List.length_append, hFi2, List.length_append]
        simp only [Nat.add_assoc]
      · rcases Nat.lt_or_ge j i with k | k
        · rw [getD_left (by omega)]; exact he j k
        · obtain rfl : j = ts.length := by omega
          rw [getD_last, hl]
          exact heq
      · rcases Nat.lt_or_ge j ns.length with k | k
        · rw [getD_left k]; exact hng j k
        · obtain rfl : j = ns.length := by simp at hj; omega
          rw [getD_last, hnl]
set_option maxRecDepth 100000 in
theorem take_bytes {B : Nat} {w : World} {s : ByteArray} (hs : s.size ≤ 1024) (t : Tr) : ∀ (D : Nat) (d : Int) (o : Nat) (x : Ad), Lies B w t x → d = 9 - (D : Int) → soundT t d = 0 → o ≤ s.size → Hs s o (bytesT t) →
    ∃ u, takeA s D o 0 = ⟨u, o + (bytesT t).length, 0⟩ ∧ eqvT t u := by
  induction t with
  | no => exact fun _ _ _ _ hL => hL.no.elim
  | mk k b n tx m f q g ih =>
    intro D d o x hL hd h0 ho h
    obtain ⟨d8, fm, k0, k6, m32, nm, ch⟩ := soundP h0
    obtain ⟨A, _, hr⟩ := hL.part
    have hn : -9223372036854775808 ≤ n ∧ n < 9223372036854775808 := hL.lims.2.1
    cases D with
    | zero => omega
    | succ D =>
      have hlen := h.le ho
      obtain ⟨R, hR⟩ : ∃ R, bytesT (.mk k b n tx m f q g) = UInt8.ofNat k.toNat :: R := ⟨_, by rw [bytesT]⟩
      have hR2 := hR
      rw [bytesT] at hR2
      replace hR2 := (List.cons.inj hR2).2
      rw [hR] at h hlen ⊢
      have hby := h.byte
      rw [toNat_ofNat_lt (by omega)] at hby
      have h2 : Hs s (o + 1) R := h.snd (a := [UInt8.ofNat k.toNat])
      have ho1 : o < s.size := by simp at hlen; omega
      have ho2 : o + 1 ≤ s.size := by omega
      rw [takeA, if_pos rfl, if_pos ho1, hby]
      unfold formedB at fm
      simp only [Bool.and_eq_true, Bool.or_eq_true, decide_eq_true_eq, Bool.not_eq_true'] at fm
      have hemp : tx.toList.isEmpty = true → tx = ⟨#[]⟩ := by
        intro he
        rw [empty_size] at he
        have := of_decide_eq_true he
        apply ByteArray.ext
        apply Array.toList_inj.mp
        rw [Lib.size_eq] at this
        exact List.length_eq_zero_iff.mp this
      have hk7 : k = 0 ∨ k = 1 ∨ k = 2 ∨ k = 3 ∨ k = 4 ∨ k = 5 ∨ k = 6 := by omega
      rcases hk7 with rfl | rfl | rfl | rfl | rfl | rfl | rfl
      · simp at fm
        obtain ⟨⟨⟨⟨rfl, rfl⟩, h3⟩, rfl⟩, rfl⟩ := fm
        obtain rfl : tx = ⟨#[]⟩ := hemp (by simpa using h3)
        simp at hR2
        subst hR2
        exact ⟨leafT 0 false 0 ⟨#[]⟩, rfl, ⟨by simp [leafT], rfl, rfl, rfl, rfl, rfl, rfl, fun i hi => absurd hi (Nat.not_lt_zero i), fun i hi => absurd hi (Nat.not_lt_zero i)⟩⟩
      · simp at fm
        obtain ⟨⟨⟨rfl, h3⟩, rfl⟩, rfl⟩ := fm
        obtain rfl : tx = ⟨#[]⟩ := hemp (by simpa using h3)
        simp at hR2
        subst hR2
        have hB := boolA_put (b := b) (by have := h2.le ho2; simp at this; omega) h2
        refine ⟨leafT 1 b 0 ⟨#[]⟩, ?_, ⟨by simp [leafT], rfl, rfl, rfl, rfl, rfl, rfl, fun i hi => absurd hi (Nat.not_lt_zero i), fun i hi => absurd hi (Nat.not_lt_zero i)⟩⟩
        show nodeA s 1 (o + 1) (takeA s D) = _
        unfold nodeA
        rw [if_neg (by decide), if_pos rfl, hB]
        rfl
      · simp at fm
        obtain ⟨⟨⟨rfl, h3⟩, rfl⟩, rfl⟩ := fm
        obtain rfl : tx = ⟨#[]⟩ := hemp (by simpa using h3)
        simp at hR2
        subst hR2
        have hB := uintA_put (zig_lt hn.1 hn.2) h2
        refine ⟨leafT 2 false n ⟨#[]⟩, ?_, ⟨by simp [leafT], rfl, rfl, rfl, rfl, rfl, rfl, fun i hi => absurd hi (Nat.not_lt_zero i), fun i hi => absurd hi (Nat.not_lt_zero i)⟩⟩
        show nodeA s 2 (o + 1) (takeA s D) = _
        unfold nodeA
        rw [if_neg (by decide), if_neg (by decide), if_pos rfl, hB]
        simp only [zag_zig, List.length_cons]
        congr 1
        omega
      · simp at fm
        obtain ⟨⟨⟨rfl, rfl⟩, rfl⟩, rfl⟩ := fm
        simp at hR2
        subst hR2
        have hle2 := h2.le ho2
        have hl : (textL tx).length = (put tx.size).length + tx.size := by unfold textL; rw [List.length_append, ← Lib.size_eq]
        have hB := textA_put (m := 1024) (by omega) (by decide) ho2 h2
        refine ⟨leafT 3 false 0 tx, ?_, ⟨by simp [leafT], rfl, rfl, rfl, rfl, rfl, rfl, fun i hi => absurd hi (Nat.not_lt_zero i), fun i hi => absurd hi (Nat.not_lt_zero i)⟩⟩
        show nodeA s 3 (o + 1) (takeA s D) = _
        unfold nodeA
        rw [if_neg (by decide), if_neg (by decide), if_neg (by decide), if_pos (Or.inl rfl), hB]
        simp only [List.length_cons]
        congr 1
        omega
      · simp at fm
        obtain ⟨⟨⟨rfl, rfl⟩, rfl⟩, rfl⟩ := fm
        simp at hR2
        subst hR2
        have hle2 := h2.le ho2
        have hl : (textL tx).length = (put tx.size).length + tx.size := by unfold textL; rw [List.length_append, ← Lib.size_eq]
        have hB := textA_put (m := 1024) (by omega) (by decide) ho2 h2
        refine ⟨leafT 4 false 0 tx, ?_, ⟨by simp [leafT], rfl, rfl, rfl, rfl, rfl, rfl, fun i hi => absurd hi (Nat.not_lt_zero i), fun i hi => absurd hi (Nat.not_lt_zero i)⟩⟩
        show nodeA s 4 (o + 1) (takeA s D) = _
        unfold nodeA
        rw [if_neg (by decide), if_neg (by decide), if_neg (by decide), if_pos (Or.inr rfl), hB]
        simp only [List.length_cons]
        congr 1
        omega
      · simp at fm
        obtain ⟨⟨⟨rfl, rfl⟩, h3⟩, rfl⟩ := fm
        obtain rfl : tx = ⟨#[]⟩ := hemp (by simpa using h3)
        have hR3 : R = put m ++ cat m (fun i => (if false = true then textL (g i) else []) ++ bytesT (f i)) := by rw [← hR2]; simp
        clear hR2
        subst hR3
        have hcn := countA_put m32 h2.fst
        obtain ⟨ns, ts, hrun, hl, he, hnl, hng⟩ := run_put (s := s) (six := false) (T := takeA s D) (f := f) (g := g) (m := m) (o := o + 1 + (put m).length) (h2.fst.le ho2) (fun hh => by cases hh) (fun i hi o' ho' hh => ih i D (d + 1) o' (A i) (hr i hi) (by omega) (ch i hi) ho' hh) m (Nat.le_refl _) h2.snd
        have hns : ns = [] := List.length_eq_zero_iff.mp hnl
        subst hns
        refine ⟨nodeT 5 ⟨[], ts, o + 1 + (put m).length + (cat m (fun i => (if false = true then textL (g i) else []) ++ bytesT (f i))).length, 0⟩, ?_, ⟨by simp [nodeT], rfl, rfl, rfl, rfl, hl, rfl, he, fun i hi => absurd hi (Nat.not_lt_zero i)⟩⟩
        show nodeA s 5 (o + 1) (takeA s D) = _
        unfold nodeA
        rw [if_neg (by decide), if_neg (by decide), if_neg (by decide), if_neg (by decide), if_pos (Or.inl rfl), hcn]
        simp only [show ((5 : Nat) == 6) = false from rfl]
        rw [hrun]
        simp only [List.length_cons, List.length_append]
        congr 1
        omega
      · simp at fm
        obtain ⟨⟨rfl, rfl⟩, h3⟩ := fm
        obtain rfl : tx = ⟨#[]⟩ := hemp (by simpa using h3)
        obtain ⟨hqm, hok⟩ := nm rfl
        have hR3 : R = put m ++ cat m (fun i => (if true = true then textL (g i) else []) ++ bytesT (f i)) := by rw [← hR2]; simp
        clear hR2
        subst hR3
        have hcn := countA_put m32 h2.fst
        obtain ⟨ns, ts, hrun, hl, he, hnl, hng⟩ := run_put (s := s) (six := true) (T := takeA s D) (f := f) (g := g) (m := m) (o := o + 1 + (put m).length) (h2.fst.le ho2) (fun _ i hi => okN_size (hok i (by omega))) (fun i hi o' ho' hh => ih i D (d + 1) o' (A i) (hr i hi) (by omega) (ch i hi) ho' hh) m (Nat.le_refl _) h2.snd
        simp only [if_true] at hnl
        refine ⟨nodeT 6 ⟨ns, ts, o + 1 + (put m).length + (cat m (fun i => (if true = true then textL (g i) else []) ++ bytesT (f i))).length, 0⟩, ?_, ⟨by simp [nodeT], rfl, rfl, rfl, rfl, hl, by show ns.length = q; omega, he, fun i hi => hng i (by omega)⟩⟩
        show nodeA s 6 (o + 1) (takeA s D) = _
        unfold nodeA
        rw [if_neg (by decide), if_neg (by decide), if_neg (by decide), if_neg (by decide), if_pos (Or.inr rfl), hcn]
        simp only [show ((6 : Nat) == 6) = true from rfl]
        rw [hrun]
        simp only [List.length_cons, List.length_append]
        congr 1
        omega
set_option maxRecDepth 100000 in
theorem dec_enc {B : Nat} {w : World} {t : Tr} {x : Ad} (hL : Lies B w t x) (h : checkT t = 0) :
    (encT t).size ≤ 1024 ∧ decE (encT t) = 0 ∧ eqvT t (takeA (encT t) 8 0 0).t := by
  have h1 : soundT t 1 = 0 := by
    unfold checkT at h
    by_cases h2 : soundT t 1 = 0
    · exact h2
    · rw [if_neg h2] at h; exact absurd h h2
  have h2 : (bytesT t).length ≤ 1024 := by
    unfold checkT at h
    rw [if_pos h1] at h
    by_cases h3 : 1024 < (bytesT t).length
    · rw [if_pos h3] at h; cases h
    · omega
  have he : encT t = ⟨(bytesT t).toArray⟩ := by unfold encT; rw [if_pos h]
  have hsz : (encT t).size = (bytesT t).length := by rw [he]; exact List.size_toArray
  obtain ⟨u, hu, heq⟩ := take_bytes (s := encT t) (by omega) t 8 1 0 x hL (by decide) h1 (Nat.zero_le _) ⟨[], by rw [he]; simp⟩
  refine ⟨by omega, ?_, by rw [hu]; exact heq⟩
  have hend : endE (encT t) (takeA (encT t) 8 0 0) = 0 := by
    unfold endE
    rw [hu]
    simp only
    rw [if_pos trivial, if_neg (by omega)]
  unfold decE
  rw [if_pos hend, hu]
  exact (eqv_check heq).trans h
end Go.Proofs.YtniljoojoafiaaaGreatDoor.V
