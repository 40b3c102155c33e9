/- A value's bytes are taken again as the same value, and what is taken of bytes has just these bytes: plain facts. The order of values is one order: plain facts (turned round, one behind the other, nothing between just where the bytes are the same). Values between which there is nothing in the order are the same, and have the same bytes; others have others: plain facts. Which parts a struct keeps: the program's way (a stable sort, of each run the last) and the document's (each laid in its place, or in its elder's) come to one list. -/
import Derived.Test.YtjmjlijmeahmfaaDcd
import Derived.Test.YtjmjlijmeahmfaaOwn
import Derived.Test.YtjmjlijmeahmfaaStrt
import Derived.Sort.LotA
import Derived.Lib.SlicesS
namespace Go.Proofs.Ytjmjlijmeahmfaa
open Go.RowKit
def eqvT : Tr → Tr → Prop
  | .no, _ => False
  | .mk k b n s m f q g, u => u ≠ .no ∧ u.k = k ∧ u.b = b ∧ u.n = n ∧ u.s = s ∧ u.m = m ∧ u.q = q ∧ (∀ i, i < m → eqvT (f i) (u.f i)) ∧ (∀ i, i < q → u.g i = g i)
theorem fe_congr {F G : Nat → Int} : ∀ {m : Nat}, (∀ i, i < m → F i = G i) → fe m F = fe m G
  | 0, _ => rfl
  | m + 1, h => by
    rw [fe, fe, fe_congr (m := m) (fun i hi => h i (by omega)), h m (by omega)]
theorem cat_congr {F G : Nat → List UInt8} : ∀ {m : Nat}, (∀ i, i < m → F i = G i) → cat m F = cat m G
  | 0, _ => rfl
  | m + 1, h => by
    rw [cat, cat, cat_congr (m := m) (fun i hi => h i (by omega)), h m (by omega)]
theorem okN_congr {g g' : Nat → ByteArray} {i : Nat} (h : ∀ j, j ≤ i → g' j = g j) : okN g' i = okN g i := by
  unfold okN
  rw [h i (Nat.le_refl _), h (i - 1) (Nat.sub_le _ _)]
theorem namedB_congr {q m : Nat} {g g' : Nat → ByteArray} (h : ∀ i, i < q → g' i = g i) : namedB q m g' = namedB q m g := by
  unfold namedB
  apply decide_eq_decide.mpr
  constructor
  · rintro ⟨h1, h2⟩
    exact ⟨h1, fun i hi => by rw [← okN_congr (fun j hj => h j (by omega))]; exact h2 i hi⟩
  · rintro ⟨h1, h2⟩
    exact ⟨h1, fun i hi => by rw [okN_congr (fun j hj => h j (by omega))]; exact h2 i hi⟩
theorem eqv_sound (t : Tr) : ∀ (u : Tr) (d : Int), eqvT t u → soundT u d = soundT t d := by
  induction t with
  | no => exact fun _ _ h => h.elim
  | mk k b n s m f q g ih =>
    intro u d h
    cases u with
    | no => exact absurd rfl h.1
    | mk k' b' n' s' m' f' q' g' =>
      obtain ⟨_, hk, hb, hn, hs, hm, hq, hf, hg⟩ := h
      obtain rfl : k' = k := hk
      obtain rfl : b' = b := hb
      obtain rfl : n' = n := hn
      obtain rfl : s' = s := hs
      obtain rfl : m' = m := hm
      obtain rfl : q' = q := hq
      rw [soundT, soundT, namedB_congr (g := g) (g' := g') hg, fe_congr (F := fun i => soundT (f' i) (d + 1)) (G := fun i => soundT (f i) (d + 1)) (fun i hi => ih i (f' i) (d + 1) (hf i hi))]
theorem eqv_small (t : Tr) : ∀ (u : Tr), eqvT t u → small t → small u := by
  induction t with
  | no => exact fun _ h => h.elim
  | mk k b n s m f q g ih =>
    intro u h hsm
    cases u with
    | no => exact absurd rfl h.1
    | mk k' b' n' s' m' f' q' g' =>
      obtain ⟨_, hk, hb, hn, hs, hm, hq, hf, hg⟩ := h
      obtain rfl : s' = s := hs
      obtain rfl : m' = m := hm
      exact ⟨hsm.1, fun i hi => ih i (f' i) (hf i hi) (hsm.2 i hi)⟩
theorem eqv_bytes (t : Tr) : ∀ (u : Tr) (d : Int), eqvT t u → soundT t d = 0 → bytesT u = bytesT t := by
  induction t with
  | no => exact fun _ _ h => h.elim
  | mk k b n s m f q g ih =>
    intro u d h h0
    have hP := soundP h0
    cases u with
    | no => exact absurd rfl h.1
    | mk k' b' n' s' m' f' q' g' =>
      obtain ⟨_, hk, hb, hn, hs, hm, hq, hf, hg⟩ := h
      obtain rfl : k' = k := hk
      obtain rfl : b' = b := hb
      obtain rfl : n' = n := hn
      obtain rfl : s' = s := hs
      obtain rfl : m' = m := hm
      obtain rfl : q' = q := hq
      have hc : cat m' (fun i => (if k' = 6 then textL (g' i) else []) ++ bytesT (f' i)) = cat m' (fun i => (if k' = 6 then textL (g i) else []) ++ bytesT (f i)) := by
        refine cat_congr fun i hi => ?_
        rw [ih i (f' i) (d + 1) (hf i hi) (hP.ch i hi)]
        by_cases h6 : k' = 6
        · have hgi : g' i = g i := hg i (by rw [(hP.nm h6).1]; exact hi)
          rw [if_pos h6, if_pos h6, hgi]
        · rw [if_neg h6, if_neg h6]
      rw [bytesT, bytesT, hc]
theorem eqv_check {t u : Tr} (h : eqvT t u) : checkT u = checkT t := by
  unfold checkT
  rw [eqv_sound t u 1 h]
  by_cases h0 : soundT t 1 = 0
  · rw [eqv_bytes t u 1 h h0]
  · rw [if_neg h0, if_neg h0]
theorem eqv_enc {t u : Tr} (h : eqvT t u) : encT u = encT t := by
  unfold encT
  rw [eqv_check h]
  by_cases h0 : checkT t = 0
  · have h1 : soundT t 1 = 0 := by
      unfold checkT at h0
      by_cases h2 : soundT t 1 = 0
      · exact h2
      · rw [if_neg h2] at h0; exact h0
    rw [eqv_bytes t u 1 h h1]
  · rw [if_neg h0, if_neg h0]
theorem eqv_cmp (t : Tr) : ∀ (u : Tr), eqvT t u → cmpT t u = 0 := by
  induction t with
  | no => exact fun _ h => h.elim
  | mk k b n s m f q g ih =>
    intro u h
    obtain ⟨_, hk, hb, hn, hs, hm, hq, hf, hg⟩ := h
    rw [cmpT, hk, hb, hn, hs, hm, hq, if_pos rfl, cmpB_self, cmpB_self, cmpI_self, cmpI_self]
    have h : fe (min m m) (cmpF q q g u.g (fun i => cmpT (f i) (u.f i))) = 0 := fe_none _ _ (fun i hi => by
      unfold cmpF
      rw [if_neg]
      · exact ih i (u.f i) (hf i (by omega))
      · rintro ⟨h1, h2⟩
        exact h2 (by rw [hg i (by omega)]))
    rw [h, if_pos rfl]
    simp
def Hs (s : ByteArray) (o : Nat) (l : List UInt8) : Prop := ∃ r, s.data.toList.drop o = l ++ r
theorem Hs.fst {s : ByteArray} {o : Nat} {a b : List UInt8} (h : Hs s o (a ++ b)) : Hs s o a := by
  obtain ⟨r, hr⟩ := h
  exact ⟨b ++ r, by rw [hr, List.append_assoc]⟩
theorem Hs.snd {s : ByteArray} {o : Nat} {a b : List UInt8} (h : Hs s o (a ++ b)) : Hs s (o + a.length) b := by
  obtain ⟨r, hr⟩ := h
  refine ⟨r, ?_⟩
  rw [← List.drop_drop, hr, List.append_assoc, List.drop_left]
theorem Hs.le {s : ByteArray} {o : Nat} {l : List UInt8} (h : Hs s o l) (ho : o ≤ s.size) : o + l.length ≤ s.size := by
  obtain ⟨r, hr⟩ := h
  have := congrArg List.length hr
  rw [List.length_drop, List.length_append, ← Lib.size_eq] at this
  omega
theorem Hs.byte {s : ByteArray} {o : Nat} {x : UInt8} {l : List UInt8} (h : Hs s o (x :: l)) : byteAt s o = x.toNat := by
  obtain ⟨r, hr⟩ := h
  unfold byteAt
  have : s.data.toList[o]? = some x := by
    have h2 := congrArg (fun l => l[0]?) hr
    simpa using h2
  rw [List.getD_eq_getElem?_getD, this]
  rfl
theorem ext_toList (s : ByteArray) (a n : Nat) : (s.extract a (a + n)).data.toList = (s.data.toList.drop a).take n := by
  rw [ByteArray.data_extract, Array.toList_extract]
  simp [List.extract]
theorem uintA_put {s : ByteArray} {o n : Nat} (hn : n < 18446744073709551616) (h : Hs s o (put n)) : uintA s o 0 = ⟨n, o + (put n).length, 0⟩ := by
  obtain ⟨r, hr⟩ := h
  unfold uintA tkA
  rw [if_pos rfl, hr, take_put n hn r]
theorem countA_put {s : ByteArray} {o n : Nat} (hn : n ≤ 32) (h : Hs s o (put n)) : countA s o 0 32 = ⟨n, o + (put n).length, 0⟩ := by
  obtain ⟨r, hr⟩ := h
  unfold countA tkA cnt
  rw [if_pos rfl, hr, take_put n (by omega) r, if_neg]
  rintro ⟨_, h1⟩
  simp only at h1
  omega
theorem textA_put {s t : ByteArray} {o : Nat} {m : Int} (hm : (t.size : Int) ≤ m) (hm2 : m ≤ 1048576) (ho : o ≤ s.size) (h : Hs s o (textL t)) : textA s o 0 m = ⟨t, o + (textL t).length, 0⟩ := by
  have hle := h.le ho
  have hc : cnt (tkA s o) (min m 1048576) = ⟨t.size, (put t.size).length, 0⟩ := by
    obtain ⟨r, hr⟩ := h
    unfold tkA cnt
    unfold textL at hr
    rw [hr, List.append_assoc, take_put t.size (by omega), if_neg]
    rintro ⟨_, h1⟩
    simp only at h1
    omega
  have hl : (textL t).length = (put t.size).length + t.size := by unfold textL; rw [List.length_append, ← Lib.size_eq]
  have he : s.extract (o + (put t.size).length) (o + (put t.size).length + t.size) = t := by
    apply ByteArray.ext
    apply Array.toList_inj.mp
    rw [ext_toList]
    obtain ⟨r, hr⟩ := h
    rw [← List.drop_drop, hr]
    unfold textL
    rw [List.append_assoc, List.drop_left, List.take_left' (by rw [← Lib.size_eq])]
  unfold textA
  rw [if_pos rfl, hc]
  simp only
  rw [if_pos trivial, if_neg (by omega), he, hl]
  congr 1
  omega
theorem boolA_put {s : ByteArray} {o : Nat} {b : Bool} (ho : o < s.size) (h : Hs s o [if b then 1 else 0]) : boolA s o 0 = ⟨b, o + 1, 0⟩ := by
  have hb := h.byte
  unfold boolA
  rw [if_pos rfl, if_pos ho, hb]
  cases b
  · rfl
  · rfl
theorem getD_left {α : Type} {l : List α} {x d : α} {j : Nat} (h : j < l.length) : (l ++ [x]).getD j d = l.getD j d := by
  rw [List.getD_eq_getElem?_getD, List.getD_eq_getElem?_getD, List.getElem?_append_left h]
theorem getD_last {α : Type} {l : List α} {x d : α} : (l ++ [x]).getD l.length d = x := by
  rw [List.getD_eq_getElem?_getD, List.getElem?_append_right (Nat.le_refl _)]
  simp
theorem run_put {s : ByteArray} {six : Bool} {T : Nat → Int → Tak} {f : Nat → Tr} {g : Nat → ByteArray} {m o : Nat} (ho : o ≤ s.size) (hg : six = true → ∀ i, i < m → (g i).size ≤ 16)
    (hT : ∀ i, i < m → ∀ o, o ≤ s.size → Hs s o (bytesT (f i)) → ∃ u, T o 0 = ⟨u, o + (bytesT (f i)).length, 0⟩ ∧ eqvT (f i) u) :
    ∀ i, i ≤ m → Hs s o (cat m (fun i => (if six then textL (g i) else []) ++ bytesT (f i))) →
    ∃ ns ts, runA s six T ⟨[], [], o, 0⟩ i = ⟨ns, ts, o + (cat i (fun i => (if six then textL (g i) else []) ++ bytesT (f i))).length, 0⟩ ∧ ts.length = i ∧ (∀ j, j < i → eqvT (f j) (ts.getD j .no)) ∧ ns.length = (if six then i else 0) ∧ (∀ j, j < ns.length → ns.getD j ⟨#[]⟩ = g j)
  | 0, _, _ => ⟨[], [], rfl, rfl, fun j hj => absurd hj (Nat.not_lt_zero j), by split <;> rfl, fun j hj => absurd hj (Nat.not_lt_zero j)⟩
  | i + 1, hi, h => by
    obtain ⟨ns, ts, hr, hl, he, hnl, hng⟩ := run_put ho hg hT i (by omega) h
    obtain ⟨F, hF⟩ : ∃ F : Nat → List UInt8, (fun i => (if six then textL (g i) else []) ++ bytesT (f i)) = F := ⟨_, rfl⟩
    rw [hF] at hr h ⊢
    have hFi : F i = (if six then textL (g i) else []) ++ bytesT (f i) := by rw [← hF]
    obtain ⟨y, hy⟩ := cat_more F (i := i + 1) (m := m) hi
    have hcs : cat (i + 1) F = cat i F ++ F i := rfl
    rw [hy] at h
    have h1 := h.fst
    rw [hcs] at h1
    have h2 := h1.snd
    have hle := h1.fst.le ho
    rw [runA, hr]
    unfold stepA
    cases six with
    | false =>
      have hFi2 : F i = bytesT (f i) := by rw [hFi]; simp
      rw [hFi2] at h2
      obtain ⟨u, hu, heq⟩ := hT i (by omega) _ hle h2
      refine ⟨ns, ts ++ [u], ?_, by simp [hl], fun j hj => ?_, hnl, hng⟩
      · unfold nameA
        simp only [Bool.false_eq_true, if_false]
        rw [hu, hcs, List.length_append, hFi2, Nat.add_assoc]
      · rcases Nat.lt_or_ge j i with k | k
        · rw [getD_left (by omega)]; exact he j k
        · obtain rfl : j = ts.length := by omega
          rw [getD_last, hl]
          exact heq
    | true =>
      have hFi2 : F i = textL (g i) ++ bytesT (f i) := by rw [hFi]; simp
      rw [hFi2] at h2
      have hgs := hg rfl i (by omega)
      have htx := textA_put (m := 16) (by omega) (by decide) hle h2.fst
      obtain ⟨u, hu, heq⟩ := hT i (by omega) _ (h2.fst.le hle) h2.snd
      simp only [if_true] at hnl
      refine ⟨ns ++ [g i], ts ++ [u], ?_, by simp [hl], fun j hj => ?_, by simp [hnl], fun j hj => ?_⟩
      · unfold nameA
        simp only [if_true]
        rw [htx]
        simp only
        rw [hu, hcs, List.length_append, hFi2, List.length_append]
        simp only [Nat.add_assoc]
      · rcases Nat.lt_or_ge j i with k | k
        · rw [getD_left (by omega)]; exact he j k
        · obtain rfl : j = ts.length := by omega
          rw [getD_last, hl]
          exact heq
      · rcases Nat.lt_or_ge j ns.length with k | k
        · rw [getD_left k]; exact hng j k
        · obtain rfl : j = ns.length := by simp at hj; omega
          rw [getD_last, hnl]
theorem take_bytes {B : Nat} {w : World} {s : ByteArray} (hs : s.size ≤ 1024) (t : Tr) : ∀ (D : Nat) (d : Int) (o : Nat) (x : Ad), Lies B w t x → d = 9 - (D : Int) → soundT t d = 0 → o ≤ s.size → Hs s o (bytesT t) →
    ∃ u, takeA s D o 0 = ⟨u, o + (bytesT t).length, 0⟩ ∧ eqvT t u := by
  induction t with
  | no => exact fun _ _ _ _ hL => hL.no.elim
  | mk k b n tx m f q g ih =>
    intro D d o x hL hd h0 ho h
    obtain ⟨d8, fm, k0, k6, m32, nm, ch⟩ := soundP h0
    obtain ⟨A, _, hr⟩ := hL.part
    have hn : -9223372036854775808 ≤ n ∧ n < 9223372036854775808 := hL.lims.2.1
    cases D with
    | zero => omega
    | succ D =>
      have hlen := h.le ho
      obtain ⟨R, hR⟩ : ∃ R, bytesT (.mk k b n tx m f q g) = UInt8.ofNat k.toNat :: R := ⟨_, by rw [bytesT]⟩
      have hR2 := hR
      rw [bytesT] at hR2
      replace hR2 := (List.cons.inj hR2).2
      rw [hR] at h hlen ⊢
      have hby := h.byte
      rw [toNat_ofNat_lt (by omega)] at hby
      have h2 : Hs s (o + 1) R := h.snd (a := [UInt8.ofNat k.toNat])
      have ho1 : o < s.size := by simp at hlen; omega
      have ho2 : o + 1 ≤ s.size := by omega
      rw [takeA, if_pos rfl, if_pos ho1, hby]
      unfold formedB at fm
      simp only [Bool.and_eq_true, Bool.or_eq_true, decide_eq_true_eq, Bool.not_eq_true'] at fm
      have hemp : tx.toList.isEmpty = true → tx = ⟨#[]⟩ := by
        intro he
        rw [empty_size] at he
        have := of_decide_eq_true he
        apply ByteArray.ext
        apply Array.toList_inj.mp
        rw [Lib.size_eq] at this
        exact List.length_eq_zero_iff.mp this
      have hk7 : k = 0 ∨ k = 1 ∨ k = 2 ∨ k = 3 ∨ k = 4 ∨ k = 5 ∨ k = 6 := by omega
      rcases hk7 with rfl | rfl | rfl | rfl | rfl | rfl | rfl
      · simp at fm
        obtain ⟨⟨⟨⟨rfl, rfl⟩, h3⟩, rfl⟩, rfl⟩ := fm
        obtain rfl : tx = ⟨#[]⟩ := hemp (by simpa using h3)
        simp at hR2
        subst hR2
        exact ⟨leafT 0 false 0 ⟨#[]⟩, rfl, ⟨by simp [leafT], rfl, rfl, rfl, rfl, rfl, rfl, fun i hi => absurd hi (Nat.not_lt_zero i), fun i hi => absurd hi (Nat.not_lt_zero i)⟩⟩
      · simp at fm
        obtain ⟨⟨⟨rfl, h3⟩, rfl⟩, rfl⟩ := fm
        obtain rfl : tx = ⟨#[]⟩ := hemp (by simpa using h3)
        simp at hR2
        subst hR2
        have hB := boolA_put (b := b) (by have := h2.le ho2; simp at this; omega) h2
        refine ⟨leafT 1 b 0 ⟨#[]⟩, ?_, ⟨by simp [leafT], rfl, rfl, rfl, rfl, rfl, rfl, fun i hi => absurd hi (Nat.not_lt_zero i), fun i hi => absurd hi (Nat.not_lt_zero i)⟩⟩
        show nodeA s 1 (o + 1) (takeA s D) = _
        unfold nodeA
        rw [if_neg (by decide), if_pos rfl, hB]
        rfl
      · simp at fm
        obtain ⟨⟨⟨rfl, h3⟩, rfl⟩, rfl⟩ := fm
        obtain rfl : tx = ⟨#[]⟩ := hemp (by simpa using h3)
        simp at hR2
        subst hR2
        have hB := uintA_put (zig_lt hn.1 hn.2) h2
        refine ⟨leafT 2 false n ⟨#[]⟩, ?_, ⟨by simp [leafT], rfl, rfl, rfl, rfl, rfl, rfl, fun i hi => absurd hi (Nat.not_lt_zero i), fun i hi => absurd hi (Nat.not_lt_zero i)⟩⟩
        show nodeA s 2 (o + 1) (takeA s D) = _
        unfold nodeA
        rw [if_neg (by decide), if_neg (by decide), if_pos rfl, hB]
        simp only [zag_zig, List.length_cons]
        congr 1
        omega
      · simp at fm
        obtain ⟨⟨⟨rfl, rfl⟩, rfl⟩, rfl⟩ := fm
        simp at hR2
        subst hR2
        have hle2 := h2.le ho2
        have hl : (textL tx).length = (put tx.size).length + tx.size := by unfold textL; rw [List.length_append, ← Lib.size_eq]
        have hB := textA_put (m := 1024) (by omega) (by decide) ho2 h2
        refine ⟨leafT 3 false 0 tx, ?_, ⟨by simp [leafT], rfl, rfl, rfl, rfl, rfl, rfl, fun i hi => absurd hi (Nat.not_lt_zero i), fun i hi => absurd hi (Nat.not_lt_zero i)⟩⟩
        show nodeA s 3 (o + 1) (takeA s D) = _
        unfold nodeA
        rw [if_neg (by decide), if_neg (by decide), if_neg (by decide), if_pos (Or.inl rfl), hB]
        simp only [List.length_cons]
        congr 1
        omega
      · simp at fm
        obtain ⟨⟨⟨rfl, rfl⟩, rfl⟩, rfl⟩ := fm
        simp at hR2
        subst hR2
        have hle2 := h2.le ho2
        have hl : (textL tx).length = (put tx.size).length + tx.size := by unfold textL; rw [List.length_append, ← Lib.size_eq]
        have hB := textA_put (m := 1024) (by omega) (by decide) ho2 h2
        refine ⟨leafT 4 false 0 tx, ?_, ⟨by simp [leafT], rfl, rfl, rfl, rfl, rfl, rfl, fun i hi => absurd hi (Nat.not_lt_zero i), fun i hi => absurd hi (Nat.not_lt_zero i)⟩⟩
        show nodeA s 4 (o + 1) (takeA s D) = _
        unfold nodeA
        rw [if_neg (by decide), if_neg (by decide), if_neg (by decide), if_pos (Or.inr rfl), hB]
        simp only [List.length_cons]
        congr 1
        omega
      · simp at fm
        obtain ⟨⟨⟨rfl, rfl⟩, h3⟩, rfl⟩ := fm
        obtain rfl : tx = ⟨#[]⟩ := hemp (by simpa using h3)
        have hR3 : R = put m ++ cat m (fun i => (if false = true then textL (g i) else []) ++ bytesT (f i)) := by rw [← hR2]; simp
        clear hR2
        subst hR3
        have hcn := countA_put m32 h2.fst
        obtain ⟨ns, ts, hrun, hl, he, hnl, hng⟩ := run_put (s := s) (six := false) (T := takeA s D) (f := f) (g := g) (m := m) (o := o + 1 + (put m).length) (h2.fst.le ho2) (fun hh => by cases hh) (fun i hi o' ho' hh => ih i D (d + 1) o' (A i) (hr i hi) (by omega) (ch i hi) ho' hh) m (Nat.le_refl _) h2.snd
        have hns : ns = [] := List.length_eq_zero_iff.mp hnl
        subst hns
        refine ⟨nodeT 5 ⟨[], ts, o + 1 + (put m).length + (cat m (fun i => (if false = true then textL (g i) else []) ++ bytesT (f i))).length, 0⟩, ?_, ⟨by simp [nodeT], rfl, rfl, rfl, rfl, hl, rfl, he, fun i hi => absurd hi (Nat.not_lt_zero i)⟩⟩
        show nodeA s 5 (o + 1) (takeA s D) = _
        unfold nodeA
        rw [if_neg (by decide), if_neg (by decide), if_neg (by decide), if_neg (by decide), if_pos (Or.inl rfl), hcn]
        simp only [show ((5 : Nat) == 6) = false from rfl]
        rw [hrun]
        simp only [List.length_cons, List.length_append]
        congr 1
        omega
      · simp at fm
        obtain ⟨⟨rfl, rfl⟩, h3⟩ := fm
        obtain rfl : tx = ⟨#[]⟩ := hemp (by simpa using h3)
        obtain ⟨hqm, hok⟩ := nm rfl
        have hR3 : R = put m ++ cat m (fun i => (if true = true then textL (g i) else []) ++ bytesT (f i)) := by rw [← hR2]; simp
        clear hR2
        subst hR3
        have hcn := countA_put m32 h2.fst
        obtain ⟨ns, ts, hrun, hl, he, hnl, hng⟩ := run_put (s := s) (six := true) (T := takeA s D) (f := f) (g := g) (m := m) (o := o + 1 + (put m).length) (h2.fst.le ho2) (fun _ i hi => okN_size (hok i (by omega))) (fun i hi o' ho' hh => ih i D (d + 1) o' (A i) (hr i hi) (by omega) (ch i hi) ho' hh) m (Nat.le_refl _) h2.snd
        simp only [if_true] at hnl
        refine ⟨nodeT 6 ⟨ns, ts, o + 1 + (put m).length + (cat m (fun i => (if true = true then textL (g i) else []) ++ bytesT (f i))).length, 0⟩, ?_, ⟨by simp [nodeT], rfl, rfl, rfl, rfl, hl, by show ns.length = q; omega, he, fun i hi => hng i (by omega)⟩⟩
        show nodeA s 6 (o + 1) (takeA s D) = _
        unfold nodeA
        rw [if_neg (by decide), if_neg (by decide), if_neg (by decide), if_neg (by decide), if_pos (Or.inr rfl), hcn]
        simp only [show ((6 : Nat) == 6) = true from rfl]
        rw [hrun]
        simp only [List.length_cons, List.length_append]
        congr 1
        omega
theorem dec_enc {B : Nat} {w : World} {t : Tr} {x : Ad} (hL : Lies B w t x) (h : checkT t = 0) :
    (encT t).size ≤ 1024 ∧ decE (encT t) = 0 ∧ eqvT t (takeA (encT t) 8 0 0).t := by
  have h1 : soundT t 1 = 0 := by
    unfold checkT at h
    by_cases h2 : soundT t 1 = 0
    · exact h2
    · rw [if_neg h2] at h; exact absurd h h2
  have h2 : (bytesT t).length ≤ 1024 := by
    unfold checkT at h
    rw [if_pos h1] at h
    by_cases h3 : 1024 < (bytesT t).length
    · rw [if_pos h3] at h; cases h
    · omega
  have he : encT t = ⟨(bytesT t).toArray⟩ := by unfold encT; rw [if_pos h]
  have hsz : (encT t).size = (bytesT t).length := by rw [he]; exact List.size_toArray
  obtain ⟨u, hu, heq⟩ := take_bytes (s := encT t) (by omega) t 8 1 0 x hL (by decide) h1 (Nat.zero_le _) ⟨[], by rw [he]; simp⟩
  refine ⟨by omega, ?_, by rw [hu]; exact heq⟩
  have hend : endE (encT t) (takeA (encT t) 8 0 0) = 0 := by
    unfold endE
    rw [hu]
    simp only
    rw [if_pos trivial, if_neg (by omega)]
  unfold decE
  rw [if_pos hend, hu]
  exact (eqv_check heq).trans h
end Go.Proofs.Ytjmjlijmeahmfaa
namespace Go.Proofs.Ytjmjlijmeahmfaa
open Go.RowKit
def tri (x y z : Int) : Prop := x ≤ 0 → y ≤ 0 → (x = 0 ∧ y = 0 → z = 0) ∧ (x < 0 ∨ y < 0 → z < 0)
theorem tri_cmpI (a b c : Int) : tri (cmpI a b) (cmpI b c) (cmpI a c) := by
  unfold tri cmpI
  repeat' split
  all_goals omega
theorem tri_cmpL : ∀ a b c : List UInt8, tri (Lib.compareBytes a b) (Lib.compareBytes b c) (Lib.compareBytes a c)
  | [], [], [] => by show tri 0 0 0; unfold tri; omega
  | [], [], _ :: _ => by show tri 0 (-1) (-1); unfold tri; omega
  | [], _ :: _, [] => by show tri (-1) 1 0; unfold tri; omega
  | [], _ :: _, _ :: _ => by show tri (-1) _ (-1); unfold tri; omega
  | _ :: _, [], _ => by show tri 1 _ _; unfold tri; omega
  | _ :: _, _ :: _, [] => by show tri _ 1 1; unfold tri; omega
  | a :: xs, b :: ys, c :: zs => by
    have ih := tri_cmpL xs ys zs
    unfold tri at ih ⊢
    rw [Lib.compareBytes, Lib.compareBytes, Lib.compareBytes]
    have lt (x y : UInt8) : x < y ↔ x.toNat < y.toNat := UInt8.lt_iff_toNat_lt
    simp only [lt]
    repeat' split
    all_goals (try omega)
theorem anti_cmpI (a b : Int) : cmpI b a = - cmpI a b := by
  unfold cmpI
  repeat' split
  all_goals omega
theorem anti_cmpL : ∀ a b : List UInt8, Lib.compareBytes b a = - Lib.compareBytes a b
  | [], [] => by decide
  | [], _ :: _ => by rfl
  | _ :: _, [] => by rfl
  | a :: xs, b :: ys => by
    have ih := anti_cmpL xs ys
    rw [Lib.compareBytes, Lib.compareBytes]
    have lt (x y : UInt8) : x < y ↔ x.toNat < y.toNat := UInt8.lt_iff_toNat_lt
    simp only [lt]
    repeat' split
    all_goals omega
theorem fe_cases (F : Nat → Int) : ∀ m, (fe m F = 0 ∧ ∀ i, i < m → F i = 0) ∨ ∃ i, i < m ∧ F i ≠ 0 ∧ (∀ j, j < i → F j = 0) ∧ fe m F = F i
  | 0 => Or.inl ⟨rfl, fun i hi => absurd hi (Nat.not_lt_zero i)⟩
  | m + 1 => by
    rcases fe_cases F m with ⟨h1, h2⟩ | ⟨i, h1, h2, h3, h4⟩
    · by_cases h0 : F m = 0
      · left
        refine ⟨by rw [fe, if_pos h1, h0], fun i hi => ?_⟩
        rcases Nat.lt_or_ge i m with k | k
        · exact h2 i k
        · obtain rfl : i = m := by omega
          exact h0
      · right
        exact ⟨m, Nat.lt_succ_self m, h0, h2, by rw [fe, if_pos h1]⟩
    · right
      exact ⟨i, by omega, h2, h3, by rw [fe, if_neg (by rw [h4]; exact h2), h4]⟩
def lexI (m m' : Nat) (F : Nat → Int) : Int := if fe (min m m') F = 0 then cmpI m m' else fe (min m m') F
theorem lex_cases (m m' : Nat) (F : Nat → Int) : (lexI m m' F = cmpI m m' ∧ ∀ i, i < min m m' → F i = 0) ∨ ∃ i, i < min m m' ∧ F i ≠ 0 ∧ (∀ j, j < i → F j = 0) ∧ lexI m m' F = F i := by
  unfold lexI
  rcases fe_cases F (min m m') with ⟨h1, h2⟩ | ⟨i, h1, h2, h3, h4⟩
  · exact Or.inl ⟨by rw [if_pos h1], h2⟩
  · exact Or.inr ⟨i, h1, h2, h3, by rw [if_neg (by rw [h4]; exact h2), h4]⟩
theorem lex_all {m m' : Nat} {F : Nat → Int} (h : ∀ i, i < min m m' → F i = 0) : lexI m m' F = cmpI m m' := by
  unfold lexI
  rw [if_pos (fe_none _ _ h)]
theorem lex_at {m m' : Nat} {F : Nat → Int} {k : Nat} (hk : k < min m m') (h0 : ∀ j, j < k → F j = 0) (h : F k ≠ 0) : lexI m m' F = F k := by
  rcases lex_cases m m' F with ⟨_, h2⟩ | ⟨i, h1, h2, h3, h4⟩
  · exact absurd (h2 k hk) h
  · rcases Nat.lt_trichotomy i k with c | c | c
    · exact absurd (h0 i c) h2
    · rw [← c]; exact h4
    · exact absurd (h3 k c) h
theorem cmpI_le {m m' : Nat} (h : cmpI m m' ≤ 0) : m ≤ m' := by
  unfold cmpI at h
  by_cases h1 : (m : Int) < m'
  · omega
  · rw [if_neg h1] at h
    by_cases h2 : (m' : Int) < m
    · rw [if_pos h2] at h; omega
    · omega
theorem cmpI_lt {m m' : Nat} (h : m < m') : cmpI m m' < 0 := by
  unfold cmpI
  rw [if_pos (by omega)]
  decide
theorem tri_lex {m1 m2 m3 : Nat} {F12 F23 F13 : Nat → Int} (h : ∀ i, i < m1 → i < m2 → i < m3 → tri (F12 i) (F23 i) (F13 i)) : tri (lexI m1 m2 F12) (lexI m2 m3 F23) (lexI m1 m3 F13) := by
  intro hx hy
  rcases lex_cases m1 m2 F12 with ⟨e1, z1⟩ | ⟨i, i1, i2, i3, i4⟩
  · rw [e1] at hx ⊢
    have l1 := cmpI_le hx
    rcases lex_cases m2 m3 F23 with ⟨e2, z2⟩ | ⟨j, j1, j2, j3, j4⟩
    · rw [e2] at hy ⊢
      have l2 := cmpI_le hy
      have hz : ∀ i, i < min m1 m3 → F13 i = 0 := fun i hi => ((h i (by omega) (by omega) (by omega)) (by rw [z1 i (by omega)]; decide) (by rw [z2 i (by omega)]; decide)).1 ⟨z1 i (by omega), z2 i (by omega)⟩
      rw [lex_all hz]
      exact tri_cmpI m1 m2 m3 hx hy
    · rw [j4] at hy ⊢
      have hlt : F23 j < 0 := by omega
      have hz : ∀ i, i < j → i < m1 → F13 i = 0 := fun i hi h1 => ((h i h1 (by omega) (by omega)) (by rw [z1 i (by omega)]; decide) (by rw [j3 i hi]; decide)).1 ⟨z1 i (by omega), j3 i hi⟩
      refine ⟨fun hh => absurd hh.2 j2, fun _ => ?_⟩
      by_cases hj : j < m1
      · have hneg := ((h j hj (by omega) (by omega)) (by rw [z1 j (by omega)]; decide) (by omega)).2 (Or.inr hlt)
        rw [lex_at (k := j) (by omega) (fun i hi => hz i hi (by omega)) (by omega)]
        exact hneg
      · rw [lex_all (fun i hi => hz i (by omega) (by omega))]
        exact cmpI_lt (by omega)
  · rw [i4] at hx ⊢
    have hlt : F12 i < 0 := by omega
    rcases lex_cases m2 m3 F23 with ⟨e2, z2⟩ | ⟨j, j1, j2, j3, j4⟩
    · rw [e2] at hy ⊢
      have l2 := cmpI_le hy
      have hz : ∀ k, k < i → F13 k = 0 := fun k hk => ((h k (by omega) (by omega) (by omega)) (by rw [i3 k hk]; decide) (by rw [z2 k (by omega)]; decide)).1 ⟨i3 k hk, z2 k (by omega)⟩
      have hneg := ((h i (by omega) (by omega) (by omega)) (by omega) (by rw [z2 i (by omega)]; decide)).2 (Or.inl hlt)
      refine ⟨fun hh => absurd hh.1 i2, fun _ => ?_⟩
      rw [lex_at (k := i) (by omega) hz (by omega)]
      exact hneg
    · rw [j4] at hy ⊢
      have hlt2 : F23 j < 0 := by omega
      refine ⟨fun hh => absurd hh.1 i2, fun _ => ?_⟩
      rcases Nat.lt_trichotomy i j with c | c | c
      · have hz : ∀ k, k < i → F13 k = 0 := fun k hk => ((h k (by omega) (by omega) (by omega)) (by rw [i3 k hk]; decide) (by rw [j3 k (by omega)]; decide)).1 ⟨i3 k hk, j3 k (by omega)⟩
        have hneg := ((h i (by omega) (by omega) (by omega)) (by omega) (by rw [j3 i c]; decide)).2 (Or.inl hlt)
        rw [lex_at (k := i) (by omega) hz (by omega)]
        exact hneg
      · subst c
        have hz : ∀ k, k < i → F13 k = 0 := fun k hk => ((h k (by omega) (by omega) (by omega)) (by rw [i3 k hk]; decide) (by rw [j3 k (by omega)]; decide)).1 ⟨i3 k hk, j3 k (by omega)⟩
        have hneg := ((h i (by omega) (by omega) (by omega)) (by omega) (by omega)).2 (Or.inl hlt)
        rw [lex_at (k := i) (by omega) hz (by omega)]
        exact hneg
      · have hz : ∀ k, k < j → F13 k = 0 := fun k hk => ((h k (by omega) (by omega) (by omega)) (by rw [i3 k (by omega)]; decide) (by rw [j3 k hk]; decide)).1 ⟨i3 k (by omega), j3 k hk⟩
        have hneg := ((h j (by omega) (by omega) (by omega)) (by rw [i3 j c]; decide) (by omega)).2 (Or.inr hlt2)
        rw [lex_at (k := j) (by omega) hz (by omega)]
        exact hneg
def real : Tr → Prop
  | .no => False
  | .mk _ _ _ _ m f _ _ => ∀ i, i < m → real (f i)
theorem Lies.real {B : Nat} {w : World} (t : Tr) : ∀ {x : Ad}, Lies B w t x → real t := by
  induction t with
  | no => exact fun h => h.no.elim
  | mk k b n s m f q g ih =>
    intro x h
    obtain ⟨A, _, hr⟩ := h.part
    exact fun i hi => ih i (hr i hi)
theorem real.mk {t : Tr} (h : real t) : ∃ k b n s m f q g, t = .mk k b n s m f q g := by
  cases t with
  | no => exact h.elim
  | mk k b n s m f q g => exact ⟨k, b, n, s, m, f, q, g, rfl⟩
theorem fe_neg (F G : Nat → Int) (h : ∀ i, G i = - F i) : ∀ m, fe m G = - fe m F
  | 0 => rfl
  | m + 1 => by
    rw [fe, fe, fe_neg F G h m, h m]
    by_cases h0 : fe m F = 0
    · rw [if_pos (by omega), if_pos h0]
    · rw [if_neg (by omega), if_neg h0]
theorem fe_negL {F G : Nat → Int} : ∀ {m : Nat}, (∀ i, i < m → G i = - F i) → fe m G = - fe m F
  | 0, _ => rfl
  | m + 1, h => by
    rw [fe, fe, fe_negL (m := m) (fun i hi => h i (by omega)), h m (by omega)]
    by_cases h0 : fe m F = 0
    · rw [if_pos (by omega), if_pos h0]
    · rw [if_neg (by omega), if_neg h0]
theorem cmpF_anti {q uq : Nat} {g ug : Nat → ByteArray} {C D : Nat → Int} {i : Nat} (h : D i = - C i) : cmpF uq q ug g D i = - cmpF q uq g ug C i := by
  unfold cmpF
  by_cases h1 : i < min q uq ∧ (g i).data.toList ≠ (ug i).data.toList
  · rw [if_pos h1, if_pos ⟨by omega, fun e => h1.2 e.symm⟩]
    exact anti_cmpL _ _
  · rw [if_neg h1, if_neg (fun hh => h1 ⟨by omega, fun e => hh.2 e.symm⟩), h]
theorem anti_cmpT (t : Tr) : ∀ u, real t → real u → cmpT u t = - cmpT t u := by
  induction t with
  | no => exact fun _ h => h.elim
  | mk k b n s m f q g ih =>
    intro u ht hu
    obtain ⟨k', b', n', s', m', f', q', g', rfl⟩ := hu.mk
    rw [cmpT, cmpT]
    show (if k' = k then _ else cmpI k' k) = - (if k = k' then _ else cmpI k k')
    by_cases hk : k = k'
    · subst hk
      rw [if_pos rfl, if_pos rfl]
      by_cases k1 : k = 1
      · rw [if_pos k1, if_pos k1]; exact anti_cmpL _ _
      rw [if_neg k1, if_neg k1]
      by_cases k2 : k = 2
      · rw [if_pos k2, if_pos k2]; exact anti_cmpI _ _
      rw [if_neg k2, if_neg k2]
      by_cases k3 : k = 3 ∨ k = 4
      · rw [if_pos k3, if_pos k3]; exact anti_cmpL _ _
      rw [if_neg k3, if_neg k3]
      by_cases k5 : k = 5 ∨ k = 6
      · rw [if_pos k5, if_pos k5]
        have hfe : fe (min m' m) (cmpF q' q g' g (fun i => cmpT (f' i) (f i))) = - fe (min m m') (cmpF q q' g g' (fun i => cmpT (f i) (f' i))) := by
          rw [Nat.min_comm]
          exact fe_negL (fun i hi => cmpF_anti (ih i (f' i) (ht i (by omega)) (hu i (by omega))))
        show (if fe (min m' m) (cmpF q' q g' g (fun i => cmpT (f' i) (f i))) = 0 then cmpI m' m else fe (min m' m) (cmpF q' q g' g (fun i => cmpT (f' i) (f i)))) = - (if fe (min m m') (cmpF q q' g g' (fun i => cmpT (f i) (f' i))) = 0 then cmpI m m' else fe (min m m') (cmpF q q' g g' (fun i => cmpT (f i) (f' i))))
        rw [hfe]
        by_cases h0 : fe (min m m') (cmpF q q' g g' (fun i => cmpT (f i) (f' i))) = 0
        · rw [if_pos (by omega), if_pos h0]; exact anti_cmpI _ _
        · rw [if_neg (by omega), if_neg h0]
      · rw [if_neg k5, if_neg k5]; rfl
    · rw [if_neg (fun e => hk e.symm), if_neg hk]
      exact anti_cmpI _ _
theorem tri_cmpF {qa qb qc : Nat} {ga gb gc : Nat → ByteArray} {C12 C23 C13 : Nat → Int} {i : Nat} (hC : tri (C12 i) (C23 i) (C13 i)) (hq : (qa = 0 ∧ qb = 0 ∧ qc = 0) ∨ (i < qa ∧ i < qb ∧ i < qc)) :
    tri (cmpF qa qb ga gb C12 i) (cmpF qb qc gb gc C23 i) (cmpF qa qc ga gc C13 i) := by
  rcases hq with ⟨rfl, rfl, rfl⟩ | ⟨h1, h2, h3⟩
  · unfold cmpF
    rw [if_neg (by omega), if_neg (by omega), if_neg (by omega)]
    exact hC
  · unfold cmpF
    have e12 : i < min qa qb := by omega
    have e23 : i < min qb qc := by omega
    have e13 : i < min qa qc := by omega
    by_cases n12 : (ga i).data.toList = (gb i).data.toList
    · rw [if_neg (fun h => h.2 n12)]
      by_cases n23 : (gb i).data.toList = (gc i).data.toList
      · rw [if_neg (fun h => h.2 n23), if_neg (fun h => h.2 (n12.trans n23))]
        exact hC
      · rw [if_pos ⟨e23, n23⟩, if_pos ⟨e13, fun h => n23 (n12.symm.trans h)⟩]
        intro _ hy
        have hne : cmpB (gb i) (gc i) ≠ 0 := fun h => n23 (cmpL_zero h)
        have he : cmpB (ga i) (gc i) = cmpB (gb i) (gc i) := by unfold cmpB; rw [n12]
        rw [he]
        exact ⟨fun h => absurd h.2 hne, fun _ => by omega⟩
    · rw [if_pos ⟨e12, n12⟩]
      have hne1 : cmpB (ga i) (gb i) ≠ 0 := fun h => n12 (cmpL_zero h)
      by_cases n23 : (gb i).data.toList = (gc i).data.toList
      · rw [if_neg (fun h => h.2 n23), if_pos ⟨e13, fun h => n12 (h.trans n23.symm)⟩]
        intro hx _
        have he : cmpB (ga i) (gc i) = cmpB (ga i) (gb i) := by unfold cmpB; rw [n23]
        rw [he]
        exact ⟨fun h => absurd h.1 hne1, fun _ => by omega⟩
      · rw [if_pos ⟨e23, n23⟩]
        intro hx hy
        have hne2 : cmpB (gb i) (gc i) ≠ 0 := fun h => n23 (cmpL_zero h)
        have ht := (tri_cmpL (ga i).data.toList (gb i).data.toList (gc i).data.toList hx hy).2 (Or.inl (by show cmpB (ga i) (gb i) < 0; omega))
        have n13 : (ga i).data.toList ≠ (gc i).data.toList := fun e => by rw [e, cmpL_self] at ht; exact absurd ht (by decide)
        rw [if_pos ⟨e13, n13⟩]
        exact ⟨fun h => absurd h.1 hne1, fun _ => ht⟩
theorem formed5 {b : Bool} {n : Int} {s : ByteArray} {m q : Nat} (h : formedB 5 b n s m q = true) : q = 0 := by
  unfold formedB at h
  simp only [Bool.and_eq_true, Bool.or_eq_true, decide_eq_true_eq] at h
  omega
theorem tri_cmpT (t : Tr) : ∀ u v (d1 d2 d3 : Int), real t → real u → real v → soundT t d1 = 0 → soundT u d2 = 0 → soundT v d3 = 0 → tri (cmpT t u) (cmpT u v) (cmpT t v) := by
  induction t with
  | no => exact fun _ _ _ _ _ h => h.elim
  | mk k b n s m f q g ih =>
    intro u v d1 d2 d3 ht hu hv s1 s2 s3
    obtain ⟨k', b', n', s', m', f', q', g', rfl⟩ := hu.mk
    obtain ⟨k2, b2, n2, s2', m2, f2, q2, g2, rfl⟩ := hv.mk
    have P1 := soundP s1
    have P2 := soundP s2
    have P3 := soundP s3
    rw [cmpT, cmpT, cmpT]
    show tri (if k = k' then _ else cmpI k k') (if k' = k2 then _ else cmpI k' k2) (if k = k2 then _ else cmpI k k2)
    by_cases h12 : k = k'
    · subst h12
      rw [if_pos rfl]
      by_cases h23 : k = k2
      · subst h23
        rw [if_pos rfl, if_pos rfl]
        by_cases k1 : k = 1
        · rw [if_pos k1, if_pos k1, if_pos k1]; exact tri_cmpL _ _ _
        rw [if_neg k1, if_neg k1, if_neg k1]
        by_cases k2 : k = 2
        · rw [if_pos k2, if_pos k2, if_pos k2]; exact tri_cmpI _ _ _
        rw [if_neg k2, if_neg k2, if_neg k2]
        by_cases k3 : k = 3 ∨ k = 4
        · rw [if_pos k3, if_pos k3, if_pos k3]; exact tri_cmpL _ _ _
        rw [if_neg k3, if_neg k3, if_neg k3]
        by_cases k5 : k = 5 ∨ k = 6
        · rw [if_pos k5, if_pos k5, if_pos k5]
          refine tri_lex (m1 := m) (m2 := m') (m3 := m2) (F12 := cmpF q q' g g' (fun i => cmpT (f i) (f' i))) (F23 := cmpF q' q2 g' g2 (fun i => cmpT (f' i) (f2 i))) (F13 := cmpF q q2 g g2 (fun i => cmpT (f i) (f2 i))) (fun i i1 i2 i3 => ?_)
          refine tri_cmpF (ih i (f' i) (f2 i) (d1 + 1) (d2 + 1) (d3 + 1) (ht i i1) (hu i i2) (hv i i3) (P1.ch i i1) (P2.ch i i2) (P3.ch i i3)) ?_
          rcases k5 with rfl | rfl
          · exact Or.inl ⟨formed5 P1.fm, formed5 P2.fm, formed5 P3.fm⟩
          · exact Or.inr ⟨by rw [(P1.nm rfl).1]; exact i1, by rw [(P2.nm rfl).1]; exact i2, by rw [(P3.nm rfl).1]; exact i3⟩
        · rw [if_neg k5, if_neg k5, if_neg k5]
          intro _ _
          exact ⟨fun _ => rfl, fun h => by rcases h with h | h <;> exact absurd h (by decide)⟩
      · rw [if_neg h23, if_neg h23]
        intro _ hy
        have hne : cmpI k k2 ≠ 0 := by unfold cmpI; repeat' split <;> omega
        exact ⟨fun h => absurd h.2 hne, fun _ => by omega⟩
    · rw [if_neg h12]
      have hne : cmpI k k' ≠ 0 := by unfold cmpI; repeat' split <;> omega
      by_cases h23 : k' = k2
      · subst h23
        rw [if_pos rfl, if_neg h12]
        intro hx _
        exact ⟨fun h => absurd h.1 hne, fun _ => by omega⟩
      · rw [if_neg h23]
        intro hx hy
        have ht := (tri_cmpI k k' k2 hx hy).2 (Or.inl (by omega))
        have h13 : k ≠ k2 := fun e => by rw [e, cmpI_self] at ht; exact absurd ht (by decide)
        rw [if_neg h13]
        exact ⟨fun h => absurd h.1 hne, fun _ => ht⟩
end Go.Proofs.Ytjmjlijmeahmfaa
namespace Go.Proofs.Ytjmjlijmeahmfaa
open Go.RowKit
structure Fm (k : Int) (b : Bool) (n : Int) (s : ByteArray) (m q : Nat) : Prop where
  b : k ≠ 1 → b = false
  n : k ≠ 2 → n = 0
  s : k ≠ 3 → k ≠ 4 → s = ⟨#[]⟩
  m : k ≠ 5 → k ≠ 6 → m = 0
  q : k ≠ 6 → q = 0
theorem fm_of {k : Int} {b : Bool} {n : Int} {s : ByteArray} {m q : Nat} (h : formedB k b n s m q = true) : Fm k b n s m q := by
  unfold formedB at h
  simp only [Bool.and_eq_true, Bool.or_eq_true, decide_eq_true_eq, Bool.not_eq_true'] at h
  obtain ⟨⟨⟨⟨⟨⟨_, _⟩, hb⟩, hn⟩, hs⟩, hm⟩, hq⟩ := h
  refine ⟨fun h1 => ?_, fun h1 => ?_, fun h1 h2 => ?_, fun h1 h2 => ?_, fun h1 => ?_⟩
  · rcases hb with e | e
    · exact absurd e h1
    · exact e
  · rcases hn with e | e
    · exact absurd e h1
    · exact e
  · rcases hs with (e | e) | e
    · exact absurd e h1
    · exact absurd e h2
    · rw [empty_size] at e
      have := of_decide_eq_true e
      apply ByteArray.ext
      apply Array.toList_inj.mp
      rw [Lib.size_eq] at this
      exact List.length_eq_zero_iff.mp this
  · rcases hm with (e | e) | e
    · exact absurd e h1
    · exact absurd e h2
    · omega
  · rcases hq with e | e
    · exact absurd e h1
    · omega
theorem str_of {a b : ByteArray} (h : cmpB a b = 0) : a = b := by
  apply ByteArray.ext
  apply Array.toList_inj.mp
  exact cmpB_zero h
theorem cmpI_zero {a b : Int} (h : cmpI a b = 0) : a = b := by
  unfold cmpI at h
  by_cases h1 : a < b
  · rw [if_pos h1] at h; cases h
  · rw [if_neg h1] at h
    by_cases h2 : b < a
    · rw [if_pos h2] at h; cases h
    · omega
theorem eqv_of_zero (t : Tr) : ∀ u (d1 d2 : Int), real t → real u → soundT t d1 = 0 → soundT u d2 = 0 → cmpT t u = 0 → eqvT t u := by
  induction t with
  | no => exact fun _ _ _ h => h.elim
  | mk k b n s m f q g ih =>
    intro u d1 d2 ht hu s1 s2 h
    obtain ⟨k', b', n', s', m', f', q', g', rfl⟩ := hu.mk
    have P1 := soundP s1
    have P2 := soundP s2
    have F1 := fm_of P1.fm
    have F2 := fm_of P2.fm
    rw [cmpT] at h
    replace h : (if k = k' then (if k = 1 then cmpB (boolB b) (boolB b') else if k = 2 then cmpI n n' else if k = 3 ∨ k = 4 then cmpB s s' else if k = 5 ∨ k = 6 then (if fe (min m m') (cmpF q q' g g' (fun i => cmpT (f i) (f' i))) = 0 then cmpI m m' else fe (min m m') (cmpF q q' g g' (fun i => cmpT (f i) (f' i)))) else 0) else cmpI k k') = 0 := h
    have hk : k = k' := by
      by_cases e : k = k'
      · exact e
      · rw [if_neg e] at h; exact cmpI_zero h
    subst hk
    rw [if_pos rfl] at h
    have hb : b' = b := by
      by_cases k1 : k = 1
      · rw [if_pos k1] at h
        have := str_of h
        cases b <;> cases b' <;> first | rfl | (exfalso; revert this; decide)
      · rw [F1.b k1, F2.b k1]
    have hn : n' = n := by
      by_cases k2 : k = 2
      · rw [if_neg (by omega), if_pos k2] at h
        exact (cmpI_zero h).symm
      · rw [F1.n k2, F2.n k2]
    have hs : s' = s := by
      by_cases k3 : k = 3 ∨ k = 4
      · rw [if_neg (by omega), if_neg (by omega), if_pos k3] at h
        exact (str_of h).symm
      · rw [F1.s (by omega) (by omega), F2.s (by omega) (by omega)]
    have hm : m' = m ∧ ∀ i, i < m → cmpF q q' g g' (fun i => cmpT (f i) (f' i)) i = 0 := by
      by_cases k5 : k = 5 ∨ k = 6
      · rw [if_neg (by omega), if_neg (by omega), if_neg (by omega), if_pos k5] at h
        by_cases h0 : fe (min m m') (cmpF q q' g g' (fun i => cmpT (f i) (f' i))) = 0
        · rw [if_pos h0] at h
          have hmm : (m : Int) = m' := cmpI_zero h
          obtain rfl : m' = m := by omega
          refine ⟨rfl, fun i hi => fe_zero h0 i (by omega)⟩
        · rw [if_neg h0] at h; exact absurd h h0
      · have e1 := F1.m (by omega) (by omega)
        have e2 := F2.m (by omega) (by omega)
        exact ⟨by omega, fun i hi => by omega⟩
    obtain ⟨rfl, hz⟩ := hm
    have hq : q' = q := by
      by_cases k6 : k = 6
      · rw [(P1.nm k6).1, (P2.nm k6).1]
      · rw [F1.q k6, F2.q k6]
    subst hq
    refine ⟨by simp, rfl, hb, hn, hs, rfl, rfl, fun i hi => ?_, fun i hi => ?_⟩
    · have hzi := hz i hi
      unfold cmpF at hzi
      by_cases hc : i < min q' q' ∧ (g i).data.toList ≠ (g' i).data.toList
      · rw [if_pos hc] at hzi
        exact absurd (cmpB_zero hzi) hc.2
      · rw [if_neg hc] at hzi
        exact ih i (f' i) (d1 + 1) (d2 + 1) (ht i hi) (hu i hi) (P1.ch i hi) (P2.ch i hi) hzi
    · have hqm : i < m' := by
        by_cases k6 : k = 6
        · rw [← (P1.nm k6).1]; exact hi
        · rw [F1.q k6] at hi; omega
      have hzi := hz i hqm
      unfold cmpF at hzi
      by_cases hc : (g i).data.toList = (g' i).data.toList
      · show g' i = g i
        apply ByteArray.ext
        apply Array.toList_inj.mp
        exact hc.symm
      · rw [if_pos ⟨by omega, hc⟩] at hzi
        exact absurd (cmpB_zero hzi) hc
theorem eqv_both {t u v : Tr} (h1 : eqvT t v) (h2 : eqvT u v) (hu : real u) : eqvT t u := by
  revert u v
  induction t with
  | no => exact fun {_ _} h => h.elim
  | mk k b n s m f q g ih =>
    intro u v h1 h2 hu
    obtain ⟨k', b', n', s', m', f', q', g', rfl⟩ := hu.mk
    obtain ⟨a0, a1, a2, a3, a4, a5, a6, a7, a8⟩ := h1
    obtain ⟨_, c1, c2, c3, c4, c5, c6, c7, c8⟩ := h2
    have hm : m' = m := c5.symm.trans a5
    have hq : q' = q := c6.symm.trans a6
    exact ⟨by simp, c1.symm.trans a1, c2.symm.trans a2, c3.symm.trans a3, c4.symm.trans a4, hm, hq, fun i hi => ih i (a7 i hi) (c7 i (by omega)) (hu i (by omega)), fun i hi => (c8 i (by omega)).symm.trans (a8 i hi)⟩
theorem check_sound {t : Tr} (h : checkT t = 0) : soundT t 1 = 0 := by
  unfold checkT at h
  by_cases h2 : soundT t 1 = 0
  · exact h2
  · rw [if_neg h2] at h; exact absurd h h2
theorem zero_iff {B : Nat} {w : World} {t u : Tr} {x y : Ad} (hL : Lies B w t x) (hL' : Lies B w u y) (h1 : checkT t = 0) (h2 : checkT u = 0) : cmpT t u = 0 ↔ encT t = encT u := by
  constructor
  · intro h
    exact (eqv_enc (eqv_of_zero t u 1 1 (Lies.real t hL) (Lies.real u hL') (check_sound h1) (check_sound h2) h)).symm
  · intro h
    have e1 := (dec_enc hL h1).2.2
    have e2 := (dec_enc hL' h2).2.2
    rw [← h] at e2
    exact eqv_cmp t u (eqv_both e1 e2 (Lies.real u hL'))
end Go.Proofs.Ytjmjlijmeahmfaa
namespace Go.Proofs.Ytjmjlijmeahmfaa
open Go.Shelf Go.RowKit Go.Lib Go.Sort
theorem cmpB_anti (a b : ByteArray) : cmpB b a = - cmpB a b := anti_cmpL _ _
theorem cmpB_refl (a : ByteArray) : cmpB a a = 0 := by have := cmpB_anti a a; omega
theorem cmpB_tri (a b c : ByteArray) : tri (cmpB a b) (cmpB b c) (cmpB a c) := tri_cmpL _ _ _
theorem cmpB_lt_le {a b c : ByteArray} (h1 : cmpB a b < 0) (h2 : cmpB b c ≤ 0) : cmpB a c < 0 := (cmpB_tri a b c (by omega) h2).2 (Or.inl h1)
theorem cmpB_le_lt {a b c : ByteArray} (h1 : cmpB a b ≤ 0) (h2 : cmpB b c < 0) : cmpB a c < 0 := (cmpB_tri a b c h1 (by omega)).2 (Or.inr h2)
theorem cmpB_eq {a b : ByteArray} : cmpB a b = 0 ↔ a = b := ⟨str_of, fun h => by subst h; exact cmpB_refl _⟩
theorem cmpB_list {a b : ByteArray} : (a.toList == b.toList) = decide (cmpB a b = 0) := by
  by_cases h : cmpB a b = 0
  · rw [str_of h]; simp [cmpB_refl]
  · have h2 : a ≠ b := fun e => h (cmpB_eq.2 e)
    rw [decide_eq_false h]
    exact (bytes_beq_false_iff a b).2 h2
def ltX (g : Nat → ByteArray) (n : Nat) (x y : Fin (n + 1)) : Bool := decide (cmpB (g x.val) (g y.val) < 0) || (decide (cmpB (g x.val) (g y.val) = 0) && decide (x.val < y.val))
theorem ltX_iff {g : Nat → ByteArray} {n : Nat} {x y : Fin (n + 1)} : ltX g n x y = true ↔ cmpB (g x.val) (g y.val) < 0 ∨ (cmpB (g x.val) (g y.val) = 0 ∧ x.val < y.val) := by simp [ltX]
theorem ltX_not {g : Nat → ByteArray} {n : Nat} {x y : Fin (n + 1)} : ltX g n x y = false ↔ cmpB (g y.val) (g x.val) < 0 ∨ (cmpB (g y.val) (g x.val) = 0 ∧ y.val ≤ x.val) := by
  have h := cmpB_anti (g x.val) (g y.val)
  rw [← Bool.not_eq_true, ltX_iff]
  omega
theorem swo_ltX (g : Nat → ByteArray) (n : Nat) : SWO (ltX g n) := by
  refine ⟨fun x => ?_, fun x y z h1 h2 => ?_, fun x y z h1 h2 => ?_⟩
  · rw [ltX_not]; exact Or.inr ⟨cmpB_refl _, Nat.le_refl _⟩
  · rw [ltX_iff] at h1 h2 ⊢
    have h := cmpB_tri (g x.val) (g y.val) (g z.val) (by omega) (by omega)
    rcases h1 with h1 | h1
    · exact Or.inl (h.2 (Or.inl h1))
    · rcases h2 with h2 | h2
      · exact Or.inl (h.2 (Or.inr h2))
      · exact Or.inr ⟨h.1 ⟨h1.1, h2.1⟩, by omega⟩
  · rw [ltX_not] at h1 h2 ⊢
    have h := cmpB_tri (g z.val) (g y.val) (g x.val) (by omega) (by omega)
    rcases h1 with h1 | h1
    · exact Or.inl (h.2 (Or.inr h1))
    · rcases h2 with h2 | h2
      · exact Or.inl (h.2 (Or.inl h2))
      · exact Or.inr ⟨h.1 ⟨h2.1, h1.1⟩, by omega⟩
theorem insInner_congr {α : Type} [Inhabited α] {lt lt' : α → α → Bool} (a : Nat) : ∀ (j : Nat) (d : Array α), j < d.size → (∀ p, p < j → lt d[j]! d[p]! = lt' d[j]! d[p]!) → insInner lt a j d = insInner lt' a j d
  | 0, _, _, _ => rfl
  | j + 1, d, hj, h => by
    unfold insInner
    rw [h j (by omega)]
    by_cases hc : (decide (j + 1 > a) && lt' d[j + 1]! d[j]!) = true
    · rw [if_pos hc, if_pos hc]
      refine insInner_congr a j _ (by rw [swp_size]; omega) (fun p hp => ?_)
      have e1 : (swp d (j + 1) j)[j]! = d[j + 1]! := by rw [swp_get d hj (by omega)]; simp
      have e2 : (swp d (j + 1) j)[p]! = d[p]! := by rw [swp_get d hj (by omega), if_neg (by omega), if_neg (by omega)]
      rw [e1, e2]
      exact h p (by omega)
    · rw [if_neg hc, if_neg hc]
theorem out_go {α : Type} [Inhabited α] {lt : α → α → Bool} {a b i : Nat} {d : Array α} (h : i < b) : insOuter lt a b i d = insOuter lt a b (i + 1) (insInner lt a i d) := by rw [insOuter, if_pos h]
structure Frsh (g : Nat → ByteArray) (n i : Nat) (d : Array (Fin (n + 1))) : Prop where
  size : d.size = n + 1
  low : ∀ p, p < i → (d[p]!).val < i
  high : ∀ k, i ≤ k → k < n + 1 → (d[k]!).val = k
  srt : SortedIn (ltX g n) 0 i d
theorem outer_congr (g : Nat → ByteArray) (n : Nat) : ∀ (k i : Nat) (d : Array (Fin (n + 1))), n + 1 - i = k → 0 < i → Frsh g n i d → insOuter (ltOf (cfF g n)) 0 (n + 1) i d = insOuter (ltX g n) 0 (n + 1) i d
  | 0, i, d, hk, _, _ => by rw [insOuter, if_neg (by omega), insOuter, if_neg (by omega)]
  | k + 1, i, d, hk, h0, hf => by
    have hi : i < n + 1 := by omega
    have e : insInner (ltOf (cfF g n)) 0 i d = insInner (ltX g n) 0 i d := insInner_congr 0 i d (by rw [hf.size]; exact hi) (fun p hp => by
      have h1 := hf.high i (Nat.le_refl _) hi
      have h2 := hf.low p hp
      show decide (cmpB _ _ < 0) = ltX g n _ _
      unfold ltX
      rw [show decide ((d[i]!).val < (d[p]!).val) = false from decide_eq_false (by omega)]
      simp)
    have hs := insInner_spec (swo_ltX g n) swp_permIn permIn_refl permIn_trans 0 (i + 1) i (Nat.lt_succ_self i) i d (Nat.zero_le _) (Nat.le_refl _) (by rw [hf.size]; omega) ⟨fun p q hp hpq hqi _ hq => hf.srt p q hp hpq (by omega), fun q h1 h2 => by omega⟩
    rw [out_go (lt := ltOf (cfF g n)) hi, e, out_go (lt := ltX g n) (d := d) hi]
    refine outer_congr g n k (i + 1) _ (by omega) (by omega) ⟨hs.1.1.trans hf.size, ?_, fun k hk1 hk2 => ?_, hs.2⟩
    · intro p hp
      refine permIn_all d _ 0 (i + 1) (fun x => x.val < i + 1) (by rw [hf.size]; omega) hs.1 (fun q _ hq => ?_) p (Nat.zero_le _) hp
      rcases Nat.lt_or_ge q i with h | h
      · have := hf.low q h; omega
      · have := hf.high q h (by omega); omega
    · rw [hs.1.2.1 k (Or.inr hk1)]
      exact hf.high k (by omega) hk2
theorem sortF_eq (g : Nat → ByteArray) (n : Nat) : sortF g n (idF n) = insertionSort (ltX g n) (idF n) 0 (n + 1) := by
  unfold sortF Sort.insertionSort
  rw [idF_size]
  refine outer_congr g n (n + 1 - (0 + 1)) (0 + 1) _ rfl (by omega) ⟨idF_size n, fun p hp => ?_, fun k _ hk => ?_, fun p q _ h1 h2 => by omega⟩
  · rw [idF_get n p (by omega)]; exact hp
  · rw [idF_get n k hk]
structure Ordr (g : Nat → ByteArray) (N : Nat) (os : Nat → Nat) : Prop where
  lt : ∀ p, p < N → os p < N
  all : ∀ j, j < N → ∃ p, p < N ∧ os p = j
  up : ∀ p q, p < q → q < N → cmpB (g (os p)) (g (os q)) < 0 ∨ (cmpB (g (os p)) (g (os q)) = 0 ∧ os p < os q)
theorem osF_ordr (g : Nat → ByteArray) (n : Nat) : Ordr g (n + 1) (osF g n) := by
  have hsp := insertionSort_holds (swo_ltX g n) (idF n) 0 (n + 1) (Nat.zero_le _) (by rw [idF_size]; omega)
  rw [← sortF_eq] at hsp
  have hsz : (sortF g n (idF n)).size = n + 1 := hsp.1.1.trans (idF_size n)
  have hperm := hsp.1.2.2
  have hex : ∀ A : Array (Fin (n + 1)), A.size = n + 1 → (A.extract 0 (n + 1)).toList = A.toList := fun A hA => by
    rw [Array.toList_extract, List.extract_eq_take_drop]
    simp only [List.drop_zero, Nat.sub_zero]
    exact List.take_of_length_le (by simp [hA])
  rw [hex _ hsz, hex _ (idF_size n)] at hperm
  have hfin : (idF n).toList = List.finRange (n + 1) := by simp [idF]
  rw [hfin] at hperm
  have hnd : (sortF g n (idF n)).toList.Nodup := hperm.nodup_iff.2 (List.nodup_finRange _)
  have hget : ∀ p, p < n + 1 → ∃ hp : p < (sortF g n (idF n)).toList.length, osF g n p = ((sortF g n (idF n)).toList[p]'hp).val := fun p hp => by
    refine ⟨by simpa [hsz] using hp, ?_⟩
    unfold osF
    rw [getElem!_pos _ p (by rw [hsz]; exact hp)]
    simp
  refine ⟨fun p hp => osF_lt g n p, fun j hj => ?_, fun p q hpq hq => ?_⟩
  · have hm : (⟨j, hj⟩ : Fin (n + 1)) ∈ (sortF g n (idF n)).toList := hperm.mem_iff.2 (List.mem_finRange _)
    obtain ⟨p, hp, e⟩ := List.mem_iff_getElem.1 hm
    have hp' : p < n + 1 := by simpa [hsz] using hp
    obtain ⟨_, e2⟩ := hget p hp'
    exact ⟨p, hp', by rw [e2, e]⟩
  · obtain ⟨h1, e1⟩ := hget p (by omega)
    obtain ⟨h2, e2⟩ := hget q hq
    have hne : (sortF g n (idF n)).toList[p] ≠ (sortF g n (idF n)).toList[q] := List.pairwise_iff_getElem.1 hnd p q h1 h2 hpq
    have hne' : osF g n p ≠ osF g n q := fun e => by
      rw [e1, e2] at e
      exact hne (Fin.ext e)
    have hl := hsp.2 p q (Nat.zero_le _) hpq hq
    rw [ltX_not] at hl
    have hl' : cmpB (g (osF g n p)) (g (osF g n q)) < 0 ∨ (cmpB (g (osF g n p)) (g (osF g n q)) = 0 ∧ osF g n p ≤ osF g n q) := hl
    omega
theorem mem_kept {g : Nat → ByteArray} {os : Nat → Nat} {N : Nat} {a : Nat} : ∀ i, a ∈ keptP g os N i ↔ ∃ p, p < i ∧ keepP g os N p = true ∧ os p = a
  | 0 => by simp [keptP]
  | i + 1 => by
    have ih := mem_kept (g := g) (os := os) (N := N) (a := a) i
    unfold keptP
    by_cases h : keepP g os N i = true
    · rw [if_pos h, List.mem_append, ih]
      constructor
      · rintro (⟨p, h1, h2, h3⟩ | h1)
        · exact ⟨p, by omega, h2, h3⟩
        · exact ⟨i, by omega, h, by simpa using Eq.symm (by simpa using h1)⟩
      · rintro ⟨p, h1, h2, h3⟩
        rcases Nat.lt_or_ge p i with h4 | h4
        · exact Or.inl ⟨p, h4, h2, h3⟩
        · obtain rfl : p = i := by omega
          exact Or.inr (by simp [h3])
    · rw [if_neg h, ih]
      constructor
      · rintro ⟨p, h1, h2, h3⟩; exact ⟨p, by omega, h2, h3⟩
      · rintro ⟨p, h1, h2, h3⟩
        rcases Nat.lt_or_ge p i with h4 | h4
        · exact ⟨p, h4, h2, h3⟩
        · obtain rfl : p = i := by omega
          exact absurd h2 h
def Rise (g : Nat → ByteArray) (l : List Nat) : Prop := l.Pairwise (fun a b => cmpB (g a) (g b) < 0)
theorem keep_iff {g : Nat → ByteArray} {os : Nat → Nat} {N p : Nat} : keepP g os N p = true ↔ (p + 1 < N → cmpB (g (os (p + 1))) (g (os p)) ≠ 0) := by
  unfold keepP
  rw [cmpB_list]
  by_cases h : p + 1 < N <;> simp [h]
theorem kept_next {g : Nat → ByteArray} {os : Nat → Nat} {N : Nat} (ho : Ordr g N os) {p q : Nat} (hk : keepP g os N p = true) (hpq : p < q) (hq : q < N) : cmpB (g (os p)) (g (os q)) < 0 := by
  have h1 := keep_iff.1 hk (by omega)
  have h2 := ho.up p (p + 1) (by omega) (by omega)
  have ha := cmpB_anti (g (os p)) (g (os (p + 1)))
  have h3 : cmpB (g (os p)) (g (os (p + 1))) < 0 := by omega
  rcases Nat.lt_or_ge (p + 1) q with h4 | h4
  · have h5 := ho.up (p + 1) q h4 hq
    exact cmpB_lt_le h3 (by omega)
  · obtain rfl : q = p + 1 := by omega
    exact h3
theorem kept_rise {g : Nat → ByteArray} {os : Nat → Nat} {N : Nat} (ho : Ordr g N os) : ∀ i, i ≤ N → Rise g (keptP g os N i)
  | 0, _ => List.Pairwise.nil
  | i + 1, hi => by
    have ih := kept_rise ho i (by omega)
    unfold keptP
    by_cases h : keepP g os N i = true
    · rw [if_pos h]
      refine List.pairwise_append.2 ⟨ih, List.pairwise_singleton _ _, fun a ha b hb => ?_⟩
      obtain ⟨p, h1, h2, rfl⟩ := (mem_kept i).1 ha
      obtain rfl : b = os i := by simpa using hb
      exact kept_next ho h2 h1 (by omega)
    · rw [if_neg h]; exact ih
theorem kept_mem {g : Nat → ByteArray} {os : Nat → Nat} {N : Nat} (ho : Ordr g N os) (a : Nat) : a ∈ keptP g os N N ↔ a < N ∧ ∀ j, a < j → j < N → cmpB (g j) (g a) ≠ 0 := by
  rw [mem_kept]
  constructor
  · rintro ⟨p, h1, h2, rfl⟩
    refine ⟨ho.lt p h1, fun j hj hjN he => ?_⟩
    obtain ⟨q, hq, rfl⟩ := ho.all j hjN
    rcases Nat.lt_trichotomy p q with h | h | h
    · have := kept_next ho h2 h hq
      have := cmpB_anti (g (os p)) (g (os q))
      omega
    · subst h; omega
    · have := ho.up q p h h1
      omega
  · rintro ⟨h1, h2⟩
    obtain ⟨p, hp, rfl⟩ := ho.all a h1
    refine ⟨p, hp, keep_iff.2 (fun h he => ?_), rfl⟩
    have h3 := ho.up p (p + 1) (by omega) h
    have ha := cmpB_anti (g (os p)) (g (os (p + 1)))
    exact h2 (os (p + 1)) (by omega) (ho.lt _ h) he
/- the document's way -/
def docI (g : Nat → ByteArray) (i : Nat) : List Nat → List Nat
  | [] => [i]
  | a :: l => if cmpB (g a) (g i) < 0 then a :: docI g i l else if cmpB (g a) (g i) = 0 then i :: l else i :: a :: l
def docP (g : Nat → ByteArray) : Nat → List Nat
  | 0 => []
  | i + 1 => docI g i (docP g i)
theorem docI_mem (g : Nat → ByteArray) (i x : Nat) : ∀ l, Rise g l → (x ∈ docI g i l ↔ x = i ∨ (x ∈ l ∧ cmpB (g x) (g i) ≠ 0))
  | [], _ => by simp [docI]
  | a :: l, h => by
    obtain ⟨h1, h2⟩ := List.pairwise_cons.1 h
    have ih := docI_mem g i x l h2
    unfold docI
    by_cases ha : cmpB (g a) (g i) < 0
    · rw [if_pos ha, List.mem_cons, ih, List.mem_cons]
      constructor
      · rintro (rfl | rfl | ⟨h3, h4⟩)
        · exact Or.inr ⟨Or.inl rfl, by omega⟩
        · exact Or.inl rfl
        · exact Or.inr ⟨Or.inr h3, h4⟩
      · rintro (rfl | ⟨rfl | h3, h4⟩)
        · exact Or.inr (Or.inl rfl)
        · exact Or.inl rfl
        · exact Or.inr (Or.inr ⟨h3, h4⟩)
    · have hbig : ∀ b, b ∈ l → cmpB (g b) (g i) ≠ 0 := fun b hb he => by
        have h3 := h1 b hb
        have h4 := cmpB_lt_le h3 (by omega : cmpB (g b) (g i) ≤ 0)
        exact ha h4
      rw [if_neg ha]
      by_cases h0 : cmpB (g a) (g i) = 0
      · rw [if_pos h0, List.mem_cons, List.mem_cons]
        constructor
        · rintro (rfl | h3)
          · exact Or.inl rfl
          · exact Or.inr ⟨Or.inr h3, hbig x h3⟩
        · rintro (rfl | ⟨rfl | h3, h4⟩)
          · exact Or.inl rfl
          · exact absurd h0 h4
          · exact Or.inr h3
      · rw [if_neg h0, List.mem_cons, List.mem_cons]
        constructor
        · rintro (rfl | rfl | h3)
          · exact Or.inl rfl
          · exact Or.inr ⟨Or.inl rfl, h0⟩
          · exact Or.inr ⟨Or.inr h3, hbig x h3⟩
        · rintro (rfl | ⟨rfl | h3, h4⟩)
          · exact Or.inl rfl
          · exact Or.inr (Or.inl rfl)
          · exact Or.inr (Or.inr h3)
theorem docI_rise (g : Nat → ByteArray) (i : Nat) : ∀ l, Rise g l → Rise g (docI g i l)
  | [], _ => List.pairwise_singleton _ _
  | a :: l, h => by
    obtain ⟨h1, h2⟩ := List.pairwise_cons.1 h
    have ih := docI_rise g i l h2
    unfold docI
    by_cases ha : cmpB (g a) (g i) < 0
    · rw [if_pos ha]
      refine List.pairwise_cons.2 ⟨fun b hb => ?_, ih⟩
      rcases (docI_mem g i b l h2).1 hb with rfl | ⟨h3, _⟩
      · exact ha
      · exact h1 b h3
    · have han := cmpB_anti (g a) (g i)
      rw [if_neg ha]
      by_cases h0 : cmpB (g a) (g i) = 0
      · rw [if_pos h0]
        exact List.pairwise_cons.2 ⟨fun b hb => cmpB_le_lt (by omega : cmpB (g i) (g a) ≤ 0) (h1 b hb), h2⟩
      · rw [if_neg h0]
        refine List.pairwise_cons.2 ⟨fun b hb => ?_, h⟩
        rcases List.mem_cons.1 hb with rfl | h3
        · omega
        · exact cmpB_lt_le (by omega : cmpB (g i) (g a) < 0) (by have := h1 b h3; omega)
theorem docP_both (g : Nat → ByteArray) : ∀ N, Rise g (docP g N) ∧ ∀ a, a ∈ docP g N ↔ a < N ∧ ∀ j, a < j → j < N → cmpB (g j) (g a) ≠ 0
  | 0 => ⟨List.Pairwise.nil, fun a => by simp [docP]⟩
  | N + 1 => by
    obtain ⟨h1, h2⟩ := docP_both g N
    refine ⟨docI_rise g N _ h1, fun a => ?_⟩
    show a ∈ docI g N _ ↔ _
    rw [docI_mem g N a _ h1, h2]
    constructor
    · rintro (rfl | ⟨⟨h3, h4⟩, h5⟩)
      · exact ⟨by omega, fun j hj hj2 => by omega⟩
      · refine ⟨by omega, fun j hj hj2 => ?_⟩
        rcases Nat.lt_or_ge j N with h6 | h6
        · exact h4 j hj h6
        · obtain rfl : j = N := by omega
          have := cmpB_anti (g a) (g j)
          omega
    · rintro ⟨h3, h4⟩
      rcases Nat.lt_or_ge a N with h6 | h6
      · refine Or.inr ⟨⟨h6, fun j hj hj2 => h4 j hj (by omega)⟩, ?_⟩
        have h7 := h4 N h6 (by omega)
        have := cmpB_anti (g a) (g N)
        omega
      · exact Or.inl (by omega)
theorem rise_unique (g : Nat → ByteArray) : ∀ l l' : List Nat, Rise g l → Rise g l' → (∀ a, a ∈ l ↔ a ∈ l') → l = l'
  | [], [], _, _, _ => rfl
  | [], b :: l', _, _, h => by have := (h b).2 (List.mem_cons_self); cases this
  | a :: l, [], _, _, h => by have := (h a).1 (List.mem_cons_self); cases this
  | a :: l, b :: l', h1, h2, h => by
    obtain ⟨p1, p2⟩ := List.pairwise_cons.1 h1
    obtain ⟨q1, q2⟩ := List.pairwise_cons.1 h2
    have hab : a = b := by
      rcases List.mem_cons.1 ((h a).1 List.mem_cons_self) with e | e
      · exact e
      · rcases List.mem_cons.1 ((h b).2 List.mem_cons_self) with e' | e'
        · exact e'.symm
        · have h3 := q1 a e
          have h4 := p1 b e'
          have := cmpB_anti (g a) (g b)
          omega
    subst hab
    have self : ∀ x, ¬ cmpB (g x) (g x) < 0 := fun x hx => by rw [cmpB_refl] at hx; omega
    rw [rise_unique g l l' p2 q2 (fun x => ⟨fun hx => ?_, fun hx => ?_⟩)]
    · rcases List.mem_cons.1 ((h x).1 (List.mem_cons_of_mem _ hx)) with e | e
      · subst e; exact absurd (p1 x hx) (self x)
      · exact e
    · rcases List.mem_cons.1 ((h x).2 (List.mem_cons_of_mem _ hx)) with e | e
      · subst e; exact absurd (q1 x hx) (self x)
      · exact e
theorem kept_doc (g : Nat → ByteArray) (n : Nat) : keptP g (osF g n) (n + 1) (n + 1) = docP g (n + 1) :=
  rise_unique g _ _ (kept_rise (osF_ordr g n) _ (Nat.le_refl _)) (docP_both g _).1 (fun a => by rw [kept_mem (osF_ordr g n), (docP_both g _).2])
theorem docI_len (g : Nat → ByteArray) (i : Nat) : ∀ l, (docI g i l).length ≤ l.length + 1
  | [] => Nat.le_refl _
  | a :: l => by
    have := docI_len g i l
    unfold docI
    split
    · simp; omega
    · split <;> simp
theorem docP_len (g : Nat → ByteArray) : ∀ N, (docP g N).length ≤ N
  | 0 => Nat.le_refl _
  | N + 1 => by
    have h1 := docP_len g N
    have h2 := docI_len g N (docP g N)
    show (docI g N _).length ≤ _
    omega
theorem docP_lt (g : Nat → ByteArray) (N a : Nat) (h : a ∈ docP g N) : a < N := (((docP_both g N).2 a).1 h).1
theorem docI_at (g : Nat → ByteArray) (i : Nat) : ∀ (l : List Nat) (at_ : Nat), at_ ≤ l.length → (∀ j, j < at_ → cmpB (g (l.getD j 0)) (g i) < 0) → (at_ < l.length → ¬ cmpB (g (l.getD at_ 0)) (g i) < 0) →
    docI g i l = if at_ < l.length ∧ cmpB (g (l.getD at_ 0)) (g i) = 0 then l.take at_ ++ i :: l.drop (at_ + 1) else l.take at_ ++ i :: l.drop at_
  | [], at_, h1, _, _ => by
    obtain rfl : at_ = 0 := by simpa using h1
    simp [docI]
  | a :: l, 0, _, _, h3 => by
    have h := h3 (by simp)
    simp only [List.getD_cons_zero] at h ⊢
    unfold docI
    rw [if_neg h]
    by_cases h0 : cmpB (g a) (g i) = 0
    · rw [if_pos h0, if_pos ⟨by simp, h0⟩]; simp
    · rw [if_neg h0, if_neg (fun e => h0 e.2)]; simp
  | a :: l, at_ + 1, h1, h2, h3 => by
    have ih := docI_at g i l at_ (by simpa using h1) (fun j hj => by have := h2 (j + 1) (by omega); simpa using this) (fun hl => by have := h3 (by simpa using hl); simpa using this)
    have h := h2 0 (by omega)
    simp only [List.getD_cons_zero] at h
    unfold docI
    rw [if_pos h, ih]
    simp only [List.length_cons, Nat.add_lt_add_iff_right, List.getD_cons_succ, List.take_succ_cons, List.drop_succ_cons]
    split <;> simp
end Go.Proofs.Ytjmjlijmeahmfaa
