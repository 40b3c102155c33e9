/- A value's bytes are taken again as the same value, and what is taken of bytes has just these bytes: plain facts. The order of values is one order: plain facts (turned round, one behind the other, nothing between just where the bytes are the same). Values between which there is nothing in the order are the same, and have the same bytes; others have others: plain facts. The document's bytes of a sound value (its Bytes): the program's own. Whether a text may be a name, as the document has it (its Name): the call returns what the program's does, and nothing that was there has changed. The first error of a value that stands within so many, as the document has it (its shape): where it stands too deep, and where it is not formed. The document's shape of a formed value that has no parts and no names by its kind: none. The document's shape of a formed value of kind five, with at most 32 parts: the first error of its parts. The document's shape of a formed value of kind six, with at most 32 parts: whether its names may be and rise, then the first error of its parts. The first error of a value that stands within so many, as the document has it (its shape): the program's own (sound). The document's bytes of a sound list or struct, and of any sound value. The document's order of values (Before, Same): of sound values it is that of their keys. The document's Same of two sound values: whether there is nothing between them in the order. -/
import Derived.Test.YtfcenidepkjdcaaDoorXao
import Derived.Test.YtfcenidepkjdcaaDoorXah
import Derived.Test.YtfcenidepkjdcaaDoorXaf
import Derived.Deep.CutRange
import Derived.Test.YtfcenidepkjdcaaDoorXad
import Derived.Deep.DeepCutAuto
import Derived.Test.YtfcenidepkjdcaaDoorXae
import Derived.Test.YtfcenidepkjdcaaDoorXal
import Derived.Deep.RegionHeld3
import Derived.Deep.QuietTactic
import Derived.BigQuiet
import Derived.BigGuardPart
namespace Go.Proofs.YtfcenidepkjdcaaDoor.V
open Go.RowKit
def eqvT : Tr → Tr → Prop
  | .no, _ => False
  | .mk k b n s m f q g, u => u ≠ .no ∧ u.k = k ∧ u.b = b ∧ u.n = n ∧ u.s = s ∧ u.m = m ∧ u.q = q ∧ (∀ i, i < m → eqvT (f i) (u.f i)) ∧ (∀ i, i < q → u.g i = g i)
set_option maxRecDepth 100000 in
theorem fe_congr {F G : Nat → Int} : ∀ {m : Nat}, (∀ i, i < m → F i = G i) → fe m F = fe m G
  | 0, _ => rfl
  | m + 1, h => by
    rw [fe, fe, fe_congr (m := m) (fun i hi => h i (by omega)), h m (by omega)]
set_option maxRecDepth 100000 in
theorem cat_congrE {F G : Nat → List UInt8} : ∀ {m : Nat}, (∀ i, i < m → F i = G i) → cat m F = cat m G
  | 0, _ => rfl
  | m + 1, h => by
    rw [cat, cat, cat_congrE (m := m) (fun i hi => h i (by omega)), h m (by omega)]
set_option maxRecDepth 100000 in
theorem okN_congr {g g' : Nat → ByteArray} {i : Nat} (h : ∀ j, j ≤ i → g' j = g j) : okN g' i = okN g i := by
  unfold okN
  rw [h i (Nat.le_refl _), h (i - 1) (Nat.sub_le _ _)]
set_option maxRecDepth 100000 in
theorem namedB_congr {q m : Nat} {g g' : Nat → ByteArray} (h : ∀ i, i < q → g' i = g i) : namedB q m g' = namedB q m g := by
  unfold namedB
  apply decide_eq_decide.mpr
  constructor
  · rintro ⟨h1, h2⟩
    exact ⟨h1, fun i hi => by rw [← okN_congr (fun j hj => h j (by omega))]; exact h2 i hi⟩
  · rintro ⟨h1, h2⟩
    exact ⟨h1, fun i hi => by rw [okN_congr (fun j hj => h j (by omega))]; exact h2 i hi⟩
set_option maxRecDepth 100000 in
theorem eqv_sound (t : Tr) : ∀ (u : Tr) (d : Int), eqvT t u → soundT u d = soundT t d := by
  induction t with
  | no => exact fun _ _ h => h.elim
  | mk k b n s m f q g ih =>
    intro u d h
    cases u with
    | no => exact absurd rfl h.1
    | mk k' b' n' s' m' f' q' g' =>
      obtain ⟨_, hk, hb, hn, hs, hm, hq, hf, hg⟩ := h
      obtain rfl : k' = k := hk
      obtain rfl : b' = b := hb
      obtain rfl : n' = n := hn
      obtain rfl : s' = s := hs
      obtain rfl : m' = m := hm
      obtain rfl : q' = q := hq
      rw [soundT, soundT, namedB_congr (g := g) (g' := g') hg, fe_congr (F := fun i => soundT (f' i) (d + 1)) (G := fun i => soundT (f i) (d + 1)) (fun i hi => ih i (f' i) (d + 1) (hf i hi))]
set_option maxRecDepth 100000 in
theorem eqv_small (t : Tr) : ∀ (u : Tr), eqvT t u → small t → small u := by
  induction t with
  | no => exact fun _ h => h.elim
  | mk k b n s m f q g ih =>
    intro u h hsm
    cases u with
    | no => exact absurd rfl h.1
    | mk k' b' n' s' m' f' q' g' =>
      obtain ⟨_, hk, hb, hn, hs, hm, hq, hf, hg⟩ := h
      obtain rfl : s' = s := hs
      obtain rfl : m' = m := hm
      exact ⟨hsm.1, fun i hi => ih i (f' i) (hf i hi) (hsm.2 i hi)⟩
set_option maxRecDepth 100000 in
theorem eqv_bytes (t : Tr) : ∀ (u : Tr) (d : Int), eqvT t u → soundT t d = 0 → bytesT u = bytesT t := by
  induction t with
  | no => exact fun _ _ h => h.elim
  | mk k b n s m f q g ih =>
    intro u d h h0
    have hP := soundP h0
    cases u with
    | no => exact absurd rfl h.1
    | mk k' b' n' s' m' f' q' g' =>
      obtain ⟨_, hk, hb, hn, hs, hm, hq, hf, hg⟩ := h
      obtain rfl : k' = k := hk
      obtain rfl : b' = b := hb
      obtain rfl : n' = n := hn
      obtain rfl : s' = s := hs
      obtain rfl : m' = m := hm
      obtain rfl : q' = q := hq
      have hc : cat m' (fun i => (if k' = 6 then textL (g' i) else []) ++ bytesT (f' i)) = cat m' (fun i => (if k' = 6 then textL (g i) else []) ++ bytesT (f i)) := by
        refine cat_congrE fun i hi => ?_
        rw [ih i (f' i) (d + 1) (hf i hi) (hP.ch i hi)]
        by_cases h6 : k' = 6
        · have hgi : g' i = g i := hg i (by rw [(hP.nm h6).1]; exact hi)
          rw [if_pos h6, if_pos h6, hgi]
        · rw [if_neg h6, if_neg h6]
      rw [bytesT, bytesT, hc]
set_option maxRecDepth 100000 in
theorem eqv_check {t u : Tr} (h : eqvT t u) : checkT u = checkT t := by
  unfold checkT
  rw [eqv_sound t u 1 h]
  by_cases h0 : soundT t 1 = 0
  · rw [eqv_bytes t u 1 h h0]
  · rw [if_neg h0, if_neg h0]
set_option maxRecDepth 100000 in
theorem eqv_enc {t u : Tr} (h : eqvT t u) : encT u = encT t := by
  unfold encT
  rw [eqv_check h]
  by_cases h0 : checkT t = 0
  · have h1 : soundT t 1 = 0 := by
      unfold checkT at h0
      by_cases h2 : soundT t 1 = 0
      · exact h2
      · rw [if_neg h2] at h0; exact h0
    rw [eqv_bytes t u 1 h h1]
  · rw [if_neg h0, if_neg h0]
set_option maxRecDepth 100000 in
theorem eqv_cmp (t : Tr) : ∀ (u : Tr), eqvT t u → cmpT t u = 0 := by
  induction t with
  | no => exact fun _ h => h.elim
  | mk k b n s m f q g ih =>
    intro u h
    obtain ⟨_, hk, hb, hn, hs, hm, hq, hf, hg⟩ := h
    rw [cmpT, hk, hb, hn, hs, hm, hq, if_pos rfl, cmpB_self, cmpB_self, cmpI_self, cmpI_self]
    have h : fe (min m m) (cmpF q q g u.g (fun i => cmpT (f i) (u.f i))) = 0 := fe_none _ _ (fun i hi => by
      unfold cmpF
      rw [if_neg]
      · exact ih i (u.f i) (hf i (by omega))
      · rintro ⟨h1, h2⟩
        exact h2 (by rw [hg i (by omega)]))
    rw [h, if_pos rfl]
    simp
def Hs (s : ByteArray) (o : Nat) (l : List UInt8) : Prop := ∃ r, s.data.toList.drop o = l ++ r
set_option maxRecDepth 100000 in
theorem Hs.fst {s : ByteArray} {o : Nat} {a b : List UInt8} (h : Hs s o (a ++ b)) : Hs s o a := by
  obtain ⟨r, hr⟩ := h
  exact ⟨b ++ r, by rw [hr, List.append_assoc]⟩
set_option maxRecDepth 100000 in
theorem Hs.snd {s : ByteArray} {o : Nat} {a b : List UInt8} (h : Hs s o (a ++ b)) : Hs s (o + a.length) b := by
  obtain ⟨r, hr⟩ := h
  refine ⟨r, ?_⟩
  rw [← List.drop_drop, hr, List.append_assoc, List.drop_left]
set_option maxRecDepth 100000 in
theorem Hs.le {s : ByteArray} {o : Nat} {l : List UInt8} (h : Hs s o l) (ho : o ≤ s.size) : o + l.length ≤ s.size := by
  obtain ⟨r, hr⟩ := h
  have := congrArg List.length hr
  rw [List.length_drop, List.length_append, ← Lib.size_eq] at this
  omega
set_option maxRecDepth 100000 in
theorem Hs.byte {s : ByteArray} {o : Nat} {x : UInt8} {l : List UInt8} (h : Hs s o (x :: l)) : byteAt s o = x.toNat := by
  obtain ⟨r, hr⟩ := h
  unfold byteAt
  have : s.data.toList[o]? = some x := by
    have h2 := congrArg (fun l => l[0]?) hr
    simpa using h2
  rw [List.getD_eq_getElem?_getD, this]
  rfl
set_option maxRecDepth 100000 in
theorem ext_toList (s : ByteArray) (a n : Nat) : (s.extract a (a + n)).data.toList = (s.data.toList.drop a).take n := by
  rw [ByteArray.data_extract, Array.toList_extract]
  simp [List.extract]
set_option maxRecDepth 100000 in
theorem uintA_put {s : ByteArray} {o n : Nat} (hn : n < 18446744073709551616) (h : Hs s o (put n)) : uintA s o 0 = ⟨n, o + (put n).length, 0⟩ := by
  obtain ⟨r, hr⟩ := h
  unfold uintA tkA
  rw [if_pos rfl, hr, take_put n hn r]
set_option maxRecDepth 100000 in
theorem countA_put {s : ByteArray} {o n : Nat} (hn : n ≤ 32) (h : Hs s o (put n)) : countA s o 0 32 = ⟨n, o + (put n).length, 0⟩ := by
  obtain ⟨r, hr⟩ := h
  unfold countA tkA cnt
  rw [if_pos rfl, hr, take_put n (by omega) r, if_neg]
  rintro ⟨_, h1⟩
  simp only at h1
  omega
set_option maxRecDepth 100000 in
theorem textA_put {s t : ByteArray} {o : Nat} {m : Int} (hm : (t.size : Int) ≤ m) (hm2 : m ≤ 1048576) (ho : o ≤ s.size) (h : Hs s o (textL t)) : textA s o 0 m = ⟨t, o + (textL t).length, 0⟩ := by
  have hle := h.le ho
  have hc : cnt (tkA s o) (min m 1048576) = ⟨t.size, (put t.size).length, 0⟩ := by
    obtain ⟨r, hr⟩ := h
    unfold tkA cnt
    unfold textL at hr
    rw [hr, List.append_assoc, take_put t.size (by omega), if_neg]
    rintro ⟨_, h1⟩
    simp only at h1
    omega
  have hl : (textL t).length = (put t.size).length + t.size := by unfold textL; rw [List.length_append, ← Lib.size_eq]
  have he : s.extract (o + (put t.size).length) (o + (put t.size).length + t.size) = t := by
    apply ByteArray.ext
    apply Array.toList_inj.mp
    rw [ext_toList]
    obtain ⟨r, hr⟩ := h
    rw [← List.drop_drop, hr]
    unfold textL
    rw [List.append_assoc, List.drop_left, List.take_left' (by rw [← Lib.size_eq])]
  unfold textA
  rw [if_pos rfl, hc]
  simp only
  rw [if_pos trivial, if_neg (by omega), he, hl]
  congr 1
  omega
set_option maxRecDepth 100000 in
theorem boolA_put {s : ByteArray} {o : Nat} {b : Bool} (ho : o < s.size) (h : Hs s o [if b then 1 else 0]) : boolA s o 0 = ⟨b, o + 1, 0⟩ := by
  have hb := h.byte
  unfold boolA
  rw [if_pos rfl, if_pos ho, hb]
  cases b
  · rfl
  · rfl
set_option maxRecDepth 100000 in
theorem getD_left {α : Type} {l : List α} {x d : α} {j : Nat} (h : j < l.length) : (l ++ [x]).getD j d = l.getD j d := by
  rw [List.getD_eq_getElem?_getD, List.getD_eq_getElem?_getD, List.getElem?_append_left h]
set_option maxRecDepth 100000 in
theorem getD_last {α : Type} {l : List α} {x d : α} : (l ++ [x]).getD l.length d = x := by
  rw [List.getD_eq_getElem?_getD, List.getElem?_append_right (Nat.le_refl _)]
  simp
set_option maxRecDepth 100000 in
theorem run_put {s : ByteArray} {six : Bool} {T : Nat → Int → Tak} {f : Nat → Tr} {g : Nat → ByteArray} {m o : Nat} (ho : o ≤ s.size) (hg : six = true → ∀ i, i < m → (g i).size ≤ 16)
    (hT : ∀ i, i < m → ∀ o, o ≤ s.size → Hs s o (bytesT (f i)) → ∃ u, T o 0 = ⟨u, o + (bytesT (f i)).length, 0⟩ ∧ eqvT (f i) u) :
    ∀ i, i ≤ m → Hs s o (cat m (fun i => (if six then textL (g i) else []) ++ bytesT (f i))) →
    ∃ ns ts, runA s six T ⟨[], [], o, 0⟩ i = ⟨ns, ts, o + (cat i (fun i => (if six then textL (g i) else []) ++ bytesT (f i))).length, 0⟩ ∧ ts.length = i ∧ (∀ j, j < i → eqvT (f j) (ts.getD j .no)) ∧ ns.length = (if six then i else 0) ∧ (∀ j, j < ns.length → ns.getD j ⟨#[]⟩ = g j)
  | 0, _, _ => ⟨[], [], rfl, rfl, fun j hj => absurd hj (Nat.not_lt_zero j), by split <;> rfl, fun j hj => absurd hj (Nat.not_lt_zero j)⟩
  | i + 1, hi, h => by
    obtain ⟨ns, ts, hr, hl, he, hnl, hng⟩ := run_put ho hg hT i (by omega) h
    obtain ⟨F, hF⟩ : ∃ F : Nat → List UInt8, (fun i => (if six then textL (g i) else []) ++ bytesT (f i)) = F := ⟨_, rfl⟩
    rw [hF] at hr h ⊢
    have hFi : F i = (if six then textL (g i) else []) ++ bytesT (f i) := by rw [← hF]
    obtain ⟨y, hy⟩ := cat_more F (i := i + 1) (m := m) hi
    have hcs : cat (i + 1) F = cat i F ++ F i := rfl
    rw [hy] at h
    have h1 := h.fst
    rw [hcs] at h1
    have h2 := h1.snd
    have hle := h1.fst.le ho
    rw [runA, hr]
    unfold stepA
    cases six with
    | false =>
      have hFi2 : F i = bytesT (f i) := by rw [hFi]; simp
      rw [hFi2] at h2
      obtain ⟨u, hu, heq⟩ := hT i (by omega) _ hle h2
      refine ⟨ns, ts ++ [u], ?_, by simp [hl], fun j hj => ?_, hnl, hng⟩
      · unfold nameA
        simp only [Bool.false_eq_true, if_false]
        rw [hu, hcs, List.length_append, hFi2, Nat.add_assoc]
      · rcases Nat.lt_or_ge j i with k | k
        · rw [getD_left (by omega)]; exact he j k
        · obtain rfl : j = ts.length := by omega
          rw [getD_last, hl]
          exact heq
    | true =>
      have hFi2 : F i = textL (g i) ++ bytesT (f i) := by rw [hFi]; simp
      rw [hFi2] at h2
      have hgs := hg rfl i (by omega)
      have htx := textA_put (m := 16) (by omega) (by decide) hle h2.fst
      obtain ⟨u, hu, heq⟩ := hT i (by omega) _ (h2.fst.le hle) h2.snd
      simp only [if_true] at hnl
      refine ⟨ns ++ [g i], ts ++ [u], ?_, by simp [hl], fun j hj => ?_, by simp [hnl], fun j hj => ?_⟩
      · unfold nameA
        simp only [if_true]
        rw [htx]
        simp only
        rw [hu, hcs, List.length_append, hFi2, List.length_append]
        simp only [Nat.add_assoc]
      · rcases Nat.lt_or_ge j i with k | k
        · rw [getD_left (by omega)]; exact he j k
        · obtain rfl : j = ts.length := by omega
          rw [getD_last, hl]
          exact heq
      · rcases Nat.lt_or_ge j ns.length with k | k
        · rw [getD_left k]; exact hng j k
        · obtain rfl : j = ns.length := by simp at hj; omega
          rw [getD_last, hnl]
set_option maxRecDepth 100000 in
theorem take_bytes {B : Nat} {w : World} {s : ByteArray} (hs : s.size ≤ 1024) (t : Tr) : ∀ (D : Nat) (d : Int) (o : Nat) (x : Ad), Lies B w t x → d = 9 - (D : Int) → soundT t d = 0 → o ≤ s.size → Hs s o (bytesT t) →
    ∃ u, takeA s D o 0 = ⟨u, o + (bytesT t).length, 0⟩ ∧ eqvT t u := by
  induction t with
  | no => exact fun _ _ _ _ hL => hL.no.elim
  | mk k b n tx m f q g ih =>
    intro D d o x hL hd h0 ho h
    obtain ⟨d8, fm, k0, k6, m32, nm, ch⟩ := soundP h0
    obtain ⟨A, _, hr⟩ := hL.part
    have hn : -9223372036854775808 ≤ n ∧ n < 9223372036854775808 := hL.lims.2.1
    cases D with
    | zero => omega
    | succ D =>
      have hlen := h.le ho
      obtain ⟨R, hR⟩ : ∃ R, bytesT (.mk k b n tx m f q g) = UInt8.ofNat k.toNat :: R := ⟨_, by rw [bytesT]⟩
      have hR2 := hR
      rw [bytesT] at hR2
      replace hR2 := (List.cons.inj hR2).2
      rw [hR] at h hlen ⊢
      have hby := h.byte
      rw [toNat_ofNat_lt (by omega)] at hby
      have h2 : Hs s (o + 1) R := h.snd (a := [UInt8.ofNat k.toNat])
      have ho1 : o < s.size := by simp at hlen; omega
      have ho2 : o + 1 ≤ s.size := by omega
      rw [takeA, if_pos rfl, if_pos ho1, hby]
      unfold formedB at fm
      simp only [Bool.and_eq_true, Bool.or_eq_true, decide_eq_true_eq, Bool.not_eq_true'] at fm
      have hemp : tx.toList.isEmpty = true → tx = ⟨#[]⟩ := by
        intro he
        rw [empty_size] at he
        have := of_decide_eq_true he
        apply ByteArray.ext
        apply Array.toList_inj.mp
        rw [Lib.size_eq] at this
        exact List.length_eq_zero_iff.mp this
      have hk7 : k = 0 ∨ k = 1 ∨ k = 2 ∨ k = 3 ∨ k = 4 ∨ k = 5 ∨ k = 6 := by omega
      rcases hk7 with rfl | rfl | rfl | rfl | rfl | rfl | rfl
      · simp at fm
        obtain ⟨⟨⟨⟨rfl, rfl⟩, h3⟩, rfl⟩, rfl⟩ := fm
        obtain rfl : tx = ⟨#[]⟩ := hemp (by simpa using h3)
        simp at hR2
        subst hR2
        exact ⟨leafT 0 false 0 ⟨#[]⟩, rfl, ⟨by simp [leafT], rfl, rfl, rfl, rfl, rfl, rfl, fun i hi => absurd hi (Nat.not_lt_zero i), fun i hi => absurd hi (Nat.not_lt_zero i)⟩⟩
      · simp at fm
        obtain ⟨⟨⟨rfl, h3⟩, rfl⟩, rfl⟩ := fm
        obtain rfl : tx = ⟨#[]⟩ := hemp (by simpa using h3)
        simp at hR2
        subst hR2
        have hB := boolA_put (b := b) (by have := h2.le ho2; simp at this; omega) h2
        refine ⟨leafT 1 b 0 ⟨#[]⟩, ?_, ⟨by simp [leafT], rfl, rfl, rfl, rfl, rfl, rfl, fun i hi => absurd hi (Nat.not_lt_zero i), fun i hi => absurd hi (Nat.not_lt_zero i)⟩⟩
        show nodeA s 1 (o + 1) (takeA s D) = _
        unfold nodeA
        rw [if_neg (by decide), if_pos rfl, hB]
        rfl
      · simp at fm
        obtain ⟨⟨⟨rfl, h3⟩, rfl⟩, rfl⟩ := fm
        obtain rfl : tx = ⟨#[]⟩ := hemp (by simpa using h3)
        simp at hR2
        subst hR2
        have hB := uintA_put (zig_lt hn.1 hn.2) h2
        refine ⟨leafT 2 false n ⟨#[]⟩, ?_, ⟨by simp [leafT], rfl, rfl, rfl, rfl, rfl, rfl, fun i hi => absurd hi (Nat.not_lt_zero i), fun i hi => absurd hi (Nat.not_lt_zero i)⟩⟩
        show nodeA s 2 (o + 1) (takeA s D) = _
        unfold nodeA
        rw [if_neg (by decide), if_neg (by decide), if_pos rfl, hB]
        simp only [zag_zig, List.length_cons]
        congr 1
        omega
      · simp at fm
        obtain ⟨⟨⟨rfl, rfl⟩, rfl⟩, rfl⟩ := fm
        simp at hR2
        subst hR2
        have hle2 := h2.le ho2
        have hl : (textL tx).length = (put tx.size).length + tx.size := by unfold textL; rw [List.length_append, ← Lib.size_eq]
        have hB := textA_put (m := 1024) (by omega) (by decide) ho2 h2
        refine ⟨leafT 3 false 0 tx, ?_, ⟨by simp [leafT], rfl, rfl, rfl, rfl, rfl, rfl, fun i hi => absurd hi (Nat.not_lt_zero i), fun i hi => absurd hi (Nat.not_lt_zero i)⟩⟩
        show nodeA s 3 (o + 1) (takeA s D) = _
        unfold nodeA
        rw [if_neg (by decide), if_neg (by decide), if_neg (by decide), if_pos (Or.inl rfl), hB]
        simp only [List.length_cons]
        congr 1
        omega
      · simp at fm
        obtain ⟨⟨⟨rfl, rfl⟩, rfl⟩, rfl⟩ := fm
        simp at hR2
        subst hR2
        have hle2 := h2.le ho2
        have hl : (textL tx).length = (put tx.size).length + tx.size := by unfold textL; rw [List.length_append, ← Lib.size_eq]
        have hB := textA_put (m := 1024) (by omega) (by decide) ho2 h2
        refine ⟨leafT 4 false 0 tx, ?_, ⟨by simp [leafT], rfl, rfl, rfl, rfl, rfl, rfl, fun i hi => absurd hi (Nat.not_lt_zero i), fun i hi => absurd hi (Nat.not_lt_zero i)⟩⟩
        show nodeA s 4 (o + 1) (takeA s D) = _
        unfold nodeA
        rw [if_neg (by decide), if_neg (by decide), if_neg (by decide), if_pos (Or.inr rfl), hB]
        simp only [List.length_cons]
        congr 1
        omega
      · simp at fm
        obtain ⟨⟨⟨rfl, rfl⟩, h3⟩, rfl⟩ := fm
        obtain rfl : tx = ⟨#[]⟩ := hemp (by simpa using h3)
        have hR3 : R = put m ++ cat m (fun i => (if false = true then textL (g i) else []) ++ bytesT (f i)) := by rw [← hR2]; simp
        clear hR2
        subst hR3
        have hcn := countA_put m32 h2.fst
        obtain ⟨ns, ts, hrun, hl, he, hnl, hng⟩ := run_put (s := s) (six := false) (T := takeA s D) (f := f) (g := g) (m := m) (o := o + 1 + (put m).length) (h2.fst.le ho2) (fun hh => by cases hh) (fun i hi o' ho' hh => ih i D (d + 1) o' (A i) (hr i hi) (by omega) (ch i hi) ho' hh) m (Nat.le_refl _) h2.snd
        have hns : ns = [] := List.length_eq_zero_iff.mp hnl
        subst hns
        refine ⟨nodeT 5 ⟨[], ts, o + 1 + (put m).length + (cat m (fun i => (if false = true then textL (g i) else []) ++ bytesT (f i))).length, 0⟩, ?_, ⟨by simp [nodeT], rfl, rfl, rfl, rfl, hl, rfl, he, fun i hi => absurd hi (Nat.not_lt_zero i)⟩⟩
        show nodeA s 5 (o + 1) (takeA s D) = _
        unfold nodeA
        rw [if_neg (by decide), if_neg (by decide), if_neg (by decide), if_neg (by decide), if_pos (Or.inl rfl), hcn]
        simp only [show ((5 : Nat) == 6) = false from rfl]
        rw [hrun]
        simp only [List.length_cons, List.length_append]
        congr 1
        omega
      · simp at fm
        obtain ⟨⟨rfl, rfl⟩, h3⟩ := fm
        obtain rfl : tx = ⟨#[]⟩ := hemp (by simpa using h3)
        obtain ⟨hqm, hok⟩ := nm rfl
        have hR3 : R = put m ++ cat m (fun i => (if true = true then textL (g i) else []) ++ bytesT (f i)) := by rw [← hR2]; simp
        clear hR2
        subst hR3
        have hcn := countA_put m32 h2.fst
        obtain ⟨ns, ts, hrun, hl, he, hnl, hng⟩ := run_put (s := s) (six := true) (T := takeA s D) (f := f) (g := g) (m := m) (o := o + 1 + (put m).length) (h2.fst.le ho2) (fun _ i hi => okN_size (hok i (by omega))) (fun i hi o' ho' hh => ih i D (d + 1) o' (A i) (hr i hi) (by omega) (ch i hi) ho' hh) m (Nat.le_refl _) h2.snd
        simp only [if_true] at hnl
        refine ⟨nodeT 6 ⟨ns, ts, o + 1 + (put m).length + (cat m (fun i => (if true = true then textL (g i) else []) ++ bytesT (f i))).length, 0⟩, ?_, ⟨by simp [nodeT], rfl, rfl, rfl, rfl, hl, by show ns.length = q; omega, he, fun i hi => hng i (by omega)⟩⟩
        show nodeA s 6 (o + 1) (takeA s D) = _
        unfold nodeA
        rw [if_neg (by decide), if_neg (by decide), if_neg (by decide), if_neg (by decide), if_pos (Or.inr rfl), hcn]
        simp only [show ((6 : Nat) == 6) = true from rfl]
        rw [hrun]
        simp only [List.length_cons, List.length_append]
        congr 1
        omega
set_option maxRecDepth 100000 in
theorem dec_enc {B : Nat} {w : World} {t : Tr} {x : Ad} (hL : Lies B w t x) (h : checkT t = 0) :
    (encT t).size ≤ 1024 ∧ decE (encT t) = 0 ∧ eqvT t (takeA (encT t) 8 0 0).t := by
  have h1 : soundT t 1 = 0 := by
    unfold checkT at h
    by_cases h2 : soundT t 1 = 0
    · exact h2
    · rw [if_neg h2] at h; exact absurd h h2
  have h2 : (bytesT t).length ≤ 1024 := by
    unfold checkT at h
    rw [if_pos h1] at h
    by_cases h3 : 1024 < (bytesT t).length
    · rw [if_pos h3] at h; cases h
    · omega
  have he : encT t = ⟨(bytesT t).toArray⟩ := by unfold encT; rw [if_pos h]
  have hsz : (encT t).size = (bytesT t).length := by rw [he]; exact List.size_toArray
  obtain ⟨u, hu, heq⟩ := take_bytes (s := encT t) (by omega) t 8 1 0 x hL (by decide) h1 (Nat.zero_le _) ⟨[], by rw [he]; simp⟩
  refine ⟨by omega, ?_, by rw [hu]; exact heq⟩
  have hend : endE (encT t) (takeA (encT t) 8 0 0) = 0 := by
    unfold endE
    rw [hu]
    simp only
    rw [if_pos trivial, if_neg (by omega)]
  unfold decE
  rw [if_pos hend, hu]
  exact (eqv_check heq).trans h
end Go.Proofs.YtfcenidepkjdcaaDoor.V
namespace Go.Proofs.YtfcenidepkjdcaaDoor.V
open Go.RowKit
def tri (x y z : Int) : Prop := x ≤ 0 → y ≤ 0 → (x = 0 ∧ y = 0 → z = 0) ∧ (x < 0 ∨ y < 0 → z < 0)
set_option maxRecDepth 100000 in
theorem tri_cmpI (a b c : Int) : tri (cmpI a b) (cmpI b c) (cmpI a c) := by
  unfold tri cmpI
  repeat' split
  all_goals omega
set_option maxRecDepth 100000 in
theorem tri_cmpL : ∀ a b c : List UInt8, tri (Lib.compareBytes a b) (Lib.compareBytes b c) (Lib.compareBytes a c)
  | [], [], [] => by show tri 0 0 0; unfold tri; omega
  | [], [], _ :: _ => by show tri 0 (-1) (-1); unfold tri; omega
  | [], _ :: _, [] => by show tri (-1) 1 0; unfold tri; omega
  | [], _ :: _, _ :: _ => by show tri (-1) _ (-1); unfold tri; omega
  | _ :: _, [], _ => by show tri 1 _ _; unfold tri; omega
  | _ :: _, _ :: _, [] => by show tri _ 1 1; unfold tri; omega
  | a :: xs, b :: ys, c :: zs => by
    have ih := tri_cmpL xs ys zs
    unfold tri at ih ⊢
    rw [Lib.compareBytes, Lib.compareBytes, Lib.compareBytes]
    have lt (x y : UInt8) : x < y ↔ x.toNat < y.toNat := UInt8.lt_iff_toNat_lt
    simp only [lt]
    repeat' split
    all_goals (try omega)
set_option maxRecDepth 100000 in
theorem anti_cmpI (a b : Int) : cmpI b a = - cmpI a b := by
  unfold cmpI
  repeat' split
  all_goals omega
set_option maxRecDepth 100000 in
theorem anti_cmpL : ∀ a b : List UInt8, Lib.compareBytes b a = - Lib.compareBytes a b
  | [], [] => by decide
  | [], _ :: _ => by rfl
  | _ :: _, [] => by rfl
  | a :: xs, b :: ys => by
    have ih := anti_cmpL xs ys
    rw [Lib.compareBytes, Lib.compareBytes]
    have lt (x y : UInt8) : x < y ↔ x.toNat < y.toNat := UInt8.lt_iff_toNat_lt
    simp only [lt]
    repeat' split
    all_goals omega
set_option maxRecDepth 100000 in
theorem fe_cases (F : Nat → Int) : ∀ m, (fe m F = 0 ∧ ∀ i, i < m → F i = 0) ∨ ∃ i, i < m ∧ F i ≠ 0 ∧ (∀ j, j < i → F j = 0) ∧ fe m F = F i
  | 0 => Or.inl ⟨rfl, fun i hi => absurd hi (Nat.not_lt_zero i)⟩
  | m + 1 => by
    rcases fe_cases F m with ⟨h1, h2⟩ | ⟨i, h1, h2, h3, h4⟩
    · by_cases h0 : F m = 0
      · left
        refine ⟨by rw [fe, if_pos h1, h0], fun i hi => ?_⟩
        rcases Nat.lt_or_ge i m with k | k
        · exact h2 i k
        · obtain rfl : i = m := by omega
          exact h0
      · right
        exact ⟨m, Nat.lt_succ_self m, h0, h2, by rw [fe, if_pos h1]⟩
    · right
      exact ⟨i, by omega, h2, h3, by rw [fe, if_neg (by rw [h4]; exact h2), h4]⟩
def lexI (m m' : Nat) (F : Nat → Int) : Int := if fe (min m m') F = 0 then cmpI m m' else fe (min m m') F
set_option maxRecDepth 100000 in
theorem lex_cases (m m' : Nat) (F : Nat → Int) : (lexI m m' F = cmpI m m' ∧ ∀ i, i < min m m' → F i = 0) ∨ ∃ i, i < min m m' ∧ F i ≠ 0 ∧ (∀ j, j < i → F j = 0) ∧ lexI m m' F = F i := by
  unfold lexI
  rcases fe_cases F (min m m') with ⟨h1, h2⟩ | ⟨i, h1, h2, h3, h4⟩
  · exact Or.inl ⟨by rw [if_pos h1], h2⟩
  · exact Or.inr ⟨i, h1, h2, h3, by rw [if_neg (by rw [h4]; exact h2), h4]⟩
set_option maxRecDepth 100000 in
theorem lex_all {m m' : Nat} {F : Nat → Int} (h : ∀ i, i < min m m' → F i = 0) : lexI m m' F = cmpI m m' := by
  unfold lexI
  rw [if_pos (fe_none _ _ h)]
set_option maxRecDepth 100000 in
theorem lex_at {m m' : Nat} {F : Nat → Int} {k : Nat} (hk : k < min m m') (h0 : ∀ j, j < k → F j = 0) (h : F k ≠ 0) : lexI m m' F = F k := by
  rcases lex_cases m m' F with ⟨_, h2⟩ | ⟨i, h1, h2, h3, h4⟩
  · exact absurd (h2 k hk) h
  · rcases Nat.lt_trichotomy i k with c | c | c
    · exact absurd (h0 i c) h2
    · rw [← c]; exact h4
    · exact absurd (h3 k c) h
set_option maxRecDepth 100000 in
theorem cmpI_le {m m' : Nat} (h : cmpI m m' ≤ 0) : m ≤ m' := by
  unfold cmpI at h
  by_cases h1 : (m : Int) < m'
  · omega
  · rw [if_neg h1] at h
    by_cases h2 : (m' : Int) < m
    · rw [if_pos h2] at h; omega
    · omega
set_option maxRecDepth 100000 in
theorem cmpI_lt {m m' : Nat} (h : m < m') : cmpI m m' < 0 := by
  unfold cmpI
  rw [if_pos (by omega)]
  decide
set_option maxRecDepth 100000 in
theorem tri_lex {m1 m2 m3 : Nat} {F12 F23 F13 : Nat → Int} (h : ∀ i, i < m1 → i < m2 → i < m3 → tri (F12 i) (F23 i) (F13 i)) : tri (lexI m1 m2 F12) (lexI m2 m3 F23) (lexI m1 m3 F13) := by
  intro hx hy
  rcases lex_cases m1 m2 F12 with ⟨e1, z1⟩ | ⟨i, i1, i2, i3, i4⟩
  · rw [e1] at hx ⊢
    have l1 := cmpI_le hx
    rcases lex_cases m2 m3 F23 with ⟨e2, z2⟩ | ⟨j, j1, j2, j3, j4⟩
    · rw [e2] at hy ⊢
      have l2 := cmpI_le hy
      have hz : ∀ i, i < min m1 m3 → F13 i = 0 := fun i hi => ((h i (by omega) (by omega) (by omega)) (by rw [z1 i (by omega)]; decide) (by rw [z2 i (by omega)]; decide)).1 ⟨z1 i (by omega), z2 i (by omega)⟩
      rw [lex_all hz]
      exact tri_cmpI m1 m2 m3 hx hy
    · rw [j4] at hy ⊢
      have hlt : F23 j < 0 := by omega
      have hz : ∀ i, i < j → i < m1 → F13 i = 0 := fun i hi h1 => ((h i h1 (by omega) (by omega)) (by rw [z1 i (by omega)]; decide) (by rw [j3 i hi]; decide)).1 ⟨z1 i (by omega), j3 i hi⟩
      refine ⟨fun hh => absurd hh.2 j2, fun _ => ?_⟩
      by_cases hj : j < m1
      · have hneg := ((h j hj (by omega) (by omega)) (by rw [z1 j (by omega)]; decide) (by omega)).2 (Or.inr hlt)
        rw [lex_at (k := j) (by omega) (fun i hi => hz i hi (by omega)) (by omega)]
        exact hneg
      · rw [lex_all (fun i hi => hz i (by omega) (by omega))]
        exact cmpI_lt (by omega)
  · rw [i4] at hx ⊢
    have hlt : F12 i < 0 := by omega
    rcases lex_cases m2 m3 F23 with ⟨e2, z2⟩ | ⟨j, j1, j2, j3, j4⟩
    · rw [e2] at hy ⊢
      have l2 := cmpI_le hy
      have hz : ∀ k, k < i → F13 k = 0 := fun k hk => ((h k (by omega) (by omega) (by omega)) (by rw [i3 k hk]; decide) (by rw [z2 k (by omega)]; decide)).1 ⟨i3 k hk, z2 k (by omega)⟩
      have hneg := ((h i (by omega) (by omega) (by omega)) (by omega) (by rw [z2 i (by omega)]; decide)).2 (Or.inl hlt)
      refine ⟨fun hh => absurd hh.1 i2, fun _ => ?_⟩
      rw [lex_at (k := i) (by omega) hz (by omega)]
      exact hneg
    · rw [j4] at hy ⊢
      have hlt2 : F23 j < 0 := by omega
      refine ⟨fun hh => absurd hh.1 i2, fun _ => ?_⟩
      rcases Nat.lt_trichotomy i j with c | c | c
      · have hz : ∀ k, k < i → F13 k = 0 := fun k hk => ((h k (by omega) (by omega) (by omega)) (by rw [i3 k hk]; decide) (by rw [j3 k (by omega)]; decide)).1 ⟨i3 k hk, j3 k (by omega)⟩
        have hneg := ((h i (by omega) (by omega) (by omega)) (by omega) (by rw [j3 i c]; decide)).2 (Or.inl hlt)
        rw [lex_at (k := i) (by omega) hz (by omega)]
        exact hneg
      · subst c
        have hz : ∀ k, k < i → F13 k = 0 := fun k hk => ((h k (by omega) (by omega) (by omega)) (by rw [i3 k hk]; decide) (by rw [j3 k (by omega)]; decide)).1 ⟨i3 k hk, j3 k (by omega)⟩
        have hneg := ((h i (by omega) (by omega) (by omega)) (by omega) (by omega)).2 (Or.inl hlt)
        rw [lex_at (k := i) (by omega) hz (by omega)]
        exact hneg
      · have hz : ∀ k, k < j → F13 k = 0 := fun k hk => ((h k (by omega) (by omega) (by omega)) (by rw [i3 k (by omega)]; decide) (by rw [j3 k hk]; decide)).1 ⟨i3 k (by omega), j3 k hk⟩
        have hneg := ((h j (by omega) (by omega) (by omega)) (by rw [i3 j c]; decide) (by omega)).2 (Or.inr hlt2)
        rw [lex_at (k := j) (by omega) hz (by omega)]
        exact hneg
def real : Tr → Prop
  | .no => False
  | .mk _ _ _ _ m f _ _ => ∀ i, i < m → real (f i)
set_option maxRecDepth 100000 in
theorem Lies.real {B : Nat} {w : World} (t : Tr) : ∀ {x : Ad}, Lies B w t x → real t := by
  induction t with
  | no => exact fun h => h.no.elim
  | mk k b n s m f q g ih =>
    intro x h
    obtain ⟨A, _, hr⟩ := h.part
    exact fun i hi => ih i (hr i hi)
set_option maxRecDepth 100000 in
theorem real.mk {t : Tr} (h : real t) : ∃ k b n s m f q g, t = .mk k b n s m f q g := by
  cases t with
  | no => exact h.elim
  | mk k b n s m f q g => exact ⟨k, b, n, s, m, f, q, g, rfl⟩
set_option maxRecDepth 100000 in
theorem fe_neg (F G : Nat → Int) (h : ∀ i, G i = - F i) : ∀ m, fe m G = - fe m F
  | 0 => rfl
  | m + 1 => by
    rw [fe, fe, fe_neg F G h m, h m]
    by_cases h0 : fe m F = 0
    · rw [if_pos (by omega), if_pos h0]
    · rw [if_neg (by omega), if_neg h0]
set_option maxRecDepth 100000 in
theorem fe_negL {F G : Nat → Int} : ∀ {m : Nat}, (∀ i, i < m → G i = - F i) → fe m G = - fe m F
  | 0, _ => rfl
  | m + 1, h => by
    rw [fe, fe, fe_negL (m := m) (fun i hi => h i (by omega)), h m (by omega)]
    by_cases h0 : fe m F = 0
    · rw [if_pos (by omega), if_pos h0]
    · rw [if_neg (by omega), if_neg h0]
set_option maxRecDepth 100000 in
theorem cmpF_anti {q uq : Nat} {g ug : Nat → ByteArray} {C D : Nat → Int} {i : Nat} (h : D i = - C i) : cmpF uq q ug g D i = - cmpF q uq g ug C i := by
  unfold cmpF
  by_cases h1 : i < min q uq ∧ (g i).data.toList ≠ (ug i).data.toList
  · rw [if_pos h1, if_pos ⟨by omega, fun e => h1.2 e.symm⟩]
    exact anti_cmpL _ _
  · rw [if_neg h1, if_neg (fun hh => h1 ⟨by omega, fun e => hh.2 e.symm⟩), h]
set_option maxRecDepth 100000 in
theorem anti_cmpT (t : Tr) : ∀ u, real t → real u → cmpT u t = - cmpT t u := by
  induction t with
  | no => exact fun _ h => h.elim
  | mk k b n s m f q g ih =>
    intro u ht hu
    obtain ⟨k', b', n', s', m', f', q', g', rfl⟩ := hu.mk
    rw [cmpT, cmpT]
    show (if k' = k then _ else cmpI k' k) = - (if k = k' then _ else cmpI k k')
    by_cases hk : k = k'
    · subst hk
      rw [if_pos rfl, if_pos rfl]
      by_cases k1 : k = 1
      · rw [if_pos k1, if_pos k1]; exact anti_cmpL _ _
      rw [if_neg k1, if_neg k1]
      by_cases k2 : k = 2
      · rw [if_pos k2, if_pos k2]; exact anti_cmpI _ _
      rw [if_neg k2, if_neg k2]
      by_cases k3 : k = 3 ∨ k = 4
      · rw [if_pos k3, if_pos k3]; exact anti_cmpL _ _
      rw [if_neg k3, if_neg k3]
      by_cases k5 : k = 5 ∨ k = 6
      · rw [if_pos k5, if_pos k5]
        have hfe : fe (min m' m) (cmpF q' q g' g (fun i => cmpT (f' i) (f i))) = - fe (min m m') (cmpF q q' g g' (fun i => cmpT (f i) (f' i))) := by
          rw [Nat.min_comm]
          exact fe_negL (fun i hi => cmpF_anti (ih i (f' i) (ht i (by omega)) (hu i (by omega))))
        show (if fe (min m' m) (cmpF q' q g' g (fun i => cmpT (f' i) (f i))) = 0 then cmpI m' m else fe (min m' m) (cmpF q' q g' g (fun i => cmpT (f' i) (f i)))) = - (if fe (min m m') (cmpF q q' g g' (fun i => cmpT (f i) (f' i))) = 0 then cmpI m m' else fe (min m m') (cmpF q q' g g' (fun i => cmpT (f i) (f' i))))
        rw [hfe]
        by_cases h0 : fe (min m m') (cmpF q q' g g' (fun i => cmpT (f i) (f' i))) = 0
        · rw [if_pos (by omega), if_pos h0]; exact anti_cmpI _ _
        · rw [if_neg (by omega), if_neg h0]
      · rw [if_neg k5, if_neg k5]; rfl
    · rw [if_neg (fun e => hk e.symm), if_neg hk]
      exact anti_cmpI _ _
set_option maxRecDepth 100000 in
theorem tri_cmpF {qa qb qc : Nat} {ga gb gc : Nat → ByteArray} {C12 C23 C13 : Nat → Int} {i : Nat} (hC : tri (C12 i) (C23 i) (C13 i)) (hq : (qa = 0 ∧ qb = 0 ∧ qc = 0) ∨ (i < qa ∧ i < qb ∧ i < qc)) :
    tri (cmpF qa qb ga gb C12 i) (cmpF qb qc gb gc C23 i) (cmpF qa qc ga gc C13 i) := by
  rcases hq with ⟨rfl, rfl, rfl⟩ | ⟨h1, h2, h3⟩
  · unfold cmpF
    rw [if_neg (by omega), if_neg (by omega), if_neg (by omega)]
    exact hC
  · unfold cmpF
    have e12 : i < min qa qb := by omega
    have e23 : i < min qb qc := by omega
    have e13 : i < min qa qc := by omega
    by_cases n12 : (ga i).data.toList = (gb i).data.toList
    · rw [if_neg (fun h => h.2 n12)]
      by_cases n23 : (gb i).data.toList = (gc i).data.toList
      · rw [if_neg (fun h => h.2 n23), if_neg (fun h => h.2 (n12.trans n23))]
        exact hC
      · rw [if_pos ⟨e23, n23⟩, if_pos ⟨e13, fun h => n23 (n12.symm.trans h)⟩]
        intro _ hy
        have hne : cmpB (gb i) (gc i) ≠ 0 := fun h => n23 (cmpL_zero h)
        have he : cmpB (ga i) (gc i) = cmpB (gb i) (gc i) := by unfold cmpB; rw [n12]
        rw [he]
        exact ⟨fun h => absurd h.2 hne, fun _ => by omega⟩
    · rw [if_pos ⟨e12, n12⟩]
      have hne1 : cmpB (ga i) (gb i) ≠ 0 := fun h => n12 (cmpL_zero h)
      by_cases n23 : (gb i).data.toList = (gc i).data.toList
      · rw [if_neg (fun h => h.2 n23), if_pos ⟨e13, fun h => n12 (h.trans n23.symm)⟩]
        intro hx _
        have he : cmpB (ga i) (gc i) = cmpB (ga i) (gb i) := by unfold cmpB; rw [n23]
        rw [he]
        exact ⟨fun h => absurd h.1 hne1, fun _ => by omega⟩
      · rw [if_pos ⟨e23, n23⟩]
        intro hx hy
        have hne2 : cmpB (gb i) (gc i) ≠ 0 := fun h => n23 (cmpL_zero h)
        have ht := (tri_cmpL (ga i).data.toList (gb i).data.toList (gc i).data.toList hx hy).2 (Or.inl (by show cmpB (ga i) (gb i) < 0; omega))
        have n13 : (ga i).data.toList ≠ (gc i).data.toList := fun e => by rw [e, cmpL_self] at ht; exact absurd ht (by decide)
        rw [if_pos ⟨e13, n13⟩]
        exact ⟨fun h => absurd h.1 hne1, fun _ => ht⟩
set_option maxRecDepth 100000 in
theorem formed5 {b : Bool} {n : Int} {s : ByteArray} {m q : Nat} (h : formedB 5 b n s m q = true) : q = 0 := by
  unfold formedB at h
  simp only [Bool.and_eq_true, Bool.or_eq_true, decide_eq_true_eq] at h
  omega
set_option maxRecDepth 100000 in
theorem tri_cmpT (t : Tr) : ∀ u v (d1 d2 d3 : Int), real t → real u → real v → soundT t d1 = 0 → soundT u d2 = 0 → soundT v d3 = 0 → tri (cmpT t u) (cmpT u v) (cmpT t v) := by
  induction t with
  | no => exact fun _ _ _ _ _ h => h.elim
  | mk k b n s m f q g ih =>
    intro u v d1 d2 d3 ht hu hv s1 s2 s3
    obtain ⟨k', b', n', s', m', f', q', g', rfl⟩ := hu.mk
    obtain ⟨k2, b2, n2, s2', m2, f2, q2, g2, rfl⟩ := hv.mk
    have P1 := soundP s1
    have P2 := soundP s2
    have P3 := soundP s3
    rw [cmpT, cmpT, cmpT]
    show tri (if k = k' then _ else cmpI k k') (if k' = k2 then _ else cmpI k' k2) (if k = k2 then _ else cmpI k k2)
    by_cases h12 : k = k'
    · subst h12
      rw [if_pos rfl]
      by_cases h23 : k = k2
      · subst h23
        rw [if_pos rfl, if_pos rfl]
        by_cases k1 : k = 1
        · rw [if_pos k1, if_pos k1, if_pos k1]; exact tri_cmpL _ _ _
        rw [if_neg k1, if_neg k1, if_neg k1]
        by_cases k2 : k = 2
        · rw [if_pos k2, if_pos k2, if_pos k2]; exact tri_cmpI _ _ _
        rw [if_neg k2, if_neg k2, if_neg k2]
        by_cases k3 : k = 3 ∨ k = 4
        · rw [if_pos k3, if_pos k3, if_pos k3]; exact tri_cmpL _ _ _
        rw [if_neg k3, if_neg k3, if_neg k3]
        by_cases k5 : k = 5 ∨ k = 6
        · rw [if_pos k5, if_pos k5, if_pos k5]
          refine tri_lex (m1 := m) (m2 := m') (m3 := m2) (F12 := cmpF q q' g g' (fun i => cmpT (f i) (f' i))) (F23 := cmpF q' q2 g' g2 (fun i => cmpT (f' i) (f2 i))) (F13 := cmpF q q2 g g2 (fun i => cmpT (f i) (f2 i))) (fun i i1 i2 i3 => ?_)
          refine tri_cmpF (ih i (f' i) (f2 i) (d1 + 1) (d2 + 1) (d3 + 1) (ht i i1) (hu i i2) (hv i i3) (P1.ch i i1) (P2.ch i i2) (P3.ch i i3)) ?_
          rcases k5 with rfl | rfl
          · exact Or.inl ⟨formed5 P1.fm, formed5 P2.fm, formed5 P3.fm⟩
          · exact Or.inr ⟨by rw [(P1.nm rfl).1]; exact i1, by rw [(P2.nm rfl).1]; exact i2, by rw [(P3.nm rfl).1]; exact i3⟩
        · rw [if_neg k5, if_neg k5, if_neg k5]
          intro _ _
          exact ⟨fun _ => rfl, fun h => by rcases h with h | h <;> exact absurd h (by decide)⟩
      · rw [if_neg h23, if_neg h23]
        intro _ hy
        have hne : cmpI k k2 ≠ 0 := by unfold cmpI; repeat' split <;> omega
        exact ⟨fun h => absurd h.2 hne, fun _ => by omega⟩
    · rw [if_neg h12]
      have hne : cmpI k k' ≠ 0 := by unfold cmpI; repeat' split <;> omega
      by_cases h23 : k' = k2
      · subst h23
        rw [if_pos rfl, if_neg h12]
        intro hx _
        exact ⟨fun h => absurd h.1 hne, fun _ => by omega⟩
      · rw [if_neg h23]
        intro hx hy
        have ht := (tri_cmpI k k' k2 hx hy).2 (Or.inl (by omega))
        have h13 : k ≠ k2 := fun e => by rw [e, cmpI_self] at ht; exact absurd ht (by decide)
        rw [if_neg h13]
        exact ⟨fun h => absurd h.1 hne, fun _ => ht⟩
end Go.Proofs.YtfcenidepkjdcaaDoor.V
namespace Go.Proofs.YtfcenidepkjdcaaDoor.V
open Go.RowKit
structure Fm (k : Int) (b : Bool) (n : Int) (s : ByteArray) (m q : Nat) : Prop where
  b : k ≠ 1 → b = false
  n : k ≠ 2 → n = 0
  s : k ≠ 3 → k ≠ 4 → s = ⟨#[]⟩
  m : k ≠ 5 → k ≠ 6 → m = 0
  q : k ≠ 6 → q = 0
set_option maxRecDepth 100000 in
theorem fm_of {k : Int} {b : Bool} {n : Int} {s : ByteArray} {m q : Nat} (h : formedB k b n s m q = true) : Fm k b n s m q := by
  unfold formedB at h
  simp only [Bool.and_eq_true, Bool.or_eq_true, decide_eq_true_eq, Bool.not_eq_true'] at h
  obtain ⟨⟨⟨⟨⟨⟨_, _⟩, hb⟩, hn⟩, hs⟩, hm⟩, hq⟩ := h
  refine ⟨fun h1 => ?_, fun h1 => ?_, fun h1 h2 => ?_, fun h1 h2 => ?_, fun h1 => ?_⟩
  · rcases hb with e | e
    · exact absurd e h1
    · exact e
  · rcases hn with e | e
    · exact absurd e h1
    · exact e
  · rcases hs with (e | e) | e
    · exact absurd e h1
    · exact absurd e h2
    · rw [empty_size] at e
      have := of_decide_eq_true e
      apply ByteArray.ext
      apply Array.toList_inj.mp
      rw [Lib.size_eq] at this
      exact List.length_eq_zero_iff.mp this
  · rcases hm with (e | e) | e
    · exact absurd e h1
    · exact absurd e h2
    · omega
  · rcases hq with e | e
    · exact absurd e h1
    · omega
set_option maxRecDepth 100000 in
theorem str_of {a b : ByteArray} (h : cmpB a b = 0) : a = b := by
  apply ByteArray.ext
  apply Array.toList_inj.mp
  exact cmpB_zero h
set_option maxRecDepth 100000 in
theorem cmpI_zero {a b : Int} (h : cmpI a b = 0) : a = b := by
  unfold cmpI at h
  by_cases h1 : a < b
  · rw [if_pos h1] at h; cases h
  · rw [if_neg h1] at h
    by_cases h2 : b < a
    · rw [if_pos h2] at h; cases h
    · omega
set_option maxRecDepth 100000 in
theorem eqv_of_zero (t : Tr) : ∀ u (d1 d2 : Int), real t → real u → soundT t d1 = 0 → soundT u d2 = 0 → cmpT t u = 0 → eqvT t u := by
  induction t with
  | no => exact fun _ _ _ h => h.elim
  | mk k b n s m f q g ih =>
    intro u d1 d2 ht hu s1 s2 h
    obtain ⟨k', b', n', s', m', f', q', g', rfl⟩ := hu.mk
    have P1 := soundP s1
    have P2 := soundP s2
    have F1 := fm_of P1.fm
    have F2 := fm_of P2.fm
    rw [cmpT] at h
    replace h : (if k = k' then (if k = 1 then cmpB (boolB b) (boolB b') else if k = 2 then cmpI n n' else if k = 3 ∨ k = 4 then cmpB s s' else if k = 5 ∨ k = 6 then (if fe (min m m') (cmpF q q' g g' (fun i => cmpT (f i) (f' i))) = 0 then cmpI m m' else fe (min m m') (cmpF q q' g g' (fun i => cmpT (f i) (f' i)))) else 0) else cmpI k k') = 0 := h
    have hk : k = k' := by
      by_cases e : k = k'
      · exact e
      · rw [if_neg e] at h; exact cmpI_zero h
    subst hk
    rw [if_pos rfl] at h
    have hb : b' = b := by
      by_cases k1 : k = 1
      · rw [if_pos k1] at h
        have := str_of h
        cases b <;> cases b' <;> first | rfl | (exfalso; revert this; decide)
      · rw [F1.b k1, F2.b k1]
    have hn : n' = n := by
      by_cases k2 : k = 2
      · rw [if_neg (by omega), if_pos k2] at h
        exact (cmpI_zero h).symm
      · rw [F1.n k2, F2.n k2]
    have hs : s' = s := by
      by_cases k3 : k = 3 ∨ k = 4
      · rw [if_neg (by omega), if_neg (by omega), if_pos k3] at h
        exact (str_of h).symm
      · rw [F1.s (by omega) (by omega), F2.s (by omega) (by omega)]
    have hm : m' = m ∧ ∀ i, i < m → cmpF q q' g g' (fun i => cmpT (f i) (f' i)) i = 0 := by
      by_cases k5 : k = 5 ∨ k = 6
      · rw [if_neg (by omega), if_neg (by omega), if_neg (by omega), if_pos k5] at h
        by_cases h0 : fe (min m m') (cmpF q q' g g' (fun i => cmpT (f i) (f' i))) = 0
        · rw [if_pos h0] at h
          have hmm : (m : Int) = m' := cmpI_zero h
          obtain rfl : m' = m := by omega
          refine ⟨rfl, fun i hi => fe_zero h0 i (by omega)⟩
        · rw [if_neg h0] at h; exact absurd h h0
      · have e1 := F1.m (by omega) (by omega)
        have e2 := F2.m (by omega) (by omega)
        exact ⟨by omega, fun i hi => by omega⟩
    obtain ⟨rfl, hz⟩ := hm
    have hq : q' = q := by
      by_cases k6 : k = 6
      · rw [(P1.nm k6).1, (P2.nm k6).1]
      · rw [F1.q k6, F2.q k6]
    subst hq
    refine ⟨by simp, rfl, hb, hn, hs, rfl, rfl, fun i hi => ?_, fun i hi => ?_⟩
    · have hzi := hz i hi
      unfold cmpF at hzi
      by_cases hc : i < min q' q' ∧ (g i).data.toList ≠ (g' i).data.toList
      · rw [if_pos hc] at hzi
        exact absurd (cmpB_zero hzi) hc.2
      · rw [if_neg hc] at hzi
        exact ih i (f' i) (d1 + 1) (d2 + 1) (ht i hi) (hu i hi) (P1.ch i hi) (P2.ch i hi) hzi
    · have hqm : i < m' := by
        by_cases k6 : k = 6
        · rw [← (P1.nm k6).1]; exact hi
        · rw [F1.q k6] at hi; omega
      have hzi := hz i hqm
      unfold cmpF at hzi
      by_cases hc : (g i).data.toList = (g' i).data.toList
      · show g' i = g i
        apply ByteArray.ext
        apply Array.toList_inj.mp
        exact hc.symm
      · rw [if_pos ⟨by omega, hc⟩] at hzi
        exact absurd (cmpB_zero hzi) hc
set_option maxRecDepth 100000 in
theorem eqv_both {t u v : Tr} (h1 : eqvT t v) (h2 : eqvT u v) (hu : real u) : eqvT t u := by
  revert u v
  induction t with
  | no => exact fun {_ _} h => h.elim
  | mk k b n s m f q g ih =>
    intro u v h1 h2 hu
    obtain ⟨k', b', n', s', m', f', q', g', rfl⟩ := hu.mk
    obtain ⟨a0, a1, a2, a3, a4, a5, a6, a7, a8⟩ := h1
    obtain ⟨_, c1, c2, c3, c4, c5, c6, c7, c8⟩ := h2
    have hm : m' = m := c5.symm.trans a5
    have hq : q' = q := c6.symm.trans a6
    exact ⟨by simp, c1.symm.trans a1, c2.symm.trans a2, c3.symm.trans a3, c4.symm.trans a4, hm, hq, fun i hi => ih i (a7 i hi) (c7 i (by omega)) (hu i (by omega)), fun i hi => (c8 i (by omega)).symm.trans (a8 i hi)⟩
set_option maxRecDepth 100000 in
theorem check_sound {t : Tr} (h : checkT t = 0) : soundT t 1 = 0 := by
  unfold checkT at h
  by_cases h2 : soundT t 1 = 0
  · exact h2
  · rw [if_neg h2] at h; exact absurd h h2
set_option maxRecDepth 100000 in
theorem zero_iff {B : Nat} {w : World} {t u : Tr} {x y : Ad} (hL : Lies B w t x) (hL' : Lies B w u y) (h1 : checkT t = 0) (h2 : checkT u = 0) : cmpT t u = 0 ↔ encT t = encT u := by
  constructor
  · intro h
    exact (eqv_enc (eqv_of_zero t u 1 1 (Lies.real t hL) (Lies.real u hL') (check_sound h1) (check_sound h2) h)).symm
  · intro h
    have e1 := (dec_enc hL h1).2.2
    have e2 := (dec_enc hL' h2).2.2
    rw [← h] at e2
    exact eqv_cmp t u (eqv_both e1 e2 (Lies.real u hL'))
end Go.Proofs.YtfcenidepkjdcaaDoor.V
namespace Go.Proofs.YtfcenidepkjdcaaDoor.V
open Go.RowKit
set_option maxRecDepth 100000 in
theorem str_mk {l : List UInt8} {y : ByteArray} (h : y.data.toList = l) : y = ⟨l.toArray⟩ := by
  apply ByteArray.ext
  rw [← h]
set_option maxRecDepth 100000 in
theorem boolB_list (b : Bool) : (boolB b).data.toList = [if b then 1 else 0] := by cases b <;> rfl
set_option maxRecDepth 100000 in
theorem cat_len {F : Nat → List UInt8} {K : Nat} : ∀ {m : Nat}, (∀ i, i < m → (F i).length ≤ K) → (cat m F).length ≤ m * K
  | 0, _ => by simp [cat]
  | m + 1, h => by
    have h1 := cat_len (m := m) (F := F) (K := K) (fun i hi => h i (by omega))
    have h2 := h m (by omega)
    show (cat m F ++ F m).length ≤ _
    rw [List.length_append, Nat.succ_mul]
    omega
set_option maxRecDepth 100000 in
theorem bytesT_len {B : Nat} {w : World} (t : Tr) : ∀ (j : Nat) (d : Int) (x : Ad), Lies B w t x → d = 8 - (j : Int) → soundT t d = 0 → small t → (bytesT t).length ≤ 5000 * 33 ^ j := by
  induction t with
  | no => exact fun _ _ _ hL => hL.no.elim
  | mk k b n s m f q g ih =>
    intro j d x hL hd h0 hsm
    obtain ⟨d8, fm, k0, k6, m32, nm, ch⟩ := soundP h0
    have h1 : 1 ≤ 33 ^ j := Nat.one_le_pow _ _ (by decide)
    have hs4 : s.size ≤ 4096 := hsm.1
    obtain ⟨A, _, hr⟩ := hL.part
    have hn : -9223372036854775808 ≤ n ∧ n < 9223372036854775808 := hL.lims.2.1
    have hm0 : j = 0 → m = 0 := by
      intro hj
      rcases Nat.eq_zero_or_pos m with e | e
      · exact e
      · have := ch 0 e
        have hL0 := hr 0 e
        cases hf : f 0 with
        | no => rw [hf] at hL0; exact hL0.no.elim
        | mk k2 b2 n2 s2 m2 f2 q2 g2 =>
          rw [hf] at this
          have := (soundP this).d8
          omega
    rw [bytesT]
    rw [List.length_cons]
    split
    · simp; omega
    split
    · have := put_len10 (n := zig n) (zig_lt hn.1 hn.2)
      omega
    split
    · have := textL_len s hs4
      omega
    split
    · have hp := put_len10 (n := m) (by omega)
      rw [List.length_append]
      rcases Nat.eq_zero_or_pos m with e | e
      · subst e
        simp [cat]
        omega
      · cases j with
        | zero => exact absurd (hm0 rfl) (by omega)
        | succ j =>
          have hc : (cat m (fun i => (if k = 6 then textL (g i) else []) ++ bytesT (f i))).length ≤ m * (26 + 5000 * 33 ^ j) := by
            refine cat_len fun i hi => ?_
            have h2 := ih i j (d + 1) (A i) (hr i hi) (by omega) (ch i hi) (hsm.2 i hi)
            rw [List.length_append]
            split
            · rename_i h6
              have h3 := okN_size ((nm h6).2 i (by rw [(nm h6).1]; exact hi))
              have := textL_len (g i) (by omega)
              omega
            · simp; omega
          have hmm : m * (26 + 5000 * 33 ^ j) ≤ 32 * (26 + 5000 * 33 ^ j) := Nat.mul_le_mul_right _ m32
          have h4 : 1 ≤ 33 ^ j := Nat.one_le_pow _ _ (by decide)
          rw [Nat.pow_succ]
          omega
    · simp; omega
set_option maxRecDepth 100000 in
theorem wrap8 {k : Int} (h0 : 0 ≤ k) (h6 : k ≤ 6) : IntKind.u8.wrap k = k := by rw [IntKind.wrap_u8']; omega
end Go.Proofs.YtfcenidepkjdcaaDoor.V
namespace Go.Proofs.YtfcenidepkjdcaaDoor.V
open Go.RowKit
def letUB (x : Int) : Bool := decide (x = 95) || letterB x
set_option maxRecDepth 100000 in
theorem chr_range (s : ByteArray) (i : Nat) (h : i < s.size) : 0 ≤ chr s i ∧ chr s i < 256 := by
  rw [← chr_eq s i h]
  have := s[i].toNat_lt
  omega
set_option maxRecDepth 100000 in
theorem okB_of {x : Int} (h : letUB x = true ∨ digitB x = true) : okB x = true := by
  unfold letUB at h
  unfold okB
  rcases h with h | h
  · rcases Bool.or_eq_true _ _ ▸ h with h | h
    · rw [h]; simp
    · rw [h]; simp
  · rw [h]; simp
set_option maxRecDepth 100000 in
theorem okB_not {x : Int} (h1 : letUB x = false) (h2 : digitB x = false) : okB x = false := by
  unfold letUB at h1
  unfold okB
  rw [Bool.or_eq_false_iff] at h1
  rw [h1.1, h1.2, h2]; rfl
set_option maxRecDepth 100000 in
theorem ok_step {s : ByteArray} {i : Nat} (h : ∀ j, j < i → (letUB (chr s j) || (digitB (chr s j) && decide (0 < j))) = true) (h1 : (letUB (chr s i) || (digitB (chr s i) && decide (0 < i))) = true) :
    ∀ j, j < i + 1 → (letUB (chr s j) || (digitB (chr s j) && decide (0 < j))) = true := fun j hj => by
  by_cases hij : j < i
  · exact h j hij
  · obtain rfl : j = i := by omega
    exact h1
set_option maxRecDepth 100000 in
theorem name_digit {s : ByteArray} (h : digitB (chr s 0) = true) : nameB s = false := by
  unfold nameB; rw [h]; simp
set_option maxRecDepth 100000 in
theorem name_bad {s : ByteArray} {i : Nat} (h : i < s.size) (hb : okB (chr s i) = false) : nameB s = false := by
  unfold nameB
  rw [decide_eq_false (p := ∀ i, i < s.size → okB (chr s i) = true) (fun hh => by have := hh i h; rw [hb] at this; cases this)]
  simp
set_option maxRecDepth 100000 in
theorem digit_letter {x : Int} (h : letUB x = true) : digitB x = false := by
  simp only [letUB, letterB, Bool.or_eq_true, Bool.and_eq_true, decide_eq_true_eq] at h
  unfold digitB
  rw [Bool.and_eq_false_iff, decide_eq_false_iff_not, decide_eq_false_iff_not]
  omega
set_option maxRecDepth 100000 in
theorem name_all {s : ByteArray} (h : ∀ j, j < s.size → (letUB (chr s j) || (digitB (chr s j) && decide (0 < j))) = true) : nameB s = (decide (0 < s.size) && decide (s.size < 17)) := by
  by_cases h0 : 0 < s.size
  · have hok : ∀ j, j < s.size → okB (chr s j) = true := fun j hj => okB_of (by
      have := h j hj
      simp only [Bool.or_eq_true, Bool.and_eq_true] at this
      rcases this with h | h
      · exact .inl h
      · exact .inr h.1)
    have hd : digitB (chr s 0) = false := by
      have := h 0 h0
      simp at this
      exact digit_letter this
    unfold nameB
    rw [decide_eq_true hok, hd, Bool.eq_iff_iff]
    simp
    omega
  · unfold nameB
    rw [decide_eq_false h0]
    simp
end Go.Proofs.YtfcenidepkjdcaaDoor.V
namespace Go.Proofs.YtfcenidepkjdcaaDoor.V
open Go.RowKit
end Go.Proofs.YtfcenidepkjdcaaDoor.V
namespace Go.Proofs.YtfcenidepkjdcaaDoor.V
open Go.RowKit
end Go.Proofs.YtfcenidepkjdcaaDoor.V
namespace Go.Proofs.YtfcenidepkjdcaaDoor.V
open Go.RowKit
end Go.Proofs.YtfcenidepkjdcaaDoor.V
namespace Go.Proofs.YtfcenidepkjdcaaDoor.V
open Go.RowKit
end Go.Proofs.YtfcenidepkjdcaaDoor.V
namespace Go.Proofs.YtfcenidepkjdcaaDoor.V
open Go.RowKit
end Go.Proofs.YtfcenidepkjdcaaDoor.V
namespace Go.Proofs.YtfcenidepkjdcaaDoor.V
open Go.RowKit
set_option maxRecDepth 100000 in
theorem cat_le (F : Nat → List UInt8) {i m : Nat} (h : i < m) : (cat i F).length + (F i).length ≤ (cat m F).length := by
  obtain ⟨y, hy⟩ := cat_more F (i := i + 1) (m := m) (by omega)
  rw [hy, List.length_append]
  show _ ≤ (cat i F ++ F i).length + y.length
  rw [List.length_append]
  omega
end Go.Proofs.YtfcenidepkjdcaaDoor.V
namespace Go.Proofs.YtfcenidepkjdcaaDoor.V
open Go.RowKit
set_option maxRecDepth 100000 in
theorem decide_cmpI (a b : Int) : decide (cmpI a b < 0) = decide (a < b) := by
  rw [decide_eq_decide]
  unfold cmpI
  repeat' split
  all_goals omega
set_option maxRecDepth 100000 in
theorem less_cmp : ∀ a b : List UInt8, Op.bytesLess a b = decide (Lib.compareBytes a b < 0)
  | [], [] => rfl
  | [], _ :: _ => rfl
  | _ :: _, [] => rfl
  | a :: xs, b :: ys => by
    have ih := less_cmp xs ys
    rw [Op.bytesLess, Lib.compareBytes, ih]
    by_cases h1 : a < b
    · rw [if_pos h1]; simp [h1]
    · rw [if_neg h1]
      by_cases h2 : b < a
      · rw [if_pos h2]
        have hne : a ≠ b := fun e => by subst e; exact h1 h2
        simp [h1, hne]
      · rw [if_neg h2]
        have he : a = b := by
          have l1 : ¬ a.toNat < b.toNat := fun h => h1 (UInt8.lt_iff_toNat_lt.mpr h)
          have l2 : ¬ b.toNat < a.toNat := fun h => h2 (UInt8.lt_iff_toNat_lt.mpr h)
          exact UInt8.toNat_inj.mp (by omega)
        simp [he]
set_option maxRecDepth 100000 in
theorem formed_m {k : Int} {b : Bool} {n : Int} {s : ByteArray} {m q : Nat} (h : formedB k b n s m q = true) (h5 : k < 5) : m = 0 := by
  unfold formedB at h
  simp only [Bool.and_eq_true, Bool.or_eq_true, decide_eq_true_eq] at h
  omega
end Go.Proofs.YtfcenidepkjdcaaDoor.V
namespace Go.Proofs.YtfcenidepkjdcaaDoor.V
open Go.RowKit
end Go.Proofs.YtfcenidepkjdcaaDoor.V
