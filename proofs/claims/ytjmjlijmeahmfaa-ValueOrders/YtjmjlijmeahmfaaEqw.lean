/- What is taken of bytes without an error has just these bytes: plain facts. -/
import Derived.Test.YtjmjlijmeahmfaaEqv
import Derived.Test.YtjmjlijmeahmfaaRval
namespace Go.Proofs.Ytjmjlijmeahmfaa
open Go.RowKit
theorem take_err {s : ByteArray} {e : Int} (he : e ≠ 0) : ∀ (D o : Nat), takeA s D o e = ⟨leafT 0 false 0 ⟨#[]⟩, o, e⟩
  | 0, o => by rw [takeA, if_neg he]
  | D + 1, o => by rw [takeA, if_neg he]
theorem textA_err {s : ByteArray} {o : Nat} {e m : Int} (he : e ≠ 0) : textA s o e m = ⟨⟨#[]⟩, o, e⟩ := by unfold textA; rw [if_neg he]
theorem nameA_err {s : ByteArray} {six : Bool} {x : St} (he : x.e ≠ 0) : (nameA s six x).e = x.e := by
  unfold nameA
  cases six with
  | false => rfl
  | true => rw [if_pos rfl, textA_err he]
theorem step_err {s : ByteArray} {six : Bool} {D : Nat} {x : St} (he : x.e ≠ 0) : (stepA s six (takeA s D) x).e = x.e := by
  unfold stepA
  have h1 := nameA_err (s := s) (six := six) he
  show (takeA s D (nameA s six x).o (nameA s six x).e).e = x.e
  rw [h1, take_err he]
theorem run_err {s : ByteArray} {six : Bool} {D : Nat} {x : St} {i : Nat} (he : (runA s six (takeA s D) x i).e ≠ 0) : ∀ k, (runA s six (takeA s D) x (i + k)).e = (runA s six (takeA s D) x i).e
  | 0 => rfl
  | k + 1 => by
    have h := run_err he k
    show (stepA s six (takeA s D) (runA s six (takeA s D) x (i + k))).e = _
    rw [step_err (by rw [h]; exact he), h]
theorem step_ok {s : ByteArray} {six : Bool} {D : Nat} {x : St} (h : (stepA s six (takeA s D) x).e = 0) : x.e = 0 ∧ (nameA s six x).e = 0 := by
  by_cases h1 : x.e = 0
  · refine ⟨h1, ?_⟩
    by_cases h2 : (nameA s six x).e = 0
    · exact h2
    · exfalso
      have h3 : (takeA s D (nameA s six x).o (nameA s six x).e).e = 0 := h
      rw [take_err h2] at h3
      exact h2 h3
  · rw [step_err h1] at h
    exact absurd h h1
theorem Hs.cons {s : ByteArray} {o : Nat} {R : List UInt8} (ho : o < s.size) (h : Hs s (o + 1) R) : Hs s o (UInt8.ofNat (byteAt s o) :: R) := by
  obtain ⟨r, hr⟩ := h
  refine ⟨r, ?_⟩
  have hlt : o < s.data.toList.length := by rw [← Lib.size_eq]; exact ho
  rw [List.drop_eq_getElem_cons hlt, hr]
  have : UInt8.ofNat (byteAt s o) = s.data.toList[o] := by
    unfold byteAt
    rw [List.getD_eq_getElem?_getD, List.getElem?_eq_getElem hlt]
    simp
  rw [this]
  rfl
theorem Hs.app {s : ByteArray} {o : Nat} {a b : List UInt8} (h1 : Hs s o a) (h2 : Hs s (o + a.length) b) : Hs s o (a ++ b) := by
  obtain ⟨r, hr⟩ := h1
  obtain ⟨r', hr'⟩ := h2
  refine ⟨r', ?_⟩
  rw [← List.drop_drop, hr, List.drop_left] at hr'
  rw [hr, hr', List.append_assoc]
theorem zig_zag (n : Nat) : zig (zag n) = n := by
  unfold zag zig
  split <;> split <;> omega
theorem uintA_ok {s : ByteArray} {o : Nat} (h : (uintA s o 0).e = 0) : Hs s o (put (uintA s o 0).v) ∧ (uintA s o 0).o = o + (put (uintA s o 0).v).length := by
  unfold uintA tkA at h ⊢
  rw [if_pos rfl] at h ⊢
  obtain ⟨h1, h2⟩ := put_take _ h
  refine ⟨⟨(s.data.toList.drop o).drop (tk 0 0 (s.data.toList.drop o)).sz, ?_⟩, by show o + _ = o + _; rw [h1]⟩
  show _ = put (tk 0 0 (s.data.toList.drop o)).n ++ _
  rw [← h2, List.take_append_drop]
theorem cnt_ok {T : Tk} {m : Int} (h : (cnt T m).er = 0) : cnt T m = T := by
  unfold cnt at h ⊢
  by_cases h1 : T.er = 0 ∧ (m < 0 ∨ m < (T.n : Int))
  · rw [if_pos h1] at h; cases h
  · rw [if_neg h1]
theorem countA_ok {s : ByteArray} {o : Nat} {m : Int} (h : (countA s o 0 m).e = 0) : Hs s o (put (countA s o 0 m).v) ∧ (countA s o 0 m).o = o + (put (countA s o 0 m).v).length := by
  unfold countA at h ⊢
  rw [if_pos rfl] at h ⊢
  have hc := cnt_ok h
  rw [hc] at h ⊢
  unfold tkA at h ⊢
  obtain ⟨h1, h2⟩ := put_take _ h
  refine ⟨⟨(s.data.toList.drop o).drop (tk 0 0 (s.data.toList.drop o)).sz, ?_⟩, by show o + _ = o + _; rw [h1]⟩
  show _ = put (tk 0 0 (s.data.toList.drop o)).n ++ _
  rw [← h2, List.take_append_drop]
theorem textA_ok {s : ByteArray} {o : Nat} {m : Int} (h : (textA s o 0 m).e = 0) : Hs s o (textL (textA s o 0 m).v) ∧ (textA s o 0 m).o = o + (textL (textA s o 0 m).v).length := by
  unfold textA at h ⊢
  rw [if_pos rfl] at h ⊢
  by_cases hc : (cnt (tkA s o) (min m 1048576)).er = 0
  · rw [if_pos hc] at h ⊢
    have hce := cnt_ok hc
    rw [hce] at hc h ⊢
    by_cases hl : s.size < o + (tkA s o).sz + (tkA s o).n
    · rw [if_pos hl] at h; cases h
    · rw [if_neg hl]
      obtain ⟨h1, h2⟩ := put_take (s.data.toList.drop o) hc
      have hsz : (tkA s o).sz = (put (tkA s o).n).length := h1
      have hes : (s.extract (o + (tkA s o).sz) (o + (tkA s o).sz + (tkA s o).n)).data.toList = (s.data.toList.drop (o + (tkA s o).sz)).take (tkA s o).n := ext_toList _ _ _
      have hel : (s.extract (o + (tkA s o).sz) (o + (tkA s o).sz + (tkA s o).n)).size = (tkA s o).n := by
        rw [Lib.size_eq, hes, List.length_take, List.length_drop, ← Lib.size_eq]
        omega
      have hH : Hs s o (textL (s.extract (o + (tkA s o).sz) (o + (tkA s o).sz + (tkA s o).n))) := by
        refine ⟨(s.data.toList.drop (o + (tkA s o).sz)).drop (tkA s o).n, ?_⟩
        unfold textL
        rw [hel, hes, List.append_assoc, List.take_append_drop, ← List.drop_drop]
        show _ = put (tk 0 0 (s.data.toList.drop o)).n ++ _
        rw [← h2]
        exact (List.take_append_drop _ _).symm
      refine ⟨hH, ?_⟩
      show o + (tkA s o).sz + (tkA s o).n = _
      unfold textL
      rw [List.length_append, ← Lib.size_eq, hel, ← hsz]
      omega
  · rw [if_neg hc] at h
    exact absurd h hc
theorem run_ok {s : ByteArray} {six : Bool} {D o : Nat}
    (hT : ∀ o, (takeA s D o 0).e = 0 → Hs s o (bytesT (takeA s D o 0).t) ∧ (takeA s D o 0).o = o + (bytesT (takeA s D o 0).t).length) :
    ∀ i, (runA s six (takeA s D) ⟨[], [], o, 0⟩ i).e = 0 →
    (runA s six (takeA s D) ⟨[], [], o, 0⟩ i).ts.length = i ∧ (runA s six (takeA s D) ⟨[], [], o, 0⟩ i).ns.length = (if six then i else 0) ∧
    Hs s o (cat i (fun j => (if six then textL ((runA s six (takeA s D) ⟨[], [], o, 0⟩ i).ns.getD j ⟨#[]⟩) else []) ++ bytesT ((runA s six (takeA s D) ⟨[], [], o, 0⟩ i).ts.getD j .no))) ∧
    (runA s six (takeA s D) ⟨[], [], o, 0⟩ i).o = o + (cat i (fun j => (if six then textL ((runA s six (takeA s D) ⟨[], [], o, 0⟩ i).ns.getD j ⟨#[]⟩) else []) ++ bytesT ((runA s six (takeA s D) ⟨[], [], o, 0⟩ i).ts.getD j .no))).length
  | 0, _ => ⟨rfl, by split <;> rfl, ⟨s.data.toList.drop o, rfl⟩, rfl⟩
  | i + 1, h => by
    rw [runA] at h ⊢
    obtain ⟨h1, h2⟩ := step_ok h
    obtain ⟨hl, hn, hH, ho⟩ := run_ok hT i h1
    obtain ⟨x, hx⟩ : ∃ x, runA s six (takeA s D) ⟨[], [], o, 0⟩ i = x := ⟨_, rfl⟩
    rw [hx] at h h1 h2 hl hn hH ho ⊢
    have h3 : (takeA s D (nameA s six x).o (nameA s six x).e).e = 0 := h
    rw [h2] at h3
    obtain ⟨hb, hbo⟩ := hT _ h3
    unfold stepA
    rw [h2]
    cases six with
    | false =>
      have hno : (nameA s false x).o = x.o := rfl
      rw [hno] at hb hbo h3 ⊢
      obtain ⟨u, hu⟩ : ∃ u, takeA s D x.o 0 = u := ⟨_, rfl⟩
      rw [hu] at hb hbo ⊢
      have hcc : cat i (fun j => (if false = true then textL (x.ns.getD j ⟨#[]⟩) else []) ++ bytesT ((x.ts ++ [u.t]).getD j .no)) = cat i (fun j => (if false = true then textL (x.ns.getD j ⟨#[]⟩) else []) ++ bytesT (x.ts.getD j .no)) := cat_congr fun j hj => by rw [getD_left (by omega)]
      have hlast : (x.ts ++ [u.t]).getD i .no = u.t := by rw [← hl]; exact getD_last
      refine ⟨by simp [hl], hn, ?_, ?_⟩
      · show Hs s o (cat i (fun j => (if false = true then textL (x.ns.getD j ⟨#[]⟩) else []) ++ bytesT ((x.ts ++ [u.t]).getD j .no)) ++ (([] : List UInt8) ++ bytesT ((x.ts ++ [u.t]).getD i .no)))
        rw [hcc]
        refine hH.app ?_
        rw [← ho, List.nil_append, hlast]
        exact hb
      · show u.o = o + (cat i (fun j => (if false = true then textL (x.ns.getD j ⟨#[]⟩) else []) ++ bytesT ((x.ts ++ [u.t]).getD j .no)) ++ (([] : List UInt8) ++ bytesT ((x.ts ++ [u.t]).getD i .no))).length
        rw [hcc, List.length_append, hbo, ho, List.nil_append, hlast]
        omega
    | true =>
      have hnm : nameA s true x = textA s x.o 0 16 := by unfold nameA; rw [if_pos rfl, h1]
      rw [hnm] at h2 hb hbo h3 ⊢
      obtain ⟨ht, hto⟩ := textA_ok h2
      obtain ⟨tx, htx⟩ : ∃ tx, textA s x.o 0 16 = tx := ⟨_, rfl⟩
      rw [htx] at ht hto hb hbo ⊢
      obtain ⟨u, hu⟩ : ∃ u, takeA s D tx.o 0 = u := ⟨_, rfl⟩
      rw [hu] at hb hbo ⊢
      simp only [if_true] at hn
      have hcc : cat i (fun j => (if true = true then textL ((x.ns ++ [tx.v]).getD j ⟨#[]⟩) else []) ++ bytesT ((x.ts ++ [u.t]).getD j .no)) = cat i (fun j => (if true = true then textL (x.ns.getD j ⟨#[]⟩) else []) ++ bytesT (x.ts.getD j .no)) := cat_congr fun j hj => by rw [getD_left (by omega), getD_left (by omega)]
      have hlast : (x.ts ++ [u.t]).getD i .no = u.t := by rw [← hl]; exact getD_last
      have hlast2 : (x.ns ++ [tx.v]).getD i ⟨#[]⟩ = tx.v := by rw [← hn]; exact getD_last
      refine ⟨by simp [hl], by simp [hn], ?_, ?_⟩
      · show Hs s o (cat i (fun j => (if true = true then textL ((x.ns ++ [tx.v]).getD j ⟨#[]⟩) else []) ++ bytesT ((x.ts ++ [u.t]).getD j .no)) ++ (textL ((x.ns ++ [tx.v]).getD i ⟨#[]⟩) ++ bytesT ((x.ts ++ [u.t]).getD i .no)))
        rw [hcc]
        refine hH.app ?_
        rw [← ho, hlast, hlast2]
        refine ht.app ?_
        rw [← hto]
        exact hb
      · show u.o = o + (cat i (fun j => (if true = true then textL ((x.ns ++ [tx.v]).getD j ⟨#[]⟩) else []) ++ bytesT ((x.ts ++ [u.t]).getD j .no)) ++ (textL ((x.ns ++ [tx.v]).getD i ⟨#[]⟩) ++ bytesT ((x.ts ++ [u.t]).getD i .no))).length
        rw [hcc, List.length_append, hbo, hto, ho, hlast, hlast2, List.length_append]
        omega
theorem bytes_take {s : ByteArray} : ∀ (D o : Nat), (takeA s D o 0).e = 0 → Hs s o (bytesT (takeA s D o 0).t) ∧ (takeA s D o 0).o = o + (bytesT (takeA s D o 0).t).length
  | 0, o, h => by
    rw [takeA] at h
    cases h
  | D + 1, o, h => by
    rw [takeA, if_pos rfl] at h ⊢
    by_cases ho : o < s.size
    · rw [if_pos ho] at h ⊢
      obtain ⟨k, hk⟩ : ∃ k, byteAt s o = k := ⟨_, rfl⟩
      have hc : ∀ R, Hs s (o + 1) R → Hs s o (UInt8.ofNat k :: R) := fun R hR => by rw [← hk]; exact hR.cons ho
      rw [hk] at h ⊢
      by_cases k0 : k = 0
      · subst k0
        exact ⟨hc [] ⟨_, rfl⟩, rfl⟩
      by_cases k1 : k = 1
      · subst k1
        unfold nodeA at h ⊢
        rw [if_neg k0, if_pos rfl] at h ⊢
        replace h : (boolA s (o + 1) 0).e = 0 := h
        have hb : ∃ b : Bool, boolA s (o + 1) 0 = ⟨b, o + 1 + 1, 0⟩ ∧ Hs s (o + 1) [if b then 1 else 0] := by
          unfold boolA at h ⊢
          rw [if_pos rfl] at h ⊢
          by_cases h1 : o + 1 < s.size
          · rw [if_pos h1] at h ⊢
            by_cases h2 : 1 < byteAt s (o + 1)
            · rw [if_pos h2] at h; cases h
            · rw [if_neg h2]
              refine ⟨_, rfl, ?_⟩
              have hx := Hs.cons h1 (R := []) ⟨_, rfl⟩
              have h3 : byteAt s (o + 1) = 0 ∨ byteAt s (o + 1) = 1 := by omega
              rcases h3 with e | e
              · rw [e] at hx ⊢; exact hx
              · rw [e] at hx ⊢; exact hx
          · rw [if_neg h1] at h; cases h
        obtain ⟨b, hb1, hb2⟩ := hb
        rw [hb1]
        exact ⟨hc _ hb2, rfl⟩
      by_cases k2 : k = 2
      · subst k2
        unfold nodeA at h ⊢
        rw [if_neg k0, if_neg k1, if_pos rfl] at h ⊢
        obtain ⟨h1, h2⟩ := uintA_ok (s := s) (o := o + 1) h
        have hB : bytesT (leafT 2 false (zag (uintA s (o + 1) 0).v) ⟨#[]⟩) = UInt8.ofNat 2 :: put (uintA s (o + 1) 0).v := by
          unfold leafT
          rw [bytesT, zig_zag]
          rfl
        show Hs s o (bytesT (leafT 2 false (zag (uintA s (o + 1) 0).v) ⟨#[]⟩)) ∧ (uintA s (o + 1) 0).o = o + (bytesT (leafT 2 false (zag (uintA s (o + 1) 0).v) ⟨#[]⟩)).length
        rw [hB]
        exact ⟨hc _ h1, by rw [h2, List.length_cons]; omega⟩
      by_cases k34 : k = 3 ∨ k = 4
      · unfold nodeA at h ⊢
        rw [if_neg k0, if_neg k1, if_neg k2, if_pos k34] at h ⊢
        obtain ⟨h1, h2⟩ := textA_ok (s := s) (o := o + 1) (m := 1024) h
        have hB : bytesT (leafT k false 0 (textA s (o + 1) 0 1024).v) = UInt8.ofNat k :: textL (textA s (o + 1) 0 1024).v := by
          unfold leafT
          rw [bytesT]
          rcases k34 with rfl | rfl
          · rfl
          · rfl
        show Hs s o (bytesT (leafT k false 0 (textA s (o + 1) 0 1024).v)) ∧ (textA s (o + 1) 0 1024).o = o + (bytesT (leafT k false 0 (textA s (o + 1) 0 1024).v)).length
        rw [hB]
        exact ⟨hc _ h1, by rw [h2, List.length_cons]; omega⟩
      by_cases k56 : k = 5 ∨ k = 6
      · unfold nodeA at h ⊢
        rw [if_neg k0, if_neg k1, if_neg k2, if_neg k34, if_pos k56] at h ⊢
        obtain ⟨c, hce⟩ : ∃ c, countA s (o + 1) 0 32 = c := ⟨_, rfl⟩
        rw [hce] at h ⊢
        have hc0 : c.e = 0 := by
          by_cases h1 : c.e = 0
          · exact h1
          · have h2 := run_err (s := s) (six := k == 6) (D := D) (x := ⟨[], [], c.o, c.e⟩) (i := 0) h1 c.v
            rw [Nat.zero_add] at h2
            replace h : (runA s (k == 6) (takeA s D) ⟨[], [], c.o, c.e⟩ c.v).e = 0 := h
            rw [h] at h2
            exact absurd h2.symm h1
        rw [hc0] at h ⊢
        obtain ⟨q1, q2⟩ := countA_ok (s := s) (o := o + 1) (m := 32) (by rw [hce]; exact hc0)
        rw [hce] at q1 q2
        obtain ⟨r1, r2, r3, r4⟩ := run_ok (s := s) (six := k == 6) (D := D) (o := c.o) (fun o' h' => bytes_take D o' h') c.v h
        obtain ⟨x, hx⟩ : ∃ x, runA s (k == 6) (takeA s D) ⟨[], [], c.o, 0⟩ c.v = x := ⟨_, rfl⟩
        rw [hx] at r1 r2 r3 r4 h ⊢
        have hB : bytesT (nodeT k x) = UInt8.ofNat k :: (put c.v ++ cat c.v (fun j => (if (k == 6) = true then textL (x.ns.getD j ⟨#[]⟩) else []) ++ bytesT (x.ts.getD j .no))) := by
          unfold nodeT
          rw [bytesT, r1]
          rcases k56 with rfl | rfl
          · rfl
          · rfl
        show Hs s o (bytesT (nodeT k x)) ∧ x.o = o + (bytesT (nodeT k x)).length
        rw [hB]
        refine ⟨hc _ (q1.app (by rw [← q2]; exact r3)), ?_⟩
        rw [r4, q2, List.length_cons, List.length_append]
        omega
      · exfalso
        unfold nodeA at h
        rw [if_neg k0, if_neg k1, if_neg k2, if_neg k34, if_neg k56] at h
        cases h
    · rw [if_neg ho] at h
      cases h
theorem enc_dec {s : ByteArray} (h : decE s = 0) : checkT (takeA s 8 0 0).t = 0 ∧ soundT (takeA s 8 0 0).t 1 = 0 ∧ (⟨(bytesT (takeA s 8 0 0).t).toArray⟩ : ByteArray) = s ∧ encT (takeA s 8 0 0).t = s := by
  unfold decE at h
  have h1 : endE s (takeA s 8 0 0) = 0 := by
    by_cases h2 : endE s (takeA s 8 0 0) = 0
    · exact h2
    · rw [if_neg h2] at h; exact absurd h h2
  rw [if_pos h1] at h
  unfold endE at h1
  have h2 : (takeA s 8 0 0).e = 0 := by
    by_cases h3 : (takeA s 8 0 0).e = 0
    · exact h3
    · rw [if_neg h3] at h1; exact absurd h1 h3
  rw [if_pos h2] at h1
  have h3 : ¬ (takeA s 8 0 0).o < s.size := by
    intro h4
    rw [if_pos h4] at h1
    cases h1
  obtain ⟨hH, ho⟩ := bytes_take 8 0 h2
  obtain ⟨r, hr⟩ := hH
  have hl := congrArg List.length hr
  rw [List.drop_zero, List.length_append, ← Lib.size_eq] at hl
  have hr0 : r = [] := List.length_eq_zero_iff.mp (by omega)
  subst hr0
  rw [List.drop_zero, List.append_nil] at hr
  have hs : (⟨(bytesT (takeA s 8 0 0).t).toArray⟩ : ByteArray) = s := (str_mk hr).symm
  refine ⟨h, ?_, hs, ?_⟩
  · unfold checkT at h
    by_cases h5 : soundT (takeA s 8 0 0).t 1 = 0
    · exact h5
    · rw [if_neg h5] at h; exact absurd h h5
  · unfold encT
    rw [if_pos h, hs]
end Go.Proofs.Ytjmjlijmeahmfaa
