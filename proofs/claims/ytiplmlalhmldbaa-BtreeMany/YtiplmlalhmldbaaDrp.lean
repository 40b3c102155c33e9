/- The root instead of one without keys (shrunk); Drop, Get, Deep of any depth against the list of all keys. -/
import Derived.Test.YtiplmlalhmldbaaWoa
import Derived.Test.YtiplmlalhmldbaaDin
import Derived.Test.YtiplmlalhmldbaaSpm
import Derived.Test.YtiplmlalhmldbaaDpl
namespace Go.Proofs.Ytiplmlalhmldbaa
open Go.RowKit Go.Shelf
set_option maxHeartbeats 2000000 in
theorem shrunk_same (p : Option Addr) (n c : Nat) (hn : 0 < n) (q : Option Addr) (m d : Nat) (hm : 0 < m) (w : World) :
    Calls Try.prog 23 #[.agg #[.slice p n c, .slice q m d]] w fun e w' => e = .returned (.agg #[.slice p n c, .slice q m d]) ∧ Below w.heap.size w w' := by
  have kl := fun W => leaf_any p n c q m d W
  rw [decide_eq_false (by omega)] at kl
  obtain ⟨w3, hw3⟩ : ∃ w3, (w.alloc (.cells #[.slice p n c, .slice q m d] 59)).alloc (.cells #[.slice none 0 0, .slice none 0 0] 59) = w3 := ⟨_, rfl⟩
  have hb3 : Below w.heap.size w w3 := by rw [← hw3]; exact ((Below.refl _ w).alloc (Nat.le_refl _) _).alloc (by simp) _
  have r0 : w3.heap[w.heap.size]? = some (.cells #[.slice p n c, .slice q m d] 59 (0, 0)) := by
    rw [← hw3, Below.heap_alloc _ _ _ (by simp)]; exact heap_alloc_new _ _
  have r2 : w3.heap[w.heap.size + 1]? = some (.cells #[.slice none 0 0, .slice none 0 0] 59 (0, 0)) := by
    rw [← hw3]
    have := heap_alloc_new (w.alloc (.cells #[.slice p n c, .slice q m d] 59)) (.cells #[.slice none 0 0, .slice none 0 0] 59)
    simpa using this
  have a0 := cell_of_row w3 _ 0 _ _ _ r0
  have a1 := cell_of_row w3 _ 1 _ _ _ r0
  have hn' : (0 : Int) < (n : Int) := by omega
  have hn2 : decide ((0 : Int) < (n : Int)) = true := decide_eq_true hn'
  go_enter Try.func23, Try.ntmps23
  go_wp2_with fail
  refine (kl _).mono ?_
  rintro e w4 ⟨rfl, hb4⟩
  have r04 := (hb4.block _ (lt_of_row r0)).trans r0
  have r24 := (hb4.block _ (lt_of_row r2)).trans r2
  have d0 := cell_of_row w4 _ 0 _ _ _ r04
  have d1 := cell_of_row w4 _ 1 _ _ _ r04
  have c20 := cell_of_row w4 _ 0 _ _ _ r24
  have c21 := cell_of_row w4 _ 1 _ _ _ r24
  have f20 := frozen_of_row w4 _ 0 _ _ r24
  have f21 := frozen_of_row w4 _ 1 _ _ r24
  have hB4 := hb3.trans (hb4.mono hb3.size)
  clear hw3 a0 a1 r0 r2 kl
  go_wp2
  exact bodyPost_ret (results_cell_row Try.results23 _ _ (w.heap.size + 1) 59 _ (0, 0) _ rfl (set2_row r24 _ _) Try.underlying59 rfl (by kernel_rfl)) rfl ⟨rfl, below_set2 hB4 (by omega) _ _⟩
set_option maxHeartbeats 2000000 in
theorem shrunk_kid (p : Option Addr) (c : Nat) (qb qo m d : Nat) (hm : 0 < m) (_hd : m ≤ d ∧ d ≤ maxLen) (w : World) (hqb : qb < w.heap.size) (kp : Option Addr) (kn kc : Nat) (kq : Option Addr) (km kd : Nat) (hx : w.cell? ⟨qb, qo, none⟩ = some (.slice kp kn kc)) (hy : w.cell? ⟨qb, qo + 1, none⟩ = some (.slice kq km kd)) :
    Calls Try.prog 23 #[.agg #[.slice p 0 c, .slice (some ⟨qb, qo, none⟩) m d]] w fun e w' => e = .returned (.agg #[.slice kp kn kc, .slice kq km kd]) ∧ ∃ W X, w' = (W.setCell ⟨X, 0, none⟩ (.slice kp kn kc)).setCell ⟨X, 1, none⟩ (.slice kq km kd) ∧ Below w.heap.size w W ∧ w.heap.size ≤ X ∧ W.heap[X]? = some (.cells #[.slice none 0 0, .slice none 0 0] 59 (0, 0)) := by
  have hmx : maxLen = 9223372036854775807 := rfl
  have kl := fun W => leaf_any p 0 c (some ⟨qb, qo, none⟩) m d W
  rw [decide_eq_false (by omega)] at kl
  obtain ⟨w3, hw3⟩ : ∃ w3, (w.alloc (.cells #[.slice p 0 c, .slice (some ⟨qb, qo, none⟩) m d] 59)).alloc (.cells #[.slice none 0 0, .slice none 0 0] 59) = w3 := ⟨_, rfl⟩
  have hb3 : Below w.heap.size w w3 := by rw [← hw3]; exact ((Below.refl _ w).alloc (Nat.le_refl _) _).alloc (by simp) _
  have r0 : w3.heap[w.heap.size]? = some (.cells #[.slice p 0 c, .slice (some ⟨qb, qo, none⟩) m d] 59 (0, 0)) := by
    rw [← hw3, Below.heap_alloc _ _ _ (by simp)]; exact heap_alloc_new _ _
  have r2 : w3.heap[w.heap.size + 1]? = some (.cells #[.slice none 0 0, .slice none 0 0] 59 (0, 0)) := by
    rw [← hw3]
    have := heap_alloc_new (w.alloc (.cells #[.slice p 0 c, .slice (some ⟨qb, qo, none⟩) m d] 59)) (.cells #[.slice none 0 0, .slice none 0 0] 59)
    simpa using this
  have a0 := cell_of_row w3 _ 0 _ _ _ r0
  have a1 := cell_of_row w3 _ 1 _ _ _ r0
  have hm' : (0 : Int) < (m : Int) := by omega
  go_enter Try.func23, Try.ntmps23
  go_wp2_with fail
  refine (kl _).mono ?_
  rintro e w4 ⟨rfl, hb4⟩
  have r04 := (hb4.block _ (lt_of_row r0)).trans r0
  have r24 := (hb4.block _ (lt_of_row r2)).trans r2
  have d0 := cell_of_row w4 _ 0 _ _ _ r04
  have d1 := cell_of_row w4 _ 1 _ _ _ r04
  have c20 := cell_of_row w4 _ 0 _ _ _ r24
  have c21 := cell_of_row w4 _ 1 _ _ _ r24
  have f20 := frozen_of_row w4 _ 0 _ _ r24
  have f21 := frozen_of_row w4 _ 1 _ _ r24
  have hB4 := hb3.trans (hb4.mono hb3.size)
  have hx4 := (cell_later hB4 hqb).trans hx
  have hy4 := (cell_later hB4 hqb).trans hy
  clear hw3 a0 a1 r0 r2 kl
  go_wp2
  exact bodyPost_ret (results_cell_row Try.results23 _ _ (w.heap.size + 1) 59 _ (0, 0) _ rfl (set2_row r24 _ _) Try.underlying59 rfl (by kernel_rfl)) rfl ⟨rfl, w4, w.heap.size + 1, rfl, hB4, by omega, r24⟩
/- What is got of a list of keys. -/
def getF (xs : List Im) (k : ByteArray) : ByteArray × Bool := match xs.find? (fun y => decide (y.1 = k)) with | some y => (y.2, true) | none => (⟨#[]⟩, false)
theorem find_no {xs : List Im} {k : ByteArray} (h : ∀ y ∈ xs, y.1 ≠ k) : xs.find? (fun y => decide (y.1 = k)) = none := by
  rw [List.find?_eq_none]
  intro y hy
  simpa using h y hy
theorem ne_below {a b : ByteArray} (h : ltB a b = true) : a ≠ b := fun e => by rw [e, ltB_irrefl] at h; cases h
theorem ne_above {a b : ByteArray} (h : ltB b a = true) : a ≠ b := fun e => by rw [e, ltB_irrefl] at h; cases h
theorem getF_mid {A K S : List Im} {k : ByteArray} (hA : ∀ y ∈ A, ltB y.1 k = true) (hS : ∀ y ∈ S, ltB k y.1 = true) : getF (A ++ K ++ S) k = getF K k := by
  unfold getF
  rw [List.find?_append, List.find?_append, find_no (fun y hy => ne_below (hA y hy)), find_no (xs := S) (fun y hy => ne_above (hS y hy))]
  simp
theorem getF_here {A S : List Im} {y : Im} {k : ByteArray} (hy : y.1 = k) (hA : ∀ z ∈ A, ltB z.1 k = true) : getF (A ++ y :: S) k = (y.2, true) := by
  unfold getF
  rw [List.find?_append, find_no (fun z hz => ne_below (hA z hz)), List.find?_cons_of_pos (by simpa using hy)]
  rfl
theorem getT_zero {xs : List Im} (hp : Pw xs) (k : ByteArray) : (if isK xs k then ((xs[posK xs k]!).2, true) else (⟨#[]⟩, false)) = getF xs k := by
  have hs := (pos_split hp k).1
  cases e : isK xs k with
  | true =>
    obtain ⟨hlt, he⟩ := isK_at e
    rw [if_pos rfl]
    have hc := cut_at hlt
    rw [List.append_assoc, List.singleton_append] at hc
    have := getF_here (S := xs.drop (posK xs k + 1)) he hs
    rw [← hc] at this
    exact this.symm
  | false =>
    rw [if_neg Bool.false_ne_true]
    have ha := pos_above hp e
    have := getF_mid (K := []) hs ha
    rw [List.append_nil, List.take_append_drop] at this
    rw [this]
    rfl
theorem getT_flat : ∀ {h : Nat} {t : Nd h} (k : ByteArray), Bal h t → Pw (flat h t) → getT h t k = getF (flat h t) k
  | 0, _, k, _, hp => getT_zero hp k
  | h + 1, t, k, H, hp => by
    have h1 : t.2.length = t.1.length + 1 := H.1
    have hpx : Pw t.1 := hp.sublist (its_sub H)
    have hpl := posK_le t.1 k
    have hz := zip_part (h := h) (xs := t.1) (ts := t.2) (i := posK t.1 k) hpl h1
    have hm := getD_mem (l := t.2) (i := posK t.1 k) (by omega) (dflt h)
    have hp0 : Pw (zipF t.1 (t.2.map (flat h))) := hp
    rw [getT_succ]
    show _ = getF (zipF t.1 (t.2.map (flat h))) k
    by_cases hK : isK t.1 k = true
    · rw [if_pos hK]
      obtain ⟨hlt, he⟩ := isK_at hK
      have e3 : t.1.drop (posK t.1 k) = t.1[posK t.1 k]! :: t.1.drop (posK t.1 k + 1) := by rw [getElem!_pos t.1 _ hlt]; exact List.drop_eq_getElem_cons hlt
      rw [e3, zipS_cons _ _ (by
        intro e
        have := congrArg List.length e
        simp at this
        omega)] at hz
      rw [hz] at hp0 ⊢
      have e5 := List.pairwise_append.1 hp0
      rw [getF_here he (fun z hz => by
        have := e5.2.2 z hz _ List.mem_cons_self
        rwa [he] at this)]
    · rw [if_neg hK, getT_flat k (H.2 _ hm).1 (hp.sublist (kid_sub H hm)), hz]
      rw [hz] at hp0
      have e5 := List.pairwise_append.1 hp0
      have e6 := List.pairwise_append.1 e5.1
      exact (getF_mid (pre_below (by simp; omega) (pos_split hpx k).1 e6.1) (suf_above (by simp; omega) (pos_above hpx (by simpa using hK)) e5.2.1)).symm
theorem getF_has (xs : List Im) (k : ByteArray) : (getF xs k).2 = hasF xs k := by
  unfold getF hasF
  cases e : xs.find? (fun y => decide (y.1 = k)) with
  | none =>
    rw [List.find?_eq_none] at e
    symm
    rw [List.any_eq_false]
    intro y hy
    simpa using e y hy
  | some y =>
    symm
    rw [List.any_eq_true]
    exact ⟨y, List.mem_of_find?_eq_some e, List.find?_some (p := fun (y : Im) => decide (y.1 = k)) e⟩
theorem drop_any {h : Nat} {t : Nd h} (R : Rt h t) (key : ByteArray) (b n : Nat) (hn0 : hasF (flat h t) key = true → 0 < n) (hn : n ≤ 1000000) (w : World) (T : Tr w b h t n) :
    Calls Try.prog 10 #[.pointer (some ⟨b, 0, none⟩), .string key] w fun e w' => e = .returned (.bool (hasF (flat h t) key)) ∧
      (∃ h3 t3, Rt h3 t3 ∧ flat h3 t3 = (if hasF (flat h t) key then delF (flat h t) key else flat h t) ∧ Tr w' b h3 t3 (if hasF (flat h t) key then n - 1 else n)) ∧ Onl b w w' := by
  have hm := R.most
  have hg := congrArg Prod.snd (getT_flat key R.bal R.pw)
  rw [getF_has] at hg
  cases hh : hasF (flat h t) key with
  | false =>
    rw [hh] at hg
    refine (drop_none R.ok key hg b n w T).mono ?_
    rintro e w2 ⟨rfl, hb2⟩
    exact ⟨rfl, ⟨h, t, R, rfl, T.later hb2⟩, Onl.of hb2⟩
  | true =>
    rw [hh] at hg
    have h0 : 0 < (its h t).length := by
      rcases R.some with rfl | h0
      · obtain ⟨y, hy, -⟩ := has_mem.1 hh
        exact List.length_pos_of_mem (show y ∈ its 0 t from hy)
      · exact h0
    obtain ⟨m1, m2, m3, m4⟩ := without_math key R.bal R.pw hh h0
    have hp2 : Pw (flat h (withoutT h t key)) := by rw [m2]; exact delF_pw R.pw key
    have k24 := fun W v (hL : Lies W h t v) => without_any key R.bal R.pw hh h0 (by omega) hL
    by_cases hz : h = 0 ∨ 0 < (its h (withoutT h t key)).length
    · have R3 : Rt h (withoutT h t key) := ⟨m1, hp2, by omega, hz⟩
      refine (drop_of R.ok key hg b n (hn0 hh) hn w T k24 (fun W v hL => ?_) R3.ok R3.some).mono ?_
      · rcases Nat.eq_zero_or_pos h with rfl | hpos
        · have hL0 := hL
          obtain ⟨p, c, q, d, rfl, -, -⟩ := hL
          refine (shrunk_leaf p _ c q d W).mono ?_
          rintro e w2 ⟨rfl, hb2⟩
          exact ⟨_, rfl, hL0.later hb2, hb2⟩
        · obtain ⟨k, rfl⟩ : ∃ k, h = k + 1 := ⟨h - 1, by omega⟩
          obtain ⟨p, c, q, d, L, rfl, -, -⟩ := hL.form
          have hk1 : 0 < (its (k + 1) (withoutT (k + 1) t key)).length := by
            rcases hz with hz | hz
            · omega
            · exact hz
          have hk2 : 0 < kdn (k + 1) (withoutT (k + 1) t key) := by
            have : (withoutT (k + 1) t key).2.length = (withoutT (k + 1) t key).1.length + 1 := m1.1
            show 0 < (withoutT (k + 1) t key).2.length
            omega
          refine (shrunk_same p _ c hk1 q _ d hk2 W).mono ?_
          rintro e w2 ⟨rfl, hb2⟩
          exact ⟨_, rfl, hL.later hb2, hb2⟩
      · rintro e w2 ⟨he, hT, hO⟩
        exact ⟨he, ⟨h, _, R3, m2, hT⟩, hO⟩
    · obtain ⟨k, rfl⟩ : ∃ k, h = k + 1 := ⟨h - 1, by omega⟩
      have hl0 : (its (k + 1) (withoutT (k + 1) t key)).length = 0 := by omega
      have e1 : (withoutT (k + 1) t key).1 = [] := List.eq_nil_of_length_eq_zero hl0
      have hk2 : (withoutT (k + 1) t key).2.length = (withoutT (k + 1) t key).1.length + 1 := m1.1
      rw [e1, List.length_nil] at hk2
      have hmem := getD_mem (l := (withoutT (k + 1) t key).2) (i := 0) (by omega) (dflt k)
      have hkb := m1.2 _ hmem
      have hfl : flat k ((withoutT (k + 1) t key).2.getD 0 (dflt k)) = flat (k + 1) (withoutT (k + 1) t key) := by
        obtain ⟨x, hx⟩ : ∃ x, (withoutT (k + 1) t key).2 = [x] := by
          match hq : (withoutT (k + 1) t key).2, hk2 with
          | [x], _ => exact ⟨x, rfl⟩
        show _ = zipF (withoutT (k + 1) t key).1 ((withoutT (k + 1) t key).2.map (flat k))
        rw [e1, hx]
        simp [zipF, zipS]
      have R3 : Rt k ((withoutT (k + 1) t key).2.getD 0 (dflt k)) := ⟨hkb.1, by rw [hfl]; exact hp2, hkb.2.2, .inr (by omega)⟩
      refine (drop_of R.ok key hg b n (hn0 hh) hn w T k24 (fun W v hL => ?_) R3.ok R3.some).mono ?_
      · obtain ⟨p, c, q, d, L, rfl, hS, hQ, hLL⟩ := hL.open
        obtain ⟨qb, qo, rfl, hqb, hqc⟩ := hQ.lies (by omega)
        obtain ⟨kp, kc, kq, kd, x0, x1, hkL⟩ := kid_row (b := qb) (o := qo) hLL hqc (i := 0) (by omega)
        rw [show qo + 0 * 2 = qo by omega] at x0 x1
        rw [e1]
        refine (shrunk_kid p c qb qo _ d (by omega) hQ.cap W hqb _ _ _ _ _ _ x0 x1).mono ?_
        rintro e w2 ⟨rfl, W1, X, rfl, hb1, hX, rX⟩
        exact ⟨_, rfl, (hkL.later hb1).kept rX (set2_size _ _ _ _) (set2_other _ _ _ _) R3.ok, below_set2 hb1 hX _ _⟩
      · rintro e w2 ⟨he, hT, hO⟩
        exact ⟨he, ⟨k, _, R3, hfl.trans m2, hT⟩, hO⟩
theorem wd_of : ∀ {h : Nat} {t : Nd h} {l : Nat}, Bal h t → l ≤ (its h t).length → (its h t).length ≤ 7 → (h = 0 ∨ 0 < (its h t).length) → Wd h l t
  | 0, _, _, _, h1, h2, _ => ⟨h1, h2⟩
  | h + 1, t, l, B, h1, h2, h3 => by
    refine ⟨h1, h2, ?_, B.1, fun i hi => ?_⟩
    · rcases h3 with h3 | h3
      · omega
      · exact h3
    · have hk := B.2 _ (getD_mem hi (dflt h))
      exact wd_of hk.1 hk.2.1 hk.2.2 (.inr (by omega))
theorem deep_any {h : Nat} {t : Nd h} (R : Rt h t) (hh : h ≤ 1000) (b n : Nat) (w : World) (T : Tr w b h t n) :
    Calls Try.prog 16 #[.pointer (some ⟨b, 0, none⟩)] w fun e w' => e = .returned (.int .i64 ((h : Int) + 1)) ∧ Below w.heap.size w w' := by
  have hsp := span_flat ⟨#[]⟩ ⟨#[]⟩ R.bal R.pw
  have hr : Ris (spT h t ⟨#[]⟩ ⟨#[]⟩) := by
    rw [hsp]
    exact (ris_pw _).2 (R.pw.sublist List.filter_sublist)
  exact deep_of b h t n w T hh _ hr (fun W v hL => deep_wd (l := 0) (wd_of R.bal (Nat.zero_le _) R.most R.some) hh hL) (fun x y bn bs W hb hL hn hs => span_seq _ _ R.ok hL hb hn hs)
end Go.Proofs.Ytiplmlalhmldbaa
