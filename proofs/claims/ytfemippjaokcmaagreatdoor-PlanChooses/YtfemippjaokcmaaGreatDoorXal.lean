/- The strongest expressions (strongest). Expressions of each rank (bound), whatever stands there. -/
import Derived.Test.YtfemippjaokcmaaGreatDoorXak
namespace Go.Proofs.YtfemippjaokcmaaGreatDoor
open Go.RowKit Go.Shelf
attribute [local go_sem] Oper.semAt_some fw0 fw1 fw2
theorem tookSign_no {w : World} {b : Nat} {p : Option Addr} {c : Nat} {ws : List Wd} {s : PS} (H : Ps w b p c ws s) (hz : Wz ws) (l : List UInt8) (h : isP (wAt ws s.at') 6 l = false) :
    Calls Tryz.prog 146 #[.pointer (some ⟨b, 0, none⟩), .string ⟨l.toArray⟩] w fun r w' => r = .returned (.bool false) ∧ Ps w' b p c ws s ∧ Onl b w w' := by
  have k := tookSign_any H hz ⟨l.toArray⟩
  rw [isW_isP, h] at k
  unfold tookP at k
  rw [isW_isP, h, if_neg Bool.false_ne_true] at k
  exact k
theorem tookSign_yes {w : World} {b : Nat} {p : Option Addr} {c : Nat} {ws : List Wd} {s : PS} (H : Ps w b p c ws s) (hz : Wz ws) (l : List UInt8) (h : isP (wAt ws s.at') 6 l = true) :
    Calls Tryz.prog 146 #[.pointer (some ⟨b, 0, none⟩), .string ⟨l.toArray⟩] w fun r w' => r = .returned (.bool true) ∧ Ps w' b p c ws (takeP s) ∧ Onl b w w' := by
  have k := tookSign_any H hz ⟨l.toArray⟩
  rw [isW_isP, h] at k
  unfold tookP at k
  rw [isW_isP, h, if_pos rfl] at k
  exact k
theorem tookKey_no {w : World} {b : Nat} {p : Option Addr} {c : Nat} {ws : List Wd} {s : PS} (H : Ps w b p c ws s) (hz : Wz ws) (l : List UInt8) (h : isP (wAt ws s.at') 2 l = false) :
    Calls Tryz.prog 80 #[.pointer (some ⟨b, 0, none⟩), .string ⟨l.toArray⟩] w fun r w' => r = .returned (.bool false) ∧ Ps w' b p c ws s ∧ Onl b w w' := by
  have k := tookKey_any H hz ⟨l.toArray⟩
  rw [isW_isP, h] at k
  unfold tookP at k
  rw [isW_isP, h, if_neg Bool.false_ne_true] at k
  exact k
theorem tookKey_yes {w : World} {b : Nat} {p : Option Addr} {c : Nat} {ws : List Wd} {s : PS} (H : Ps w b p c ws s) (hz : Wz ws) (l : List UInt8) (h : isP (wAt ws s.at') 2 l = true) :
    Calls Tryz.prog 80 #[.pointer (some ⟨b, 0, none⟩), .string ⟨l.toArray⟩] w fun r w' => r = .returned (.bool true) ∧ Ps w' b p c ws (takeP s) ∧ Onl b w w' := by
  have k := tookKey_any H hz ⟨l.toArray⟩
  rw [isW_isP, h] at k
  unfold tookP at k
  rw [isW_isP, h, if_pos rfl] at k
  exact k
theorem pkey_q {w : World} {b : Nat} {p : Option Addr} {c : Nat} {ws : List Wd} {s : PS} (H : Ps w b p c ws s) (hz : Wz ws) (l : List UInt8) :
    Calls Tryz.prog 118 #[.pointer (some ⟨b, 0, none⟩), .string ⟨l.toArray⟩] w fun r w' => r = .returned (.tuple #[]) ∧ Ps w' b p c ws (mustQ ws s 2 l) ∧ Onl b w w' := by
  have k := pkey_any H hz ⟨l.toArray⟩
  rw [mustP_mustQ] at k
  exact k
theorem psign_q {w : World} {b : Nat} {p : Option Addr} {c : Nat} {ws : List Wd} {s : PS} (H : Ps w b p c ws s) (hz : Wz ws) (l : List UInt8) :
    Calls Tryz.prog 144 #[.pointer (some ⟨b, 0, none⟩), .string ⟨l.toArray⟩] w fun r w' => r = .returned (.tuple #[]) ∧ Ps w' b p c ws (mustQ ws s 6 l) ∧ Onl b w w' := by
  have k := psign_any H hz ⟨l.toArray⟩
  rw [mustP_mustQ] at k
  exact k
theorem deepP_ne (ws : List Wd) (s : PS) : (deepP ws s).ne = s.ne + 1 := by
  unfold deepP failP
  split
  · split
    · rfl
    · rfl
  · rfl
theorem deepP_ex (ws : List Wd) (s : PS) : (deepP ws s).ex = s.ex := by
  unfold deepP failP
  split
  · split
    · rfl
    · rfl
  · rfl
/- What lies behind all of one's own: the value's box, then back. -/
set_option maxRecDepth 100000 in
set_option maxHeartbeats 8000000 in
theorem strongest_path {w : World} {b : Nat} {p : Option Addr} {c : Nat} {ws : List Wd} {s : PS} (H : Ps w b p c ws s) (hz : Wz ws) (hne : s.ne ≤ 100) (hex : s.ex ≤ 600000) (go : Nat → PS → Et × PS) (hl : Wl ws) (hgo : ∀ r u, u.at' < ws.length → Pk 0 0 ws u (go r u).2) (h1 : (wAt ws (deepP ws s).at').k = 1) :
    Calls Tryz.prog 164 #[.pointer (some ⟨b, 0, none⟩)] w (Gives ws (fun k => w.heap.size ≤ k) w b p c (strF ws go s)) := by
  have hold := H.old
  have lb := lt_of_row H.row
  have few := H.few
  obtain ⟨w1, hw1⟩ : ∃ w1, w.alloc (.cells #[.int .i64 0, .string ⟨#[]⟩, .int .i64 0, .bool false, .int .i64 0, .string ⟨#[]⟩, .slice none 0 0, .slice none 0 0, .slice none 0 0, .slice none 0 0] 28) = w1 := ⟨_, rfl⟩
  have hb1 : Below w.heap.size w w1 := by rw [← hw1]; exact (Below.refl _ w).alloc (Nat.le_refl _) _
  have hs1 : w1.heap.size = w.heap.size + 1 := by rw [← hw1]; simp
  have rz1 : w1.heap[w.heap.size]? = some (.cells zero10 28 (0, 0)) := by rw [← hw1]; exact heap_alloc_new _ _
  have kd := deeper_any (H.later hb1) (by omega)
  have hne1 := deepP_ne ws s
  have hex1 := deepP_ex ws s
  have htl := (Pk.refl (ws := ws) H.lt).deep.lt
  obtain ⟨t, ht⟩ : ∃ t, deepP ws s = t := ⟨_, rfl⟩
  rw [ht] at kd h1 hne1 hex1 htl
  unfold strF
  rw [ht]
  have HH : Hid (Below w.heap.size w w1) := hb1
  clear H hb1 ht
  have hS : strB ws go t = (fieldT (pathF ws t).1, wholeP ws (pathF ws t).2) := by unfold strB; rw [if_pos h1]
  have hpk := (Pk.refl (ws := ws) htl).str hz hgo
  have hnn := hpk.ne
  rw [hS] at hnn ⊢
  have hpx : (pathF ws t).2.ex ≤ 1000000 := by
    have := (Pk.path (c := 0) (e := 0) hz ws.length [nameS ws t] (nameP ws t) ((Pk.refl htl).name hz)).exb few
    have e : (pathF ws t).2 = (pathL ws ws.length [nameS ws t] (nameP ws t)).2 := rfl
    rw [e]
    omega
  clear hpk hS
  obtain ⟨X, hX⟩ : ∃ X, pathF ws t = X := ⟨_, rfl⟩
  have kp := fun W (hP : Ps W b p c ws t) => path_any hP hz hl
  rw [hX] at kp hpx hnn ⊢
  dsimp only at hnn ⊢
  clear hX hgo
  go_enter_defers Tryz.func164, Tryz.ntmps164
  go_wp2_with fail
  refine kd.mono ?_
  rintro q w2 ⟨rfl, hP2, hO2⟩
  have s2 := hO2.size
  have rz2 := (hO2.block _ (by omega) (by omega)).trans rz1
  have kw := word_any hP2
  unfold wdV at kw
  have HP2 : Hid (Ps w2 b p c ws t ∧ Onl b w1 w2) := ⟨hP2, hO2⟩
  clear kd hP2 hO2 rz1 hw1
  have hk' : ((wAt ws t.at').k : Int) = 1 := by omega
  rw [hk'] at kw
  clear hk'
  go_wp2_with fail
  refine kw.mono ?_
  rintro q w3 ⟨rfl, hb3⟩
  have s3 := hb3.size
  have rz3 := (hb3.block _ (by omega)).trans rz2
  have hP3 := HP2.out.1.later hb3
  have HO3 : Hid (Onl b w w3) := ((Onl.of HH.out).trans HP2.out.2).trans (Onl.of hb3)
  clear kw hb3 rz2 HP2
  have k3 := kp w3 hP3
  clear hP3 kp
  go_wp2_with fail
  refine k3.mono ?_
  rintro q w4 ⟨rfl, hP4, hO4⟩
  have s4 := hO4.size
  have rz4 := (hO4.block _ (by omega) (by omega)).trans rz3
  have HO4 : Hid (Onl b w w4) := HO3.out.trans hO4
  have kq := whole_any hP4 hpx (nodeE 2 X.1 0) none 0 none 0
  have kq' : Calls Tryz.prog 182 #[.pointer (some ⟨b, 0, none⟩), .agg #[.int .i64 2, .string X.1, .int .i64 0, .bool false, .int .i64 0, .string ⟨#[]⟩, .slice none 0 0, .slice none 0 0, .slice none 0 0, .slice none 0 0]] w4 fun r w' => r = .returned (enV (nodeE 2 X.1 0) none 0 none 0) ∧ Ps w' b p c ws (wholeP ws X.2) ∧ Onl b w4 w' := kq
  clear k3 kq hP4 hO4 rz3 HO3
  go_wp2_with fail
  refine kq'.mono ?_
  rintro q w5 ⟨rfl, hP5, hO5⟩
  have s5 := hO5.size
  have rz5 := (hO5.block _ (by omega) (by omega)).trans rz4
  have HO5 : Hid (Onl b w w5) := HO4.out.trans hO5
  obtain ⟨V, hV, h10, hon⟩ := enV_ones (nodeE 2 X.1 0) none 0 none 0
  rw [hV]
  have hL5 : LiesE w5 (fun k => w.heap.size + 1 ≤ k) 1 (fieldT X.1) (.agg V) := by rw [← hV]; exact LiesE.leaf _ _ (nodeE 2 X.1 0) rfl rfl _
  clear hV
  clear kq' hO5 rz4 HO4
  have hL0 : LiesE (put w5 w.heap.size V) (fun k => w.heap.size + 1 ≤ k) _ (fieldT X.1, wholeP ws X.2).1 (.agg V) := hL5.since (Since.put (by omega) _ _)
  have hP0 : Ps (put w5 w.heap.size V) b p c ws (fieldT X.1, wholeP ws X.2).2 := hP5.put lb hold V
  have hO0 := HO5.out.put w.heap.size (Nat.le_refl _) V
  have r0 := put_row V rz5 h10
  have hsp := put_size w5 w.heap.size V
  have HF : Hid (w5.heap[w.heap.size]? = some (.cells zero10 28 (0, 0)) ∧ V.size = 10 ∧ V.all (·.oneCell') = true) := ⟨rz5, h10, hon⟩
  obtain ⟨w0, hw0⟩ : ∃ w0, put w5 w.heap.size V = w0 := ⟨_, rfl⟩
  rw [hw0] at hL0 hP0 hO0 r0 hsp
  have H0 : Hid (LiesE w0 (fun k => w.heap.size + 1 ≤ k) _ (fieldT X.1, wholeP ws X.2).1 (.agg V) ∧ Ps w0 b p c ws (fieldT X.1, wholeP ws X.2).2 ∧ Onl b w w0 ∧ w0.heap[w.heap.size]? = some (.cells V 28 (0, 0))) := ⟨hL0, hP0, hO0, r0⟩
  clear hL5 hP5 HO5 rz5 h10 hon hL0 hP0 hO0 r0
  go_wp2_with (first | (refine wpList_put rfl 28 (.tmp 2) (.tmp 15) rfl rfl rfl rfl HF.out.1 HF.out.2.1 (i28 HF.out.2.1) HF.out.2.2 ?_; rw [hw0]) | fail)
  obtain ⟨hL0, hP0, hO0, r0⟩ := H0.out
  refine leaves_cons (f := 197) (args := #[.pointer (some ⟨b, 0, none⟩)]) (by simp) (by simp [go_sem]) ?_
  refine (back_d hP0 (by omega) (by omega) .returning).mono ?_
  rintro e u' w9 ⟨rfl, rfl, hP9, hO9⟩
  have r9 := (hO9.block _ (by omega) (by omega)).trans r0
  exact ⟨_, results_cell_row Tryz.results164 _ _ w.heap.size 28 _ (0, 0) _ rfl r9 Tryz.underlying28 rfl (i28 HF.out.2.1), _, .agg V, rfl, (hL0.since (Since.onl hO9 (by omega))).imp fun k hk _ => by omega, hP9, hO0.trans hO9⟩
set_option maxRecDepth 100000 in
set_option maxHeartbeats 8000000 in
theorem strongest_minus {w : World} {b : Nat} {p : Option Addr} {c : Nat} {ws : List Wd} {s : PS} (H : Ps w b p c ws s) (hz : Wz ws) (hne : s.ne ≤ 100) (hex : s.ex ≤ 600000) (go : Nat → PS → Et × PS) (hgo : ∀ r u, u.at' < ws.length → Pk 0 0 ws u (go r u).2) (hkn : ¬ (wAt ws (deepP ws s).at').k = 1) (h1 : isP (wAt ws (deepP ws s).at') 6 [45] = true)
    (kr : isP (wAt ws (deepP ws s).at') 6 [45] = true → ∀ W, Ps W b p c ws (takeP (deepP ws s)) → Calls Tryz.prog 164 #[.pointer (some ⟨b, 0, none⟩)] W (Gives ws (fun k => W.heap.size ≤ k) W b p c (go 6 (takeP (deepP ws s))))) :
    Calls Tryz.prog 164 #[.pointer (some ⟨b, 0, none⟩)] w (Gives ws (fun k => w.heap.size ≤ k) w b p c (strF ws go s)) := by
  have hold := H.old
  have lb := lt_of_row H.row
  have few := H.few
  obtain ⟨w1, hw1⟩ : ∃ w1, w.alloc (.cells #[.int .i64 0, .string ⟨#[]⟩, .int .i64 0, .bool false, .int .i64 0, .string ⟨#[]⟩, .slice none 0 0, .slice none 0 0, .slice none 0 0, .slice none 0 0] 28) = w1 := ⟨_, rfl⟩
  have hb1 : Below w.heap.size w w1 := by rw [← hw1]; exact (Below.refl _ w).alloc (Nat.le_refl _) _
  have hs1 : w1.heap.size = w.heap.size + 1 := by rw [← hw1]; simp
  have rz1 : w1.heap[w.heap.size]? = some (.cells zero10 28 (0, 0)) := by rw [← hw1]; exact heap_alloc_new _ _
  have kd := deeper_any (H.later hb1) (by omega)
  have hne1 := deepP_ne ws s
  have hex1 := deepP_ex ws s
  have htl := (Pk.refl (ws := ws) H.lt).deep.lt
  obtain ⟨t, ht⟩ : ∃ t, deepP ws s = t := ⟨_, rfl⟩
  rw [ht] at kd hkn h1 kr hne1 hex1 htl
  unfold strF
  rw [ht]
  have HH : Hid (Below w.heap.size w w1) := hb1
  clear H hb1 ht
  have hS : strB ws go t = (oneT 3 (go 6 (takeP t)).1, wholeP ws (go 6 (takeP t)).2) := by unfold strB; rw [if_neg hkn, if_pos h1]
  have hpk := (Pk.refl (ws := ws) htl).str hz hgo
  have hnn := hpk.ne
  rw [hS] at hnn ⊢
  have htk : (takeP t).at' < ws.length := hz.next htl (by rw [isP_kind h1]; decide)
  clear hpk hS
  have hgx : (go 6 (takeP t)).2.ex ≤ 1000000 := by
    have := (hgo 6 (takeP t) htk).exb few
    have e : (takeP t).ex = t.ex := rfl
    omega
  dsimp only at hnn ⊢
  have kr := kr h1
  obtain ⟨X, hX⟩ : ∃ X, go 6 (takeP t) = X := ⟨_, rfl⟩
  rw [hX] at kr hgx hnn ⊢
  clear hX hgo
  go_enter_defers Tryz.func164, Tryz.ntmps164
  go_wp2_with fail
  refine kd.mono ?_
  rintro q w2 ⟨rfl, hP2, hO2⟩
  have s2 := hO2.size
  have rz2 := (hO2.block _ (by omega) (by omega)).trans rz1
  have kw := word_any hP2
  unfold wdV at kw
  have HP2 : Hid (Ps w2 b p c ws t ∧ Onl b w1 w2) := ⟨hP2, hO2⟩
  clear kd hP2 hO2 rz1 hw1
  have hk' : ¬ ((wAt ws t.at').k : Int) = 1 := by omega
  generalize ((wAt ws t.at').k : Int) = kk at kw hk'
  go_wp2_with fail
  refine kw.mono ?_
  rintro q w3 ⟨rfl, hb3⟩
  have s3 := hb3.size
  have rz3 := (hb3.block _ (by omega)).trans rz2
  have hP3 := HP2.out.1.later hb3
  have HO3 : Hid (Onl b w w3) := ((Onl.of HH.out).trans HP2.out.2).trans (Onl.of hb3)
  clear kw hb3 rz2 HP2
  have k3 := tookSign_yes hP3 hz [45] h1
  have HP3 : Hid True := trivial
  clear hP3 HP3
  go_wp2_with fail
  refine k3.mono ?_
  rintro q w4 ⟨rfl, hP4, hO4⟩
  have s4 := hO4.size
  have rz4 := (hO4.block _ (by omega) (by omega)).trans rz3
  have HO4 : Hid (Onl b w w4) := HO3.out.trans hO4
  clear k3 hO4 rz3 HO3
  have k4 := kr w4 hP4
  clear hP4
  go_wp2_with fail
  refine k4.mono ?_
  rintro q w5 ⟨d5, v5, rfl, hL5, hP5, hO5⟩
  have s5 := hO5.size
  have rz5 := (hO5.block _ (by omega) (by omega)).trans rz4
  have HO5 : Hid (Onl b w w5) := HO4.out.trans hO5
  clear k4 hO5 rz4 HO4
  have k5 := around_any hP5 hgx 3 (S := fun k => w4.heap.size ≤ k) ⟨by omega, fun k hk => by omega⟩ hL5
  obtain ⟨R5, rfl⟩ := hL5.row
  unfold rowX at k5 ⊢
  clear hP5 hL5 kr
  go_wp2_with fail
  refine k5.mono ?_
  rintro q w6 ⟨v6, rfl, hL6, hP6, hO6⟩
  have s6 := hO6.size
  have rz6 := (hO6.block _ (by omega) (by omega)).trans rz5
  have HO6 : Hid (Onl b w w6) := HO5.out.trans hO6
  clear k5 hO6 rz5 HO5 h1
  obtain ⟨V, rfl, h10, hon⟩ := hL6.agg
  have hL0 : LiesE (put w6 w.heap.size V) (fun k => w4.heap.size ≤ k) _ (oneT 3 X.1, wholeP ws X.2).1 (.agg V) := hL6.since (Since.put (by omega) _ _)
  have hP0 : Ps (put w6 w.heap.size V) b p c ws (oneT 3 X.1, wholeP ws X.2).2 := hP6.put lb hold V
  have hO0 := HO6.out.put w.heap.size (Nat.le_refl _) V
  have r0 := put_row V rz6 h10
  have hsp := put_size w6 w.heap.size V
  have HF : Hid (w6.heap[w.heap.size]? = some (.cells zero10 28 (0, 0)) ∧ V.size = 10 ∧ V.all (·.oneCell') = true) := ⟨rz6, h10, hon⟩
  obtain ⟨w0, hw0⟩ : ∃ w0, put w6 w.heap.size V = w0 := ⟨_, rfl⟩
  rw [hw0] at hL0 hP0 hO0 r0 hsp
  have H0 : Hid (LiesE w0 (fun k => w4.heap.size ≤ k) _ (oneT 3 X.1, wholeP ws X.2).1 (.agg V) ∧ Ps w0 b p c ws (oneT 3 X.1, wholeP ws X.2).2 ∧ Onl b w w0 ∧ w0.heap[w.heap.size]? = some (.cells V 28 (0, 0))) := ⟨hL0, hP0, hO0, r0⟩
  clear hL6 hP6 HO6 rz6 h10 hon hL0 hP0 hO0 r0
  go_wp2_with (first | (refine wpList_put rfl 28 (.tmp 2) (.tmp 22) rfl rfl rfl rfl HF.out.1 HF.out.2.1 (i28 HF.out.2.1) HF.out.2.2 ?_; rw [hw0]) | fail)
  obtain ⟨hL0, hP0, hO0, r0⟩ := H0.out
  refine leaves_cons (f := 197) (args := #[.pointer (some ⟨b, 0, none⟩)]) (by simp) (by simp [go_sem]) ?_
  refine (back_d hP0 (by omega) (by omega) .returning).mono ?_
  rintro e u' w9 ⟨rfl, rfl, hP9, hO9⟩
  have r9 := (hO9.block _ (by omega) (by omega)).trans r0
  exact ⟨_, results_cell_row Tryz.results164 _ _ w.heap.size 28 _ (0, 0) _ rfl r9 Tryz.underlying28 rfl (i28 HF.out.2.1), _, .agg V, rfl, (hL0.since (Since.onl hO9 (by omega))).imp fun k hk _ => by omega, hP9, hO0.trans hO9⟩
set_option maxRecDepth 100000 in
set_option maxHeartbeats 8000000 in
theorem strongest_brackets {w : World} {b : Nat} {p : Option Addr} {c : Nat} {ws : List Wd} {s : PS} (H : Ps w b p c ws s) (hz : Wz ws) (hne : s.ne ≤ 100) (_hex : s.ex ≤ 600000) (go : Nat → PS → Et × PS) (hgo : ∀ r u, u.at' < ws.length → Pk 0 0 ws u (go r u).2) (hkn : ¬ (wAt ws (deepP ws s).at').k = 1) (n45 : isP (wAt ws (deepP ws s).at') 6 [45] = false) (h1 : isP (wAt ws (deepP ws s).at') 6 [40] = true)
    (kr : ∀ W u, Ps W b p c ws u → Pk 0 0 ws (takeP (deepP ws s)) u → Calls Tryz.prog 120 #[.pointer (some ⟨b, 0, none⟩)] W (Gives ws (fun k => W.heap.size ≤ k) W b p c (go 0 u))) :
    Calls Tryz.prog 164 #[.pointer (some ⟨b, 0, none⟩)] w (Gives ws (fun k => w.heap.size ≤ k) w b p c (strF ws go s)) := by
  have hold := H.old
  have lb := lt_of_row H.row
  have few := H.few
  obtain ⟨w1, hw1⟩ : ∃ w1, w.alloc (.cells #[.int .i64 0, .string ⟨#[]⟩, .int .i64 0, .bool false, .int .i64 0, .string ⟨#[]⟩, .slice none 0 0, .slice none 0 0, .slice none 0 0, .slice none 0 0] 28) = w1 := ⟨_, rfl⟩
  have hb1 : Below w.heap.size w w1 := by rw [← hw1]; exact (Below.refl _ w).alloc (Nat.le_refl _) _
  have hs1 : w1.heap.size = w.heap.size + 1 := by rw [← hw1]; simp
  have rz1 : w1.heap[w.heap.size]? = some (.cells zero10 28 (0, 0)) := by rw [← hw1]; exact heap_alloc_new _ _
  have kd := deeper_any (H.later hb1) (by omega)
  have hne1 := deepP_ne ws s
  have hex1 := deepP_ex ws s
  have htl := (Pk.refl (ws := ws) H.lt).deep.lt
  obtain ⟨t, ht⟩ : ∃ t, deepP ws s = t := ⟨_, rfl⟩
  rw [ht] at kd hkn n45 h1 kr hne1 hex1 htl
  unfold strF
  rw [ht]
  have HH : Hid (Below w.heap.size w w1) := hb1
  clear H hb1 ht
  have hS : strB ws go t = ((go 0 (takeP t)).1, mustQ ws (go 0 (takeP t)).2 6 [41]) := by unfold strB; rw [if_neg hkn, if_neg (by rw [n45]; exact Bool.false_ne_true), if_pos h1]
  have hpk := (Pk.refl (ws := ws) htl).str hz hgo
  have hnn := hpk.ne
  rw [hS] at hnn ⊢
  have htk : (takeP t).at' < ws.length := hz.next htl (by rw [isP_kind h1]; decide)
  clear hpk hS
  dsimp only at hnn ⊢
  obtain ⟨X, hX⟩ : ∃ X, go 0 (takeP t) = X := ⟨_, rfl⟩
  have kr := fun W hP => kr W (takeP t) hP (Pk.refl htk)
  rw [hX] at kr hnn ⊢
  clear hX hgo
  go_enter_defers Tryz.func164, Tryz.ntmps164
  go_wp2_with fail
  refine kd.mono ?_
  rintro q w2 ⟨rfl, hP2, hO2⟩
  have s2 := hO2.size
  have rz2 := (hO2.block _ (by omega) (by omega)).trans rz1
  have kw := word_any hP2
  unfold wdV at kw
  have HP2 : Hid (Ps w2 b p c ws t ∧ Onl b w1 w2) := ⟨hP2, hO2⟩
  clear kd hP2 hO2 rz1 hw1
  have hk' : ¬ ((wAt ws t.at').k : Int) = 1 := by omega
  generalize ((wAt ws t.at').k : Int) = kk at kw hk'
  go_wp2_with fail
  refine kw.mono ?_
  rintro q w3 ⟨rfl, hb3⟩
  have s3 := hb3.size
  have rz3 := (hb3.block _ (by omega)).trans rz2
  have hP3 := HP2.out.1.later hb3
  have HO3 : Hid (Onl b w w3) := ((Onl.of HH.out).trans HP2.out.2).trans (Onl.of hb3)
  clear kw hb3 rz2 HP2
  have k3 := tookSign_no hP3 hz [45] n45
  have HP3 : Hid True := trivial
  clear hP3 HP3
  go_wp2_with fail
  refine k3.mono ?_
  rintro q w4 ⟨rfl, hP4, hO4⟩
  have s4 := hO4.size
  have rz4 := (hO4.block _ (by omega) (by omega)).trans rz3
  have HO4 : Hid (Onl b w w4) := HO3.out.trans hO4
  clear k3 hO4 rz3 HO3
  have k4 := tookSign_yes hP4 hz [40] h1
  have HP4 : Hid True := trivial
  clear hP4 HP4
  go_wp2_with fail
  refine k4.mono ?_
  rintro q w5 ⟨rfl, hP5, hO5⟩
  have s5 := hO5.size
  have rz5 := (hO5.block _ (by omega) (by omega)).trans rz4
  have HO5 : Hid (Onl b w w5) := HO4.out.trans hO5
  clear k4 hO5 rz4 HO4
  have k5 := kr w5 hP5
  clear hP5
  go_wp2_with fail
  refine k5.mono ?_
  rintro q w6 ⟨d6, v6, rfl, hL6, hP6, hO6⟩
  have s6 := hO6.size
  have rz6 := (hO6.block _ (by omega) (by omega)).trans rz5
  have HO6 : Hid (Onl b w w6) := HO5.out.trans hO6
  clear k5 hO6 rz5 HO5
  obtain ⟨V, rfl, h10, hon⟩ := hL6.agg
  obtain ⟨w7, hw7⟩ : ∃ w7, put (w6.alloc (.cells #[.int .i64 0, .string ⟨#[]⟩, .int .i64 0, .bool false, .int .i64 0, .string ⟨#[]⟩, .slice none 0 0, .slice none 0 0, .slice none 0 0, .slice none 0 0] 28)) w6.heap.size V = w7 := ⟨_, rfl⟩
  have ra : (w6.alloc (.cells #[.int .i64 0, .string ⟨#[]⟩, .int .i64 0, .bool false, .int .i64 0, .string ⟨#[]⟩, .slice none 0 0, .slice none 0 0, .slice none 0 0, .slice none 0 0] 28)).heap[w6.heap.size]? = some (.cells zero10 28 (0, 0)) := heap_alloc_new _ _
  have hb7 : Below w6.heap.size w6 w7 := by rw [← hw7]; exact put_below ((Below.refl _ w6).alloc (Nat.le_refl _) _) _ (Nat.le_refl _) _
  have s7 : w7.heap.size = w6.heap.size + 1 := by rw [← hw7, put_size]; simp
  have rx7 : w7.heap[w6.heap.size]? = some (.cells V 28 (0, 0)) := by rw [← hw7]; exact put_row _ ra h10
  have rz7 := (hb7.block _ (by omega)).trans rz6
  have k7 := psign_q (hP6.later hb7) hz [41]
  have H7 : Hid (LiesE w7 (fun k => w5.heap.size ≤ k) d6 X.1 (.agg V) ∧ Onl b w w7 ∧ (w6.alloc (.cells #[.int .i64 0, .string ⟨#[]⟩, .int .i64 0, .bool false, .int .i64 0, .string ⟨#[]⟩, .slice none 0 0, .slice none 0 0, .slice none 0 0, .slice none 0 0] 28)).heap[w6.heap.size]? = some (.cells zero10 28 (0, 0)) ∧ V.size = 10 ∧ V.all (·.oneCell') = true ∧ w7.heap[w6.heap.size]? = some (.cells V 28 (0, 0))) := ⟨hL6.since (Since.below hb7), HO6.out.trans (Onl.of hb7), ra, h10, hon, rx7⟩
  clear hL6 hP6 HO6 hb7 rx7 rz6 ra h10 hon
  go_wp2_with (first | (refine wpList_put rfl 28 (.tmp 3) (.tmp 27) rfl rfl rfl rfl H7.out.2.2.1 H7.out.2.2.2.1 (i28 H7.out.2.2.2.1) H7.out.2.2.2.2.1 ?_; rw [hw7]) | fail)
  refine k7.mono ?_
  rintro q w8 ⟨rfl, hP8, hO8⟩
  have s8 := hO8.size
  have rz8 := (hO8.block _ (by omega) (by omega)).trans rz7
  have rx8 := (hO8.block _ (by omega) (by omega)).trans H7.out.2.2.2.2.2
  have HO8 : Hid (Onl b w w8) := H7.out.2.1.trans hO8
  have hL8 : LiesE w8 (fun k => w5.heap.size ≤ k) d6 X.1 (.agg V) := H7.out.1.since (Since.onl hO8 (by omega))
  have h10 := H7.out.2.2.2.1
  have HX8 : Hid (w8.heap[w6.heap.size]? = some (.cells V 28 (0, 0)) ∧ V.size = 10) := ⟨rx8, h10⟩
  clear k7 hO8 rz7 rx8 hw7 h1
  have hon := H7.out.2.2.2.2.1
  have hL0 : LiesE (put w8 w.heap.size V) (fun k => w5.heap.size ≤ k) _ (X.1, mustQ ws X.2 6 [41]).1 (.agg V) := hL8.since (Since.put (by omega) _ _)
  have hP0 : Ps (put w8 w.heap.size V) b p c ws (X.1, mustQ ws X.2 6 [41]).2 := hP8.put lb hold V
  have hO0 := HO8.out.put w.heap.size (Nat.le_refl _) V
  have r0 := put_row V rz8 h10
  have hsp := put_size w8 w.heap.size V
  have HF : Hid (w8.heap[w.heap.size]? = some (.cells zero10 28 (0, 0)) ∧ V.size = 10 ∧ V.all (·.oneCell') = true) := ⟨rz8, h10, hon⟩
  obtain ⟨w0, hw0⟩ : ∃ w0, put w8 w.heap.size V = w0 := ⟨_, rfl⟩
  rw [hw0] at hL0 hP0 hO0 r0 hsp
  have H0 : Hid (LiesE w0 (fun k => w5.heap.size ≤ k) _ (X.1, mustQ ws X.2 6 [41]).1 (.agg V) ∧ Ps w0 b p c ws (X.1, mustQ ws X.2 6 [41]).2 ∧ Onl b w w0 ∧ w0.heap[w.heap.size]? = some (.cells V 28 (0, 0))) := ⟨hL0, hP0, hO0, r0⟩
  clear hL8 hP8 HO8 rz8 h10 hon hL0 hP0 hO0 r0
  go_wp2_with (first | (refine wpList_get rfl 28 (.tmp 3) rfl rfl HX8.out.1 Tryz.underlying28 rfl (i28 HX8.out.2) ?_; simp only [Act.put, List.setIfInBounds_toArray, List.set_cons_zero, List.set_cons_succ]) | (refine wpList_put rfl 28 (.tmp 2) (.tmp 30) rfl rfl rfl rfl HF.out.1 HF.out.2.1 (i28 HF.out.2.1) HF.out.2.2 ?_; rw [hw0]) | fail)
  obtain ⟨hL0, hP0, hO0, r0⟩ := H0.out
  refine leaves_cons (f := 197) (args := #[.pointer (some ⟨b, 0, none⟩)]) (by simp) (by simp [go_sem]) ?_
  refine (back_d hP0 (by omega) (by omega) .returning).mono ?_
  rintro e u' w9 ⟨rfl, rfl, hP9, hO9⟩
  have r9 := (hO9.block _ (by omega) (by omega)).trans r0
  exact ⟨_, results_cell_row Tryz.results164 _ _ w.heap.size 28 _ (0, 0) _ rfl r9 Tryz.underlying28 rfl (i28 HF.out.2.1), _, .agg V, rfl, (hL0.since (Since.onl hO9 (by omega))).imp fun k hk _ => by omega, hP9, hO0.trans hO9⟩
set_option maxRecDepth 100000 in
set_option maxHeartbeats 8000000 in
theorem strongest_list {w : World} {b : Nat} {p : Option Addr} {c : Nat} {ws : List Wd} {s : PS} (H : Ps w b p c ws s) (hz : Wz ws) (hne : s.ne ≤ 100) (hex : s.ex ≤ 600000) (go : Nat → PS → Et × PS) (hgo : ∀ r u, u.at' < ws.length → Pk 0 0 ws u (go r u).2) (hkn : ¬ (wAt ws (deepP ws s).at').k = 1) (n45 : isP (wAt ws (deepP ws s).at') 6 [45] = false) (n40 : isP (wAt ws (deepP ws s).at') 6 [40] = false) (h1 : isP (wAt ws (deepP ws s).at') 6 [91] = true)
    (kr : ∀ W u, Ps W b p c ws u → Pk 0 0 ws (takeP (deepP ws s)) u → Calls Tryz.prog 120 #[.pointer (some ⟨b, 0, none⟩)] W (Gives ws (fun k => W.heap.size ≤ k) W b p c (go 0 u))) :
    Calls Tryz.prog 164 #[.pointer (some ⟨b, 0, none⟩)] w (Gives ws (fun k => w.heap.size ≤ k) w b p c (strF ws go s)) := by
  have hold := H.old
  have lb := lt_of_row H.row
  have few := H.few
  obtain ⟨w1, hw1⟩ : ∃ w1, w.alloc (.cells #[.int .i64 0, .string ⟨#[]⟩, .int .i64 0, .bool false, .int .i64 0, .string ⟨#[]⟩, .slice none 0 0, .slice none 0 0, .slice none 0 0, .slice none 0 0] 28) = w1 := ⟨_, rfl⟩
  have hb1 : Below w.heap.size w w1 := by rw [← hw1]; exact (Below.refl _ w).alloc (Nat.le_refl _) _
  have hs1 : w1.heap.size = w.heap.size + 1 := by rw [← hw1]; simp
  have rz1 : w1.heap[w.heap.size]? = some (.cells zero10 28 (0, 0)) := by rw [← hw1]; exact heap_alloc_new _ _
  have kd := deeper_any (H.later hb1) (by omega)
  have hne1 := deepP_ne ws s
  have hex1 := deepP_ex ws s
  have htl := (Pk.refl (ws := ws) H.lt).deep.lt
  obtain ⟨t, ht⟩ : ∃ t, deepP ws s = t := ⟨_, rfl⟩
  rw [ht] at kd hkn n45 n40 h1 kr hne1 hex1 htl
  unfold strF
  rw [ht]
  have HH : Hid (Below w.heap.size w w1) := hb1
  clear H hb1 ht
  have hS : strB ws go t = listF ws (go 0) (takeP t) := by unfold strB; rw [if_neg hkn, if_neg (by rw [n45]; exact Bool.false_ne_true), if_neg (by rw [n40]; exact Bool.false_ne_true), if_pos h1]
  have hpk := (Pk.refl (ws := ws) htl).str hz hgo
  have hnn := hpk.ne
  rw [hS] at hnn ⊢
  have htk : (takeP t).at' < ws.length := hz.next htl (by rw [isP_kind h1]; decide)
  clear hpk hS
  have kr := fun W (hP : Ps W b p c ws (takeP t)) => list_any hP hz (show (takeP t).ex ≤ 700000 by have e : (takeP t).ex = t.ex := rfl; omega) (go 0) (hgo 0) kr
  obtain ⟨X, hX⟩ : ∃ X, listF ws (go 0) (takeP t) = X := ⟨_, rfl⟩
  rw [hX] at kr hnn ⊢
  clear hX hgo
  go_enter_defers Tryz.func164, Tryz.ntmps164
  go_wp2_with fail
  refine kd.mono ?_
  rintro q w2 ⟨rfl, hP2, hO2⟩
  have s2 := hO2.size
  have rz2 := (hO2.block _ (by omega) (by omega)).trans rz1
  have kw := word_any hP2
  unfold wdV at kw
  have HP2 : Hid (Ps w2 b p c ws t ∧ Onl b w1 w2) := ⟨hP2, hO2⟩
  clear kd hP2 hO2 rz1 hw1
  have hk' : ¬ ((wAt ws t.at').k : Int) = 1 := by omega
  generalize ((wAt ws t.at').k : Int) = kk at kw hk'
  go_wp2_with fail
  refine kw.mono ?_
  rintro q w3 ⟨rfl, hb3⟩
  have s3 := hb3.size
  have rz3 := (hb3.block _ (by omega)).trans rz2
  have hP3 := HP2.out.1.later hb3
  have HO3 : Hid (Onl b w w3) := ((Onl.of HH.out).trans HP2.out.2).trans (Onl.of hb3)
  clear kw hb3 rz2 HP2
  have k3 := tookSign_no hP3 hz [45] n45
  have HP3 : Hid True := trivial
  clear hP3 HP3
  go_wp2_with fail
  refine k3.mono ?_
  rintro q w4 ⟨rfl, hP4, hO4⟩
  have s4 := hO4.size
  have rz4 := (hO4.block _ (by omega) (by omega)).trans rz3
  have HO4 : Hid (Onl b w w4) := HO3.out.trans hO4
  clear k3 hO4 rz3 HO3
  have k4 := tookSign_no hP4 hz [40] n40
  have HP4 : Hid True := trivial
  clear hP4 HP4
  go_wp2_with fail
  refine k4.mono ?_
  rintro q w5 ⟨rfl, hP5, hO5⟩
  have s5 := hO5.size
  have rz5 := (hO5.block _ (by omega) (by omega)).trans rz4
  have HO5 : Hid (Onl b w w5) := HO4.out.trans hO5
  clear k4 hO5 rz4 HO4
  have k5 := tookSign_yes hP5 hz [91] h1
  have HP5 : Hid True := trivial
  clear hP5 HP5
  go_wp2_with fail
  refine k5.mono ?_
  rintro q w6 ⟨rfl, hP6, hO6⟩
  have s6 := hO6.size
  have rz6 := (hO6.block _ (by omega) (by omega)).trans rz5
  have HO6 : Hid (Onl b w w6) := HO5.out.trans hO6
  clear k5 hO6 rz5 HO5
  have k6 := kr w6 hP6
  clear hP6
  go_wp2_with fail
  refine k6.mono ?_
  rintro q w7 ⟨d7, v7, rfl, hL7, hP7, hO7⟩
  have s7 := hO7.size
  have rz7 := (hO7.block _ (by omega) (by omega)).trans rz6
  have HO7 : Hid (Onl b w w7) := HO6.out.trans hO7
  clear k6 hO7 rz6 HO6
  clear h1 kr
  obtain ⟨V, rfl, h10, hon⟩ := hL7.agg
  have hL0 : LiesE (put w7 w.heap.size V) (fun k => w6.heap.size ≤ k) _ X.1 (.agg V) := hL7.since (Since.put (by omega) _ _)
  have hP0 : Ps (put w7 w.heap.size V) b p c ws X.2 := hP7.put lb hold V
  have hO0 := HO7.out.put w.heap.size (Nat.le_refl _) V
  have r0 := put_row V rz7 h10
  have hsp := put_size w7 w.heap.size V
  have HF : Hid (w7.heap[w.heap.size]? = some (.cells zero10 28 (0, 0)) ∧ V.size = 10 ∧ V.all (·.oneCell') = true) := ⟨rz7, h10, hon⟩
  obtain ⟨w0, hw0⟩ : ∃ w0, put w7 w.heap.size V = w0 := ⟨_, rfl⟩
  rw [hw0] at hL0 hP0 hO0 r0 hsp
  have H0 : Hid (LiesE w0 (fun k => w6.heap.size ≤ k) _ X.1 (.agg V) ∧ Ps w0 b p c ws X.2 ∧ Onl b w w0 ∧ w0.heap[w.heap.size]? = some (.cells V 28 (0, 0))) := ⟨hL0, hP0, hO0, r0⟩
  clear hL7 hP7 HO7 rz7 h10 hon hL0 hP0 hO0 r0
  go_wp2_with (first | (refine wpList_put rfl 28 (.tmp 2) (.tmp 35) rfl rfl rfl rfl HF.out.1 HF.out.2.1 (i28 HF.out.2.1) HF.out.2.2 ?_; rw [hw0]) | fail)
  obtain ⟨hL0, hP0, hO0, r0⟩ := H0.out
  refine leaves_cons (f := 197) (args := #[.pointer (some ⟨b, 0, none⟩)]) (by simp) (by simp [go_sem]) ?_
  refine (back_d hP0 (by omega) (by omega) .returning).mono ?_
  rintro e u' w9 ⟨rfl, rfl, hP9, hO9⟩
  have r9 := (hO9.block _ (by omega) (by omega)).trans r0
  exact ⟨_, results_cell_row Tryz.results164 _ _ w.heap.size 28 _ (0, 0) _ rfl r9 Tryz.underlying28 rfl (i28 HF.out.2.1), _, .agg V, rfl, (hL0.since (Since.onl hO9 (by omega))).imp fun k hk _ => by omega, hP9, hO0.trans hO9⟩
set_option maxRecDepth 100000 in
set_option maxHeartbeats 8000000 in
theorem strongest_struct {w : World} {b : Nat} {p : Option Addr} {c : Nat} {ws : List Wd} {s : PS} (H : Ps w b p c ws s) (hz : Wz ws) (hne : s.ne ≤ 100) (hex : s.ex ≤ 600000) (go : Nat → PS → Et × PS) (hgo : ∀ r u, u.at' < ws.length → Pk 0 0 ws u (go r u).2) (hkn : ¬ (wAt ws (deepP ws s).at').k = 1) (n45 : isP (wAt ws (deepP ws s).at') 6 [45] = false) (n40 : isP (wAt ws (deepP ws s).at') 6 [40] = false) (n91 : isP (wAt ws (deepP ws s).at') 6 [91] = false) (h1 : isP (wAt ws (deepP ws s).at') 6 [123] = true)
    (kr : ∀ W u, Ps W b p c ws u → Pk 0 0 ws (takeP (deepP ws s)) u → Calls Tryz.prog 120 #[.pointer (some ⟨b, 0, none⟩)] W (Gives ws (fun k => W.heap.size ≤ k) W b p c (go 0 u))) :
    Calls Tryz.prog 164 #[.pointer (some ⟨b, 0, none⟩)] w (Gives ws (fun k => w.heap.size ≤ k) w b p c (strF ws go s)) := by
  have hold := H.old
  have lb := lt_of_row H.row
  have few := H.few
  obtain ⟨w1, hw1⟩ : ∃ w1, w.alloc (.cells #[.int .i64 0, .string ⟨#[]⟩, .int .i64 0, .bool false, .int .i64 0, .string ⟨#[]⟩, .slice none 0 0, .slice none 0 0, .slice none 0 0, .slice none 0 0] 28) = w1 := ⟨_, rfl⟩
  have hb1 : Below w.heap.size w w1 := by rw [← hw1]; exact (Below.refl _ w).alloc (Nat.le_refl _) _
  have hs1 : w1.heap.size = w.heap.size + 1 := by rw [← hw1]; simp
  have rz1 : w1.heap[w.heap.size]? = some (.cells zero10 28 (0, 0)) := by rw [← hw1]; exact heap_alloc_new _ _
  have kd := deeper_any (H.later hb1) (by omega)
  have hne1 := deepP_ne ws s
  have hex1 := deepP_ex ws s
  have htl := (Pk.refl (ws := ws) H.lt).deep.lt
  obtain ⟨t, ht⟩ : ∃ t, deepP ws s = t := ⟨_, rfl⟩
  rw [ht] at kd hkn n45 n40 n91 h1 kr hne1 hex1 htl
  unfold strF
  rw [ht]
  have HH : Hid (Below w.heap.size w w1) := hb1
  clear H hb1 ht
  have hS : strB ws go t = structF ws (go 0) (takeP t) := by unfold strB; rw [if_neg hkn, if_neg (by rw [n45]; exact Bool.false_ne_true), if_neg (by rw [n40]; exact Bool.false_ne_true), if_neg (by rw [n91]; exact Bool.false_ne_true), if_pos h1]
  have hpk := (Pk.refl (ws := ws) htl).str hz hgo
  have hnn := hpk.ne
  rw [hS] at hnn ⊢
  have htk : (takeP t).at' < ws.length := hz.next htl (by rw [isP_kind h1]; decide)
  clear hpk hS
  have kr := fun W (hP : Ps W b p c ws (takeP t)) => structure_any hP hz (show (takeP t).ex ≤ 700000 by have e : (takeP t).ex = t.ex := rfl; omega) (go 0) (hgo 0) kr
  obtain ⟨X, hX⟩ : ∃ X, structF ws (go 0) (takeP t) = X := ⟨_, rfl⟩
  rw [hX] at kr hnn ⊢
  clear hX hgo
  go_enter_defers Tryz.func164, Tryz.ntmps164
  go_wp2_with fail
  refine kd.mono ?_
  rintro q w2 ⟨rfl, hP2, hO2⟩
  have s2 := hO2.size
  have rz2 := (hO2.block _ (by omega) (by omega)).trans rz1
  have kw := word_any hP2
  unfold wdV at kw
  have HP2 : Hid (Ps w2 b p c ws t ∧ Onl b w1 w2) := ⟨hP2, hO2⟩
  clear kd hP2 hO2 rz1 hw1
  have hk' : ¬ ((wAt ws t.at').k : Int) = 1 := by omega
  generalize ((wAt ws t.at').k : Int) = kk at kw hk'
  go_wp2_with fail
  refine kw.mono ?_
  rintro q w3 ⟨rfl, hb3⟩
  have s3 := hb3.size
  have rz3 := (hb3.block _ (by omega)).trans rz2
  have hP3 := HP2.out.1.later hb3
  have HO3 : Hid (Onl b w w3) := ((Onl.of HH.out).trans HP2.out.2).trans (Onl.of hb3)
  clear kw hb3 rz2 HP2
  have k3 := tookSign_no hP3 hz [45] n45
  have HP3 : Hid True := trivial
  clear hP3 HP3
  go_wp2_with fail
  refine k3.mono ?_
  rintro q w4 ⟨rfl, hP4, hO4⟩
  have s4 := hO4.size
  have rz4 := (hO4.block _ (by omega) (by omega)).trans rz3
  have HO4 : Hid (Onl b w w4) := HO3.out.trans hO4
  clear k3 hO4 rz3 HO3
  have k4 := tookSign_no hP4 hz [40] n40
  have HP4 : Hid True := trivial
  clear hP4 HP4
  go_wp2_with fail
  refine k4.mono ?_
  rintro q w5 ⟨rfl, hP5, hO5⟩
  have s5 := hO5.size
  have rz5 := (hO5.block _ (by omega) (by omega)).trans rz4
  have HO5 : Hid (Onl b w w5) := HO4.out.trans hO5
  clear k4 hO5 rz4 HO4
  have k5 := tookSign_no hP5 hz [91] n91
  have HP5 : Hid True := trivial
  clear hP5 HP5
  go_wp2_with fail
  refine k5.mono ?_
  rintro q w6 ⟨rfl, hP6, hO6⟩
  have s6 := hO6.size
  have rz6 := (hO6.block _ (by omega) (by omega)).trans rz5
  have HO6 : Hid (Onl b w w6) := HO5.out.trans hO6
  clear k5 hO6 rz5 HO5
  have k6 := tookSign_yes hP6 hz [123] h1
  have HP6 : Hid True := trivial
  clear hP6 HP6
  go_wp2_with fail
  refine k6.mono ?_
  rintro q w7 ⟨rfl, hP7, hO7⟩
  have s7 := hO7.size
  have rz7 := (hO7.block _ (by omega) (by omega)).trans rz6
  have HO7 : Hid (Onl b w w7) := HO6.out.trans hO7
  clear k6 hO7 rz6 HO6
  have k7 := kr w7 hP7
  clear hP7
  go_wp2_with fail
  refine k7.mono ?_
  rintro q w8 ⟨d8, v8, rfl, hL8, hP8, hO8⟩
  have s8 := hO8.size
  have rz8 := (hO8.block _ (by omega) (by omega)).trans rz7
  have HO8 : Hid (Onl b w w8) := HO7.out.trans hO8
  clear k7 hO8 rz7 HO7
  clear h1 kr
  obtain ⟨V, rfl, h10, hon⟩ := hL8.agg
  have hL0 : LiesE (put w8 w.heap.size V) (fun k => w7.heap.size ≤ k) _ X.1 (.agg V) := hL8.since (Since.put (by omega) _ _)
  have hP0 : Ps (put w8 w.heap.size V) b p c ws X.2 := hP8.put lb hold V
  have hO0 := HO8.out.put w.heap.size (Nat.le_refl _) V
  have r0 := put_row V rz8 h10
  have hsp := put_size w8 w.heap.size V
  have HF : Hid (w8.heap[w.heap.size]? = some (.cells zero10 28 (0, 0)) ∧ V.size = 10 ∧ V.all (·.oneCell') = true) := ⟨rz8, h10, hon⟩
  obtain ⟨w0, hw0⟩ : ∃ w0, put w8 w.heap.size V = w0 := ⟨_, rfl⟩
  rw [hw0] at hL0 hP0 hO0 r0 hsp
  have H0 : Hid (LiesE w0 (fun k => w7.heap.size ≤ k) _ X.1 (.agg V) ∧ Ps w0 b p c ws X.2 ∧ Onl b w w0 ∧ w0.heap[w.heap.size]? = some (.cells V 28 (0, 0))) := ⟨hL0, hP0, hO0, r0⟩
  clear hL8 hP8 HO8 rz8 h10 hon hL0 hP0 hO0 r0
  go_wp2_with (first | (refine wpList_put rfl 28 (.tmp 2) (.tmp 40) rfl rfl rfl rfl HF.out.1 HF.out.2.1 (i28 HF.out.2.1) HF.out.2.2 ?_; rw [hw0]) | fail)
  obtain ⟨hL0, hP0, hO0, r0⟩ := H0.out
  refine leaves_cons (f := 197) (args := #[.pointer (some ⟨b, 0, none⟩)]) (by simp) (by simp [go_sem]) ?_
  refine (back_d hP0 (by omega) (by omega) .returning).mono ?_
  rintro e u' w9 ⟨rfl, rfl, hP9, hO9⟩
  have r9 := (hO9.block _ (by omega) (by omega)).trans r0
  exact ⟨_, results_cell_row Tryz.results164 _ _ w.heap.size 28 _ (0, 0) _ rfl r9 Tryz.underlying28 rfl (i28 HF.out.2.1), _, .agg V, rfl, (hL0.since (Since.onl hO9 (by omega))).imp fun k hk _ => by omega, hP9, hO0.trans hO9⟩
set_option maxRecDepth 100000 in
set_option maxHeartbeats 8000000 in
theorem strongest_literal {w : World} {b : Nat} {p : Option Addr} {c : Nat} {ws : List Wd} {s : PS} (H : Ps w b p c ws s) (hz : Wz ws) (hne : s.ne ≤ 100) (hex : s.ex ≤ 600000) (go : Nat → PS → Et × PS) (hl : Wl ws) (hgo : ∀ r u, u.at' < ws.length → Pk 0 0 ws u (go r u).2) (hkn : ¬ (wAt ws (deepP ws s).at').k = 1) (n45 : isP (wAt ws (deepP ws s).at') 6 [45] = false) (n40 : isP (wAt ws (deepP ws s).at') 6 [40] = false) (n91 : isP (wAt ws (deepP ws s).at') 6 [91] = false) (n123 : isP (wAt ws (deepP ws s).at') 6 [123] = false) :
    Calls Tryz.prog 164 #[.pointer (some ⟨b, 0, none⟩)] w (Gives ws (fun k => w.heap.size ≤ k) w b p c (strF ws go s)) := by
  have hold := H.old
  have lb := lt_of_row H.row
  have few := H.few
  obtain ⟨w1, hw1⟩ : ∃ w1, w.alloc (.cells #[.int .i64 0, .string ⟨#[]⟩, .int .i64 0, .bool false, .int .i64 0, .string ⟨#[]⟩, .slice none 0 0, .slice none 0 0, .slice none 0 0, .slice none 0 0] 28) = w1 := ⟨_, rfl⟩
  have hb1 : Below w.heap.size w w1 := by rw [← hw1]; exact (Below.refl _ w).alloc (Nat.le_refl _) _
  have hs1 : w1.heap.size = w.heap.size + 1 := by rw [← hw1]; simp
  have rz1 : w1.heap[w.heap.size]? = some (.cells zero10 28 (0, 0)) := by rw [← hw1]; exact heap_alloc_new _ _
  have kd := deeper_any (H.later hb1) (by omega)
  have hne1 := deepP_ne ws s
  have hex1 := deepP_ex ws s
  have htl := (Pk.refl (ws := ws) H.lt).deep.lt
  obtain ⟨t, ht⟩ : ∃ t, deepP ws s = t := ⟨_, rfl⟩
  rw [ht] at kd hkn n45 n40 n91 n123 hne1 hex1 htl
  unfold strF
  rw [ht]
  have HH : Hid (Below w.heap.size w w1) := hb1
  clear H hb1 ht
  have hS : strB ws go t = litF ws t := by unfold strB; rw [if_neg hkn, if_neg (by rw [n45]; exact Bool.false_ne_true), if_neg (by rw [n40]; exact Bool.false_ne_true), if_neg (by rw [n91]; exact Bool.false_ne_true), if_neg (by rw [n123]; exact Bool.false_ne_true)]
  have hpk := (Pk.refl (ws := ws) htl).str hz hgo
  have hnn := hpk.ne
  rw [hS] at hnn ⊢
  clear hpk hS
  have kr := fun W (hP : Ps W b p c ws t) => literal_any hP hz (by omega) (hl t.at').1 (hl t.at').2
  obtain ⟨X, hX⟩ : ∃ X, litF ws t = X := ⟨_, rfl⟩
  rw [hX] at kr hnn ⊢
  clear hX hgo
  go_enter_defers Tryz.func164, Tryz.ntmps164
  go_wp2_with fail
  refine kd.mono ?_
  rintro q w2 ⟨rfl, hP2, hO2⟩
  have s2 := hO2.size
  have rz2 := (hO2.block _ (by omega) (by omega)).trans rz1
  have kw := word_any hP2
  unfold wdV at kw
  have HP2 : Hid (Ps w2 b p c ws t ∧ Onl b w1 w2) := ⟨hP2, hO2⟩
  clear kd hP2 hO2 rz1 hw1
  have hk' : ¬ ((wAt ws t.at').k : Int) = 1 := by omega
  generalize ((wAt ws t.at').k : Int) = kk at kw hk'
  go_wp2_with fail
  refine kw.mono ?_
  rintro q w3 ⟨rfl, hb3⟩
  have s3 := hb3.size
  have rz3 := (hb3.block _ (by omega)).trans rz2
  have hP3 := HP2.out.1.later hb3
  have HO3 : Hid (Onl b w w3) := ((Onl.of HH.out).trans HP2.out.2).trans (Onl.of hb3)
  clear kw hb3 rz2 HP2
  have k3 := tookSign_no hP3 hz [45] n45
  have HP3 : Hid True := trivial
  clear hP3 HP3
  go_wp2_with fail
  refine k3.mono ?_
  rintro q w4 ⟨rfl, hP4, hO4⟩
  have s4 := hO4.size
  have rz4 := (hO4.block _ (by omega) (by omega)).trans rz3
  have HO4 : Hid (Onl b w w4) := HO3.out.trans hO4
  clear k3 hO4 rz3 HO3
  have k4 := tookSign_no hP4 hz [40] n40
  have HP4 : Hid True := trivial
  clear hP4 HP4
  go_wp2_with fail
  refine k4.mono ?_
  rintro q w5 ⟨rfl, hP5, hO5⟩
  have s5 := hO5.size
  have rz5 := (hO5.block _ (by omega) (by omega)).trans rz4
  have HO5 : Hid (Onl b w w5) := HO4.out.trans hO5
  clear k4 hO5 rz4 HO4
  have k5 := tookSign_no hP5 hz [91] n91
  have HP5 : Hid True := trivial
  clear hP5 HP5
  go_wp2_with fail
  refine k5.mono ?_
  rintro q w6 ⟨rfl, hP6, hO6⟩
  have s6 := hO6.size
  have rz6 := (hO6.block _ (by omega) (by omega)).trans rz5
  have HO6 : Hid (Onl b w w6) := HO5.out.trans hO6
  clear k5 hO6 rz5 HO5
  have k6 := tookSign_no hP6 hz [123] n123
  have HP6 : Hid True := trivial
  clear hP6 HP6
  go_wp2_with fail
  refine k6.mono ?_
  rintro q w7 ⟨rfl, hP7, hO7⟩
  have s7 := hO7.size
  have rz7 := (hO7.block _ (by omega) (by omega)).trans rz6
  have HO7 : Hid (Onl b w w7) := HO6.out.trans hO7
  clear k6 hO7 rz6 HO6
  have k7 := kr w7 hP7
  clear hP7
  go_wp2_with fail
  refine k7.mono ?_
  rintro q w8 ⟨d8, v8, rfl, hL8, hP8, hO8⟩
  have s8 := hO8.size
  have rz8 := (hO8.block _ (by omega) (by omega)).trans rz7
  have HO8 : Hid (Onl b w w8) := HO7.out.trans hO8
  clear k7 hO8 rz7 HO7
  clear kr
  obtain ⟨V, rfl, h10, hon⟩ := hL8.agg
  have hL0 : LiesE (put w8 w.heap.size V) (fun k => w7.heap.size ≤ k) _ X.1 (.agg V) := hL8.since (Since.put (by omega) _ _)
  have hP0 : Ps (put w8 w.heap.size V) b p c ws X.2 := hP8.put lb hold V
  have hO0 := HO8.out.put w.heap.size (Nat.le_refl _) V
  have r0 := put_row V rz8 h10
  have hsp := put_size w8 w.heap.size V
  have HF : Hid (w8.heap[w.heap.size]? = some (.cells zero10 28 (0, 0)) ∧ V.size = 10 ∧ V.all (·.oneCell') = true) := ⟨rz8, h10, hon⟩
  obtain ⟨w0, hw0⟩ : ∃ w0, put w8 w.heap.size V = w0 := ⟨_, rfl⟩
  rw [hw0] at hL0 hP0 hO0 r0 hsp
  have H0 : Hid (LiesE w0 (fun k => w7.heap.size ≤ k) _ X.1 (.agg V) ∧ Ps w0 b p c ws X.2 ∧ Onl b w w0 ∧ w0.heap[w.heap.size]? = some (.cells V 28 (0, 0))) := ⟨hL0, hP0, hO0, r0⟩
  clear hL8 hP8 HO8 rz8 h10 hon hL0 hP0 hO0 r0
  go_wp2_with (first | (refine wpList_put rfl 28 (.tmp 2) (.tmp 42) rfl rfl rfl rfl HF.out.1 HF.out.2.1 (i28 HF.out.2.1) HF.out.2.2 ?_; rw [hw0]) | fail)
  obtain ⟨hL0, hP0, hO0, r0⟩ := H0.out
  refine leaves_cons (f := 197) (args := #[.pointer (some ⟨b, 0, none⟩)]) (by simp) (by simp [go_sem]) ?_
  refine (back_d hP0 (by omega) (by omega) .returning).mono ?_
  rintro e u' w9 ⟨rfl, rfl, hP9, hO9⟩
  have r9 := (hO9.block _ (by omega) (by omega)).trans r0
  exact ⟨_, results_cell_row Tryz.results164 _ _ w.heap.size 28 _ (0, 0) _ rfl r9 Tryz.underlying28 rfl (i28 HF.out.2.1), _, .agg V, rfl, (hL0.since (Since.onl hO9 (by omega))).imp fun k hk _ => by omega, hP9, hO0.trans hO9⟩
end Go.Proofs.YtfemippjaokcmaaGreatDoor
namespace Go.Proofs.YtfemippjaokcmaaGreatDoor
open Go.RowKit Go.Shelf
/- How a parser may stand ahead of an expression: not too deep, or at the end already. -/
structure Gd (ws : List Wd) (s : PS) : Prop where
  ne : s.ne ≤ 24 ∨ (s.ne = 25 ∧ s.at' + 1 = ws.length)
  er : s.er ≠ 0 → s.at' + 1 = ws.length
  ex : s.ex ≤ s.at'
theorem Gd.pk {ws : List Wd} {s u : PS} (h : Gd ws s) (k : Pk 0 0 ws s u) : Gd ws u := by
  have a := k.ne
  have b := k.lt
  have c := k.ge
  have d := k.ex
  have e := h.ex
  refine ⟨?_, k.er h.er, by omega⟩
  rcases h.ne with h1 | ⟨h1, h2⟩
  · left; omega
  · right; omega
theorem Gd.le {ws : List Wd} {s : PS} (h : Gd ws s) : s.ne ≤ 25 := by
  rcases h.ne with h1 | ⟨h1, h2⟩ <;> omega
theorem Gd.deep {ws : List Wd} {s : PS} (hz : Wz ws) (h : Gd ws s) (hlt : s.at' < ws.length) (hk : (wAt ws (deepP ws s).at').k ≠ 0) : Gd ws (deepP ws s) ∧ (deepP ws s).ne ≤ 24 := by
  unfold deepP at hk ⊢
  split at hk
  · next h1 =>
    unfold failP at hk
    split at hk
    · exact absurd ((hz (ws.length - 1) (by omega)).2 (by omega)) hk
    · next h2 =>
      have h3 := h.er h2
      exact absurd ((hz s.at' hlt).2 h3) hk
  · next h1 =>
    rw [if_neg h1]
    exact ⟨⟨Or.inl (by simp only; omega), h.er, h.ex⟩, by simp only; omega⟩
theorem notS_pk {ws : List Wd} (hz : Wz ws) {s : PS} (h : s.at' < ws.length) : Pk 0 1 ws s (notS ws s) := (Pk.refl h).deep.must hz (by decide) _
theorem notS_gd {ws : List Wd} (hz : Wz ws) {s : PS} (h : Gd ws s) (hlt : s.at' < ws.length) (hi : isP (wAt ws s.at') 2 [78, 79, 84] = true) : Gd ws (notS ws s) := by
  have hk : (wAt ws s.at').k ≠ 0 := by rw [isP_kind hi]; decide
  have hnx := hz.next hlt hk
  have her : s.er = 0 := by
    by_cases h0 : s.er = 0
    · exact h0
    · have := h.er h0; omega
  have hne : s.ne ≤ 24 := by
    rcases h.ne with h1 | ⟨h1, h2⟩
    · exact h1
    · omega
  have hex := h.ex
  by_cases h1 : 24 < s.ne + 1
  · have e : deepP ws s = ⟨ws.length - 1, s.ex, s.ne + 1, 3, (wAt ws s.at').a⟩ := by
      unfold deepP failP
      rw [if_pos h1]
      simp only [her, if_true]
    have hk0 : (wAt ws (ws.length - 1)).k = 0 := (hz (ws.length - 1) (by omega)).2 (by omega)
    have e2 : notS ws s = ⟨ws.length - 1, s.ex, s.ne + 1, 3, (wAt ws s.at').a⟩ := by
      unfold notS mustQ
      rw [e]
      have hf : isP (wAt ws (ws.length - 1)) 2 [78, 79, 84] = false := by
        unfold isP
        rw [hk0]
        rfl
      simp only [hf]
      unfold failP
      simp
    rw [e2]
    exact ⟨Or.inr ⟨by simp only; omega, by simp only; omega⟩, fun _ => by simp only; omega, by simp only; omega⟩
  · have e : deepP ws s = { s with ne := s.ne + 1 } := by
      unfold deepP
      rw [if_neg h1]
    have e2 : notS ws s = takeP { s with ne := s.ne + 1 } := by
      unfold notS mustQ
      rw [e]
      simp only [hi, if_true]
    rw [e2]
    exact ⟨Or.inl (by simp only [takeP]; omega), fun hq => absurd her hq, by simp only [takeP]; omega⟩
theorem cmpF_in {ws : List Wd} (hz : Wz ws) (F : PS → Et × PS) (s : PS) (hs : s.at' < ws.length) (hF : ∀ u, u.at' < ws.length → Pk 0 0 ws u (F u).2) : cmpF ws (fun u => if u.at' < ws.length then F u else (zeroT, s)) s = cmpF ws F s := by
  unfold cmpF
  have e : (if s.at' < ws.length then F s else (zeroT, s)) = F s := if_pos hs
  simp only [e]
  congr 1
  unfold cmpS
  split
  · next hr =>
    unfold sidesF
    have h1 := hz.next (hF s hs).lt (rankI_kind (by rw [hr]; decide))
    have h2 : (takeP (F s).2).at' < ws.length := h1
    simp only [h2, if_true]
  · rfl
theorem strongest_all {w : World} {b : Nat} {p : Option Addr} {c : Nat} {ws : List Wd} {s : PS} (H : Ps w b p c ws s) (hz : Wz ws) (hl : Wl ws) (g : Gd ws s) (go : Nat → PS → Et × PS) (hgo : ∀ r u, u.at' < ws.length → Pk 0 0 ws u (go r u).2)
    (k6 : ∀ W u, Ps W b p c ws u → Gd ws u → u.ne = s.ne + 1 → Calls Tryz.prog 164 #[.pointer (some ⟨b, 0, none⟩)] W (Gives ws (fun k => W.heap.size ≤ k) W b p c (go 6 u)))
    (k0 : ∀ W u, Ps W b p c ws u → Gd ws u → u.ne = s.ne + 1 → Calls Tryz.prog 120 #[.pointer (some ⟨b, 0, none⟩)] W (Gives ws (fun k => W.heap.size ≤ k) W b p c (go 0 u))) :
    Calls Tryz.prog 164 #[.pointer (some ⟨b, 0, none⟩)] w (Gives ws (fun k => w.heap.size ≤ k) w b p c (strF ws go s)) := by
  have hne := g.le
  have hex := g.ex
  have few := H.few
  have hlt := H.lt
  have hd := (Pk.refl (ws := ws) H.lt).deep
  have hdn := deepP_ne ws s
  have htake : ∀ l, isP (wAt ws (deepP ws s).at') 6 l = true → Gd ws (takeP (deepP ws s)) ∧ (takeP (deepP ws s)).ne = s.ne + 1 := by
    intro l hi
    have hk : (wAt ws (deepP ws s).at').k ≠ 0 := by rw [isP_kind hi]; decide
    have h1 := g.deep hz hlt hk
    exact ⟨h1.1.pk ((Pk.refl hd.lt).is hz hi (by decide)).less, hdn⟩
  have hkr : ∀ l, isP (wAt ws (deepP ws s).at') 6 l = true → ∀ W u, Ps W b p c ws u → Pk 0 0 ws (takeP (deepP ws s)) u → Calls Tryz.prog 120 #[.pointer (some ⟨b, 0, none⟩)] W (Gives ws (fun k => W.heap.size ≤ k) W b p c (go 0 u)) := by
    intro l hi W u hP hpk
    have h1 := htake l hi
    refine k0 W u hP (h1.1.pk hpk) ?_
    have := hpk.ne
    rw [h1.2] at this
    exact this
  by_cases h1 : (wAt ws (deepP ws s).at').k = 1
  · exact strongest_path H hz (by omega) (by omega) go hl hgo h1
  · cases n45 : isP (wAt ws (deepP ws s).at') 6 [45] with
    | true => exact strongest_minus H hz (by omega) (by omega) go hgo h1 n45 (fun hi W hP => k6 W _ hP (htake _ hi).1 (htake _ hi).2)
    | false =>
      cases n40 : isP (wAt ws (deepP ws s).at') 6 [40] with
      | true => exact strongest_brackets H hz (by omega) (by omega) go hgo h1 n45 n40 (hkr _ n40)
      | false =>
        cases n91 : isP (wAt ws (deepP ws s).at') 6 [91] with
        | true => exact strongest_list H hz (by omega) (by omega) go hgo h1 n45 n40 n91 (hkr _ n91)
        | false =>
          cases n123 : isP (wAt ws (deepP ws s).at') 6 [123] with
          | true => exact strongest_struct H hz (by omega) (by omega) go hgo h1 n45 n40 n91 n123 (hkr _ n123)
          | false => exact strongest_literal H hz (by omega) (by omega) go hl hgo h1 n45 n40 n91 n123
theorem both_any {b : Nat} {p : Option Addr} {c : Nat} {ws : List Wd} (hz : Wz ws) (hl : Wl ws) : ∀ (n : Nat), (∀ (rank : Nat) {w : World} {s : PS}, Ps w b p c ws s → rank < 7 → (27 - s.ne) * 8 ≤ n + rank → Gd ws s →
    Calls Tryz.prog 145 #[.pointer (some ⟨b, 0, none⟩), .int .i64 (rank : Int)] w (Gives ws (fun k => w.heap.size ≤ k) w b p c (pr ws n rank s))) ∧
    (∀ {w : World} {s : PS}, Ps w b p c ws s → (27 - s.ne) * 8 ≤ n + 6 → Gd ws s → Calls Tryz.prog 164 #[.pointer (some ⟨b, 0, none⟩)] w (Gives ws (fun k => w.heap.size ≤ k) w b p c (pr ws n 6 s))) := by
  intro n
  induction n with
  | zero =>
    refine ⟨fun rank w s H hr hm g => ?_, fun {w s} H hm g => ?_⟩
    · have := g.le; omega
    · have := g.le; omega
  | succ n ih =>
    obtain ⟨ihb, iht⟩ := ih
    have hok := fun r u hu => pr_ok hz n r u hu
    have hstr : ∀ {w : World} {s : PS}, Ps w b p c ws s → (27 - s.ne) * 8 ≤ n + 1 + 6 → Gd ws s → Calls Tryz.prog 164 #[.pointer (some ⟨b, 0, none⟩)] w (Gives ws (fun k => w.heap.size ≤ k) w b p c (pr ws (n + 1) 6 s)) := by
      intro w s H hm g
      have e : pr ws (n + 1) 6 s = strF ws (pr ws n) s := rfl
      rw [e]
      refine strongest_all H hz hl g (pr ws n) hok (fun W u hP gu hn => iht hP (by omega) gu) (fun W u hP gu hn => expression_any hP _ (fun W2 hP2 => ?_))
      exact ihb 0 hP2 (by omega) (by omega) gu
    refine ⟨fun rank w s H hr hm g => ?_, fun {w s} H hm g => hstr H hm g⟩
    have few := H.few
    have hlt := H.lt
    have hex := g.ex
    have hle := g.le
    by_cases h2 : rank = 2
    · subst h2
      have e : pr ws (n + 1) 2 s = negF ws (pr ws n) s := rfl
      rw [e]
      have hp := notS_pk hz hlt
      have hq := hok 2 (notS ws s) hp.lt
      refine bound_not H _ (fun W hP => negation_any hP hz (by omega) (pr ws n) (fun W hP => ihb 3 hP (by omega) (by omega) g) (fun hi W hP => ihb 2 hP (by omega) ?_ (notS_gd hz g hlt hi)) ?_ ?_)
      · have := hp.ne; omega
      · have a1 := hp.exb few
        have a2 := hq.exb few
        omega
      · have a1 := hp.ne
        have a2 := hq.ne
        omega
    · by_cases h3 : rank = 3
      · subst h3
        have e : pr ws (n + 1) 3 s = cmpF ws (pr ws n 4) s := rfl
        rw [e, ← cmpF_in hz (pr ws n 4) s hlt (hok 4)]
        have h4 := hok 4 s hlt
        have hx4 := h4.exb few
        refine bound_cmp H _ (fun W hP => comparison_any hP hz _ (fun W hP => ?_) ?_ ?_ (fun W hP => ?_) ?_)
        · rw [if_pos hlt]
          exact ihb 4 hP (by omega) (by omega) g
        · rw [if_pos hlt]; exact h4.lt
        · rw [if_pos hlt]; omega
        · rw [if_pos hlt] at hP ⊢
          have h5 : (takeP (pr ws n 4 s).2).at' < ws.length := hP.lt
          rw [if_pos h5]
          have hk : (wAt ws (pr ws n 4 s).2.at').k ≠ 0 := fun h0 => by
            have h6 := (hz _ h4.lt).1 h0
            have h7 : (pr ws n 4 s).2.at' + 1 < ws.length := h5
            omega
          have hpk := (h4.take hz hk).less
          have hn := hpk.ne
          exact ihb 4 hP (by omega) (by omega) (g.pk hpk)
        · rw [if_pos hlt]
          split
          · next h5 =>
            have hk : (wAt ws (pr ws n 4 s).2.at').k ≠ 0 := fun h0 => by
              have h6 := (hz _ h4.lt).1 h0
              have h7 : (pr ws n 4 s).2.at' + 1 < ws.length := h5
              omega
            have hpk := (h4.take hz hk).less
            have a1 := hpk.exb few
            have a2 := (hok 4 _ h5).exb few
            omega
          · simp only; omega
      · by_cases h6 : rank = 6
        · subst h6
          exact bound_top H _ (fun W hP => hstr hP (by omega) g)
        · have e : pr ws (n + 1) rank s = loopF ws (pr ws n (rank + 1)) rank ws.length (pr ws n (rank + 1) s) := by
            show (if rank = 2 then _ else if rank = 3 then _ else if rank = 6 then _ else _) = _
            rw [if_neg h2, if_neg h3, if_neg h6]
          rw [e]
          refine bound_loop H hz (by omega) rank hr (by omega) (by omega) (by omega) (pr ws n (rank + 1)) (hok (rank + 1)) (fun W u hP hpk => ?_)
          have hn := hpk.ne
          exact ihb (rank + 1) hP (by omega) (by omega) (g.pk hpk)
/- An expression, as the parser has it. -/
def exprF (ws : List Wd) (s : PS) : Et × PS := pr ws 300 0 s
theorem expr_any {w : World} {b : Nat} {p : Option Addr} {c : Nat} {ws : List Wd} {s : PS} (H : Ps w b p c ws s) (hz : Wz ws) (hl : Wl ws) (g : Gd ws s) :
    Calls Tryz.prog 120 #[.pointer (some ⟨b, 0, none⟩)] w (Gives ws (fun k => w.heap.size ≤ k) w b p c (exprF ws s)) :=
  expression_any H _ (fun _ hP => (both_any hz hl 300).1 0 hP (by decide) (by omega) g)
theorem exprF_ok {ws : List Wd} (hz : Wz ws) (s : PS) (h : s.at' < ws.length) : Pk 0 0 ws s (exprF ws s).2 := pr_ok hz 300 0 s h
end Go.Proofs.YtfemippjaokcmaaGreatDoor
