/- A node whose kid has too few keys, which is not the first (joined). -/
import Derived.Test.YtiplmlalhmldbaaJoi
namespace Go.Proofs.Ytiplmlalhmldbaa
open Go.RowKit Go.Shelf
attribute [local go_sem] Oper.semAt_some
set_option maxRecDepth 100000 in
set_option maxHeartbeats 8000000 in
theorem joined_succ {h : Nat} (xs : List Im) (ts : List (Nd h)) (kid : Nd h) (j : Nat) (hj : j < xs.length) (hn : xs.length ≤ 50) (hts : ts.length = xs.length + 1) (hA : (its h (ts.getD j (dflt h))).length ≤ 50 ∧ kdn h (ts.getD j (dflt h)) ≤ 60) (hB : (its h kid).length ≤ 50 ∧ kdn h kid ≤ 60)
    (okb : Ok h (joinT h (ts.getD j (dflt h)) xs[j]! kid)) (hsub : ∀ t ∈ ts.take (j + 1) ++ ts.drop (j + 2), Ok h t ∧ 0 < (its h t).length) (R : Nd (h + 1)) (okR : Ok (h + 1) R)
    (k36 : ∀ W p c q d n m bv, Lies W (h + 1) (((xs.take j ++ xs.drop (j + 1)), (ts.take (j + 1) ++ ts.drop (j + 2))) : List Im × List (Nd h)) (.agg #[.slice p n c, .slice q m d]) → Lies W h (joinT h (ts.getD j (dflt h)) xs[j]! kid) bv → Calls Try.prog 36 #[.agg #[.slice p n c, .slice q m d], .int .i64 (j : Int), bv] W fun e w' => ∃ v, e = .returned v ∧ Lies w' (h + 1) R v ∧ Below W.heap.size W w')
    (p : Option Addr) (c : Nat) (q : Option Addr) (d : Nat) (w : World) (hS : Sl w p xs.length c (itC xs)) (L : List Value) (hQ : Sl w q ts.length d L) (hL : LiesL w h ts L) (kv : Value) (hkv : Lies w h kid kv) :
    Calls Try.prog 44 #[.agg #[.slice p xs.length c, .slice q ts.length d], .int .i64 ((j : Int) + 1), kv] w fun e w' => ∃ v, e = .returned v ∧ Lies w' (h + 1) R v ∧ Below w.heap.size w w' := by
  obtain ⟨kp, kc, kq, kd, BL, rfl, hkS, hkQ, hkK⟩ := hkv.formK
  obtain ⟨qb, qo, rfl, hqb, hqc⟩ := hQ.lies (by omega)
  obtain ⟨rp, rc, rq, rd, rx0, rx1, hrL⟩ := kid_row (b := qb) (o := qo) hL hqc (i := 1) (by omega)
  obtain ⟨lp, lc, lq, ld, lx0, lx1, hlL⟩ := kid_row (b := qb) (o := qo) hL hqc (i := j) (by omega)
  have hcap := hQ.cap
  have hcap2 := hS.cap
  have hmx : maxLen = 9223372036854775807 := rfl
  have hc1 : ¬ ((c : Int) < (j : Int) + 1) := by omega
  have hX7 : Sl w (if c = j then p else Option.map (fun x => x.add (j * 2)) p) 1 (c - j) (itC [xs[j]!]) := by
    have h1 := hS.mid (a := j) (b := j + 1) (by omega) (by omega)
    rw [← itC_drop, ← itC_take] at h1
    have e : (xs.drop j).take (j + 1 - j) = [xs[j]!] := by
      rw [show j + 1 - j = 1 by omega, getElem!_pos xs j hj, List.drop_eq_getElem_cons hj]
      rfl
    rw [e, show j + 1 - j = 1 by omega] at h1
    exact h1
  have HTS : Hid (ts.length = xs.length + 1) := hts
  have HOB : Hid (Ok h (joinT h (ts.getD j (dflt h)) xs[j]! kid)) := okb
  have HSUB : Hid (∀ t ∈ ts.take (j + 1) ++ ts.drop (j + 2), Ok h t ∧ 0 < (its h t).length) := hsub
  have HOR : Hid (Ok (h + 1) R) := okR
  have K36 : Hid (∀ W p c q d n m bv, Lies W (h + 1) (((xs.take j ++ xs.drop (j + 1)), (ts.take (j + 1) ++ ts.drop (j + 2))) : List Im × List (Nd h)) (.agg #[.slice p n c, .slice q m d]) → Lies W h (joinT h (ts.getD j (dflt h)) xs[j]! kid) bv → Calls Try.prog 36 #[.agg #[.slice p n c, .slice q m d], .int .i64 (j : Int), bv] W fun e w' => ∃ v, e = .returned v ∧ Lies w' (h + 1) R v ∧ Below W.heap.size W w') := k36
  clear okb hsub okR k36
  obtain ⟨w3, hw3⟩ : ∃ w3, ((w.alloc (.cells #[.slice p xs.length c, .slice (some ⟨qb, qo, none⟩) ts.length d] 59)).alloc (.cells #[.slice kp (its h kid).length kc, .slice kq (kdn h kid) kd] 59)).alloc (.cells #[.slice none 0 0, .slice none 0 0] 59) = w3 := ⟨_, rfl⟩
  have hb3 : Below w.heap.size w w3 := by rw [← hw3]; exact (((Below.refl _ w).alloc (Nat.le_refl _) _).alloc (by simp) _).alloc (by simp; omega) _
  have r0 : w3.heap[w.heap.size]? = some (.cells #[.slice p xs.length c, .slice (some ⟨qb, qo, none⟩) ts.length d] 59 (0, 0)) := by
    rw [← hw3, Below.heap_alloc _ _ _ (by simp; omega), Below.heap_alloc _ _ _ (by simp)]; exact heap_alloc_new _ _
  have r1 : w3.heap[w.heap.size + 1]? = some (.cells #[.slice kp (its h kid).length kc, .slice kq (kdn h kid) kd] 59 (0, 0)) := by
    rw [← hw3, Below.heap_alloc _ _ _ (by simp)]
    have := heap_alloc_new (w.alloc (.cells #[.slice p xs.length c, .slice (some ⟨qb, qo, none⟩) ts.length d] 59)) (.cells #[.slice kp (its h kid).length kc, .slice kq (kdn h kid) kd] 59)
    simpa using this
  have r2 : w3.heap[w.heap.size + 1 + 1]? = some (.cells #[.slice none 0 0, .slice none 0 0] 59 (0, 0)) := by
    rw [← hw3]
    have := heap_alloc_new ((w.alloc (.cells #[.slice p xs.length c, .slice (some ⟨qb, qo, none⟩) ts.length d] 59)).alloc (.cells #[.slice kp (its h kid).length kc, .slice kq (kdn h kid) kd] 59)) (.cells #[.slice none 0 0, .slice none 0 0] 59)
    simpa using this
  have s3 : w3.heap.size = w.heap.size + 1 + 1 + 1 := by rw [← hw3]; simp
  obtain ⟨rn, hrn⟩ : ∃ n, (its h (ts.getD 1 (dflt h))).length = n := ⟨_, rfl⟩
  obtain ⟨rm, hrm⟩ : ∃ n, kdn h (ts.getD 1 (dflt h)) = n := ⟨_, rfl⟩
  rw [hrn] at rx0
  rw [hrm] at rx1
  have b1 := cell_of_row w3 _ 1 _ _ _ r0
  have rx0' := (cell_later hb3 hqb).trans rx0
  have rx1' := (cell_later hb3 hqb).trans rx1
  have h1ts : (1 : Int) < (ts.length : Int) := by omega
  obtain ⟨kn, hkn⟩ : ∃ n, (its h kid).length = n := ⟨_, rfl⟩
  obtain ⟨km, hkm⟩ : ∃ n, kdn h kid = n := ⟨_, rfl⟩
  rw [hkn, hkm] at r1
  have b5 := cell_of_row w3 _ 0 _ _ _ r1
  have b6 := cell_of_row w3 _ 1 _ _ _ r1
  rw [hkn, hkm]
  rw [hkn, hkm] at hw3
  obtain ⟨w4, hw4⟩ : ∃ w4, w3.alloc (.cells #[.slice rp rn rc, .slice rq rm rd] 59) = w4 := ⟨_, rfl⟩
  have o4 : ∀ k, k < w3.heap.size → w4.heap[k]? = w3.heap[k]? := fun k hk => by rw [← hw4, Below.heap_alloc _ _ _ hk]
  have q0 := (o4 _ (lt_of_row r0)).trans r0
  have q1 := (o4 _ (lt_of_row r1)).trans r1
  have q2 := (o4 _ (lt_of_row r2)).trans r2
  have q3 : w4.heap[w.heap.size + 1 + 1 + 1]? = some (.cells #[.slice rp rn rc, .slice rq rm rd] 59 (0, 0)) := by
    rw [← hw4]
    have := heap_alloc_new w3 (.cells #[.slice rp rn rc, .slice rq rm rd] 59)
    rw [s3] at this
    exact this
  have hb4 : Below w.heap.size w w4 := by rw [← hw4]; exact hb3.alloc hb3.size _
  have HTL : Hid (ts.length = xs.length + 1) := hts
  clear hts o4 r0 r1 r2
  go_enter Try.func44, Try.ntmps44
  obtain ⟨ln, hln⟩ : ∃ n, (its h (ts.getD j (dflt h))).length = n := ⟨_, rfl⟩
  obtain ⟨lm, hlm⟩ : ∃ n, kdn h (ts.getD j (dflt h)) = n := ⟨_, rfl⟩
  rw [hln] at lx0
  rw [hlm] at lx1
  have lx0' := (cell_later hb4 hqb).trans lx0
  have lx1' := (cell_later hb4 hqb).trans lx1
  have hqb4 : qb < w4.heap.size := Nat.lt_of_lt_of_le hqb hb4.size
  have hjp : (0 : Int) < (j : Int) + 1 := by omega
  have HLN : Hid ((its h (ts.getD j (dflt h))).length = ln ∧ kdn h (ts.getD j (dflt h)) = lm ∧ (its h kid).length = kn ∧ kdn h kid = km) := ⟨hln, hlm, hkn, hkm⟩
  clear hln hlm hkn hkm hrn hrm
  have hjt : (j : Int) < (ts.length : Int) := by have := HTL.out; omega
  have hwj : wrap64 ((j : Int) + 1 - 1) = (j : Int) := by unfold wrap64; omega
  have hwj2 : wrap64 (j : Int) = (j : Int) := by unfold wrap64; omega
  go_wp2
  clear hw3 hw4 b1 b5 b6 rx0 rx1 rx0' rx1' h1ts hjp hwj hwj2
  refine any_tail (by kernel_rfl) 6 (by exact Nat.le_of_ble_eq_true rfl) (fun i => i + 18) (mixR [] [.pointer (some ⟨w.heap.size, 1, none⟩), .slice (some ⟨qb, qo, none⟩) ts.length d, .int .i64 (j : Int), .pointer (some ⟨qb, qo + j * 2, none⟩), .agg #[.slice lp ln lc, .slice lq lm ld], .agg #[.slice kp kn kc, .slice kq km kd]]) (by kernel_rfl) (by kernel_rfl) (by kernel_rfl) (by kernel_rfl) (mixR_later _ _ (stab_nil)) ?step ?post
  case step =>
    intro iq hiq a W hrest hb hk
    have hp3 : a.eval (.tmp 3) = .pointer (some ⟨w.heap.size, 0, none⟩) := (hrest 3 (by intro iq2 hiq2; (repeat' split) <;> omega)).trans rfl
    have fp3 := ev hp3
    have hx3 : W.heap[w.heap.size]? = some (.cells #[.slice p xs.length c, .slice (some ⟨qb, qo, none⟩) ts.length d] 59 (0, 0)) := (hb.block _ (lt_of_row q0)).trans q0
    have hp5 : a.eval (.tmp 5) = .pointer (some ⟨w.heap.size + 1, 0, none⟩) := (hrest 5 (by intro iq2 hiq2; (repeat' split) <;> omega)).trans rfl
    have fp5 := ev hp5
    have hx5 : W.heap[w.heap.size + 1]? = some (.cells #[.slice kp kn kc, .slice kq km kd] 59 (0, 0)) := (hb.block _ (lt_of_row q1)).trans q1
    have hp1 : a.eval (.tmp 1) = .int .i64 (j : Int) := (hrest 1 (by intro iq2 hiq2; (repeat' split) <;> omega)).trans rfl
    have fp1 := ev hp1
    clear hrest
    obtain rfl | rfl | rfl | rfl | rfl | rfl : iq = 0 ∨ iq = 1 ∨ iq = 2 ∨ iq = 3 ∨ iq = 4 ∨ iq = 5 := by omega
    · clear hiq
      clear hk
      refine ⟨_, rfl, rfl, rfl, wp_value (v := .pointer (some ⟨w.heap.size, 1, none⟩)) (w' := W) ?_ ⟨_, rfl, Below.refl _ _, rfl⟩⟩
      go_simp
    · clear hiq
      have e0 : a.eval (.tmp 18) = .pointer (some ⟨w.heap.size, 1, none⟩) := hk 0 (mem_of (by kernel_rfl))
      have f0 := ev e0
      have hc : W.cell? ⟨w.heap.size, 1, none⟩ = some (.slice (some ⟨qb, qo, none⟩) ts.length d) := cell_of_row W _ 1 _ _ _ hx3
      clear hk
      refine ⟨_, rfl, rfl, rfl, wp_value (v := .slice (some ⟨qb, qo, none⟩) ts.length d) (w' := W) ?_ ⟨_, rfl, Below.refl _ _, rfl⟩⟩
      go_simp
    · clear hiq
      clear hk
      refine ⟨_, rfl, rfl, rfl, wp_value (v := .int .i64 (j : Int)) (w' := W) ?_ ⟨_, rfl, Below.refl _ _, rfl⟩⟩
      go_simp
    · clear hiq
      have e1 : a.eval (.tmp 19) = .slice (some ⟨qb, qo, none⟩) ts.length d := hk 1 (mem_of (by kernel_rfl))
      have f1 := ev e1
      have e2 : a.eval (.tmp 20) = .int .i64 (j : Int) := hk 2 (mem_of (by kernel_rfl))
      have f2 := ev e2
      clear hk
      refine ⟨_, rfl, rfl, rfl, wp_value (v := .pointer (some ⟨qb, qo + j * 2, none⟩)) (w' := W) ?_ ⟨_, rfl, Below.refl _ _, rfl⟩⟩
      go_simp
    · clear hiq
      have e3 : a.eval (.tmp 21) = .pointer (some ⟨qb, qo + j * 2, none⟩) := hk 3 (mem_of (by kernel_rfl))
      have f3 := ev e3
      have k1 := (cell_later hb hqb4).trans lx0'
      have k2 := (cell_later hb hqb4).trans lx1'
      clear hk
      refine ⟨_, rfl, rfl, rfl, wp_value (v := .agg #[.slice lp ln lc, .slice lq lm ld]) (w' := W) ?_ ⟨_, rfl, Below.refl _ _, rfl⟩⟩
      go_simp
    · clear hiq
      clear hk
      refine ⟨_, rfl, rfl, rfl, wp_load_row 59 (.tmp 5) rfl (w.heap.size + 1) hp5 59 #[.slice kp kn kc, .slice kq km kd] (0, 0) _ hx5 Try.underlying59 rfl (by kernel_rfl) ?_⟩
      exact ⟨_, rfl, Below.refl _ _, rfl⟩
  case post =>
    intro V W hbW hV
    have v4 : V 4 = .agg #[.slice lp ln lc, .slice lq lm ld] := hV 4 (by omega)
    have v5 : V 5 = .agg #[.slice kp kn kc, .slice kq km kd] := hV 5 (by omega)
    clear hV
    simp only [putAll, Nat.reduceAdd]
    rw [v4, v5]
    simp only [Act.put, List.setIfInBounds_toArray, List.set_cons_zero, List.set_cons_succ]
    clear v4 v5
    have y0 := (hbW.block _ (lt_of_row q0)).trans q0
    have y1 := (hbW.block _ (lt_of_row q1)).trans q1
    have y2 := (hbW.block _ (lt_of_row q2)).trans q2
    have y3 := (hbW.block _ (lt_of_row q3)).trans q3
    have c10 := cell_of_row W _ 0 _ _ _ y1
    have c11 := cell_of_row W _ 1 _ _ _ y1
    have c30 := cell_of_row W _ 0 _ _ _ y3
    have c31 := cell_of_row W _ 1 _ _ _ y3
    have f10 := frozen_of_row W _ 0 _ _ y1
    have f11 := frozen_of_row W _ 1 _ _ y1
    have f30 := frozen_of_row W _ 0 _ _ y3
    have f31 := frozen_of_row W _ 1 _ _ y3
    have hBW : Below w.heap.size w W := hb4.trans (hbW.mono hb4.size)
    have y3a := (set2_other W (w.heap.size + 1) (.slice lp ln lc) (.slice lq lm ld) (w.heap.size + 1 + 1 + 1) (by omega)).trans y3
    obtain ⟨w5, hw5⟩ : ∃ w5, (((W.setCell ⟨w.heap.size + 1, 0, none⟩ (.slice lp ln lc)).setCell ⟨w.heap.size + 1, 1, none⟩ (.slice lq lm ld)).setCell ⟨w.heap.size + 1 + 1 + 1, 0, none⟩ (.slice kp kn kc)).setCell ⟨w.heap.size + 1 + 1 + 1, 1, none⟩ (.slice kq km kd) = w5 := ⟨_, rfl⟩
    have R1 : w5.heap[w.heap.size + 1]? = some (.cells #[.slice lp ln lc, .slice lq lm ld] 59 (0, 0)) := by rw [← hw5, set2_other _ _ _ _ _ (by omega)]; exact set2_row y1 _ _
    have R3 : w5.heap[w.heap.size + 1 + 1 + 1]? = some (.cells #[.slice kp kn kc, .slice kq km kd] 59 (0, 0)) := by rw [← hw5]; exact set2_row y3a _ _
    have R0 : w5.heap[w.heap.size]? = some (.cells #[.slice p xs.length c, .slice (some ⟨qb, qo, none⟩) ts.length d] 59 (0, 0)) := by rw [← hw5, set2_other _ _ _ _ _ (by omega), set2_other _ _ _ _ _ (by omega)]; exact y0
    have R2 : w5.heap[w.heap.size + 1 + 1]? = some (.cells #[.slice none 0 0, .slice none 0 0] 59 (0, 0)) := by rw [← hw5, set2_other _ _ _ _ _ (by omega), set2_other _ _ _ _ _ (by omega)]; exact y2
    have hBu : Below w.heap.size w w5 := by rw [← hw5]; exact below_set2 (below_set2 hBW (by omega) _ _) (by omega) _ _
    clear hbW hBW q0 q1 q2 q3 y0 y1 y2 y3 y3a lx0 lx1 lx0' lx1'
    go_wp2
    clear hw5 c10 c11 c30 c31 f10 f11 f30 f31
    obtain ⟨ap1, ac1, aq1, ad1, AL, eA, hAS, hAQ, hAK⟩ := hlL.formK
    injection eA with eA
    obtain ⟨⟨rfl, rfl⟩, rfl, rfl⟩ : (lp = ap1 ∧ lc = ac1) ∧ lq = aq1 ∧ ld = ad1 := by simp at eA; exact eA
    clear eA
    obtain ⟨hln, hlm, hkn, hkm⟩ := HLN.out
    rw [hln] at hAS hA
    rw [hlm] at hAQ hA
    have hBS := hkS
    have hBQ := hkQ
    have hBK := hkK
    rw [hkn] at hBS hB
    rw [hkm] at hBQ hB
    clear hkn hkm HLN hqc hqb hqb4 hln hlm hb3 s3 hrL hlL hkv hkS hkQ hkK
    refine any_tail (by kernel_rfl) 20 (by exact Nat.le_of_ble_eq_true rfl) (fun i => if i < 19 then i + 24 else i - 11) (mixR [(10, RowsV 3 #[.slice lp ln lc, .slice (if c = j then p else Option.map (fun x => x.add (j * 2)) p) 1 (c - j), .slice kp kn kc] 56), (11, SlV (ln + 1 + kn) (itC (its h (ts.getD j (dflt h))) ++ itC [xs[j]!] ++ itC (its h kid))), (16, RowsV 2 #[.slice lq lm ld, .slice kq km kd] 57), (17, SlV (lm + km) (AL ++ BL)), (18, Nd2V (ln + 1 + kn) (itC (its h (ts.getD j (dflt h))) ++ itC [xs[j]!] ++ itC (its h kid)) (lm + km) (AL ++ BL)), (19, AlV w5.heap.size)] [.pointer (some ⟨w.heap.size + 1, 0, none⟩), .slice lp ln lc, .pointer (some ⟨w.heap.size, 0, none⟩), .slice p xs.length c, .int .i64 (j : Int), .int .i64 (j : Int), .int .i64 ((j : Int) + 1), .slice (if c = j then p else Option.map (fun x => x.add (j * 2)) p) 1 (c - j), .pointer (some ⟨w.heap.size + 1 + 1 + 1, 0, none⟩), .slice kp kn kc, undef, undef, .pointer (some ⟨w.heap.size + 1, 1, none⟩), .slice lq lm ld, .pointer (some ⟨w.heap.size + 1 + 1 + 1, 1, none⟩), .slice kq km kd, undef, undef, undef, undef]) (by kernel_rfl) (by kernel_rfl) (by kernel_rfl) (by kernel_rfl) (mixR_later _ _ (stab_cons RowsV.later (stab_cons SlV.later (stab_cons RowsV.later (stab_cons SlV.later (stab_cons Nd2V.later (stab_cons AlV.later (stab_nil)))))))) ?step ?post
    case step =>
      intro iq hiq a W hrest hb hk
      have hp3 : a.eval (.tmp 3) = .pointer (some ⟨w.heap.size, 0, none⟩) := (hrest 3 (by intro iq2 hiq2; (repeat' split) <;> omega)).trans rfl
      have fp3 := ev hp3
      have hx3 : W.heap[w.heap.size]? = some (.cells #[.slice p xs.length c, .slice (some ⟨qb, qo, none⟩) ts.length d] 59 (0, 0)) := (hb.block _ (lt_of_row R0)).trans R0
      have hp5 : a.eval (.tmp 5) = .pointer (some ⟨w.heap.size + 1, 0, none⟩) := (hrest 5 (by intro iq2 hiq2; (repeat' split) <;> omega)).trans rfl
      have fp5 := ev hp5
      have hx5 : W.heap[w.heap.size + 1]? = some (.cells #[.slice lp ln lc, .slice lq lm ld] 59 (0, 0)) := (hb.block _ (lt_of_row R1)).trans R1
      have hp7 : a.eval (.tmp 7) = .pointer (some ⟨w.heap.size + 1 + 1 + 1, 0, none⟩) := (hrest 7 (by intro iq2 hiq2; (repeat' split) <;> omega)).trans rfl
      have fp7 := ev hp7
      have hx7 : W.heap[w.heap.size + 1 + 1 + 1]? = some (.cells #[.slice kp kn kc, .slice kq km kd] 59 (0, 0)) := (hb.block _ (lt_of_row R3)).trans R3
      have hp1 : a.eval (.tmp 1) = .int .i64 (j : Int) := (hrest 1 (by intro iq2 hiq2; (repeat' split) <;> omega)).trans rfl
      have fp1 := ev hp1
      clear hrest
      obtain rfl | rfl | rfl | rfl | rfl | rfl | rfl | rfl | rfl | rfl | rfl | rfl | rfl | rfl | rfl | rfl | rfl | rfl | rfl | rfl : iq = 0 ∨ iq = 1 ∨ iq = 2 ∨ iq = 3 ∨ iq = 4 ∨ iq = 5 ∨ iq = 6 ∨ iq = 7 ∨ iq = 8 ∨ iq = 9 ∨ iq = 10 ∨ iq = 11 ∨ iq = 12 ∨ iq = 13 ∨ iq = 14 ∨ iq = 15 ∨ iq = 16 ∨ iq = 17 ∨ iq = 18 ∨ iq = 19 := by omega
      · clear hiq
        clear hk
        refine ⟨_, rfl, rfl, rfl, wp_value (v := .pointer (some ⟨w.heap.size + 1, 0, none⟩)) (w' := W) ?_ ⟨_, rfl, Below.refl _ _, rfl⟩⟩
        go_simp
      · clear hiq
        have e0 : a.eval (.tmp 24) = .pointer (some ⟨w.heap.size + 1, 0, none⟩) := hk 0 (mem_of (by kernel_rfl))
        have f0 := ev e0
        have hc : W.cell? ⟨w.heap.size + 1, 0, none⟩ = some (.slice lp ln lc) := cell_of_row W _ 0 _ _ _ hx5
        clear hk
        refine ⟨_, rfl, rfl, rfl, wp_value (v := .slice lp ln lc) (w' := W) ?_ ⟨_, rfl, Below.refl _ _, rfl⟩⟩
        go_simp
      · clear hiq
        clear hk
        refine ⟨_, rfl, rfl, rfl, wp_value (v := .pointer (some ⟨w.heap.size, 0, none⟩)) (w' := W) ?_ ⟨_, rfl, Below.refl _ _, rfl⟩⟩
        go_simp
      · clear hiq
        have e2 : a.eval (.tmp 26) = .pointer (some ⟨w.heap.size, 0, none⟩) := hk 2 (mem_of (by kernel_rfl))
        have f2 := ev e2
        have hc : W.cell? ⟨w.heap.size, 0, none⟩ = some (.slice p xs.length c) := cell_of_row W _ 0 _ _ _ hx3
        clear hk
        refine ⟨_, rfl, rfl, rfl, wp_value (v := .slice p xs.length c) (w' := W) ?_ ⟨_, rfl, Below.refl _ _, rfl⟩⟩
        go_simp
      · clear hiq
        clear hk
        refine ⟨_, rfl, rfl, rfl, wp_value (v := .int .i64 (j : Int)) (w' := W) ?_ ⟨_, rfl, Below.refl _ _, rfl⟩⟩
        go_simp
      · clear hiq
        clear hk
        refine ⟨_, rfl, rfl, rfl, wp_value (v := .int .i64 (j : Int)) (w' := W) ?_ ⟨_, rfl, Below.refl _ _, rfl⟩⟩
        go_simp
      · clear hiq
        have e5 : a.eval (.tmp 29) = .int .i64 (j : Int) := hk 5 (mem_of (by kernel_rfl))
        have f5 := ev e5
        clear hk
        refine ⟨_, rfl, rfl, rfl, wp_value (v := .int .i64 ((j : Int) + 1)) (w' := W) ?_ ⟨_, rfl, Below.refl _ _, rfl⟩⟩
        go_simp
        rw [IntKind.wrap_i64]; omega
      · clear hiq
        have e3 : a.eval (.tmp 27) = .slice p xs.length c := hk 3 (mem_of (by kernel_rfl))
        have f3 := ev e3
        have e4 : a.eval (.tmp 28) = .int .i64 (j : Int) := hk 4 (mem_of (by kernel_rfl))
        have f4 := ev e4
        have e6 : a.eval (.tmp 30) = .int .i64 ((j : Int) + 1) := hk 6 (mem_of (by kernel_rfl))
        have f6 := ev e6
        clear hk
        refine ⟨_, rfl, rfl, rfl, wp_value (v := .slice (if c = j then p else Option.map (fun x => x.add (j * 2)) p) 1 (c - j)) (w' := W) ?_ ⟨_, rfl, Below.refl _ _, rfl⟩⟩
        go_simp
        intro hneg; exfalso; omega
      · clear hiq
        clear hk
        refine ⟨_, rfl, rfl, rfl, wp_value (v := .pointer (some ⟨w.heap.size + 1 + 1 + 1, 0, none⟩)) (w' := W) ?_ ⟨_, rfl, Below.refl _ _, rfl⟩⟩
        go_simp
      · clear hiq
        have e8 : a.eval (.tmp 32) = .pointer (some ⟨w.heap.size + 1 + 1 + 1, 0, none⟩) := hk 8 (mem_of (by kernel_rfl))
        have f8 := ev e8
        have hc : W.cell? ⟨w.heap.size + 1 + 1 + 1, 0, none⟩ = some (.slice kp kn kc) := cell_of_row W _ 0 _ _ _ hx7
        clear hk
        refine ⟨_, rfl, rfl, rfl, wp_value (v := .slice kp kn kc) (w' := W) ?_ ⟨_, rfl, Below.refl _ _, rfl⟩⟩
        go_simp
      · clear hiq
        have e1 : a.eval (.tmp 25) = .slice lp ln lc := hk 1 (mem_of (by kernel_rfl))
        have f1 := ev e1
        have e7 : a.eval (.tmp 31) = .slice (if c = j then p else Option.map (fun x => x.add (j * 2)) p) 1 (c - j) := hk 7 (mem_of (by kernel_rfl))
        have f7 := ev e7
        have e9 : a.eval (.tmp 33) = .slice kp kn kc := hk 9 (mem_of (by kernel_rfl))
        have f9 := ev e9
        clear hk
        refine ⟨_, rfl, rfl, rfl, wp_value (v := .slice (some ⟨W.heap.size, 0, none⟩) 3 3) (w' := W.alloc (.cells #[.slice lp ln lc, .slice (if c = j then p else Option.map (fun x => x.add (j * 2)) p) 1 (c - j), .slice kp kn kc] 56)) ?_ ⟨_, rfl, (Below.refl _ _).alloc (Nat.le_refl _) _, ⟨_, rfl, heap_alloc_new _ _⟩⟩⟩
        go_simp
      · clear hiq
        obtain ⟨g10, e10, s10x⟩ := show RowsV 3 #[.slice lp ln lc, .slice (if c = j then p else Option.map (fun x => x.add (j * 2)) p) 1 (c - j), .slice kp kn kc] 56 (a.eval (.tmp 34)) W from hk 10 (mem_of (by kernel_rfl))
        have f10 := ev e10
        clear hk
        refine ⟨_, rfl, rfl, rfl, wp_enter (f := 43) (args := #[.slice (some ⟨g10, 0, none⟩) 3 3]) ?_ ((cat3 s10x (hAS.later (hBu.trans (hb.mono hBu.size))) (hX7.later (hBu.trans (hb.mono hBu.size))) (hBS.later (hBu.trans (hb.mono hBu.size))) (by omega) (by omega) (by omega)).mono ?_)⟩
        · go_simp
        · rintro e w2 ⟨p2x, c2x, rfl, hs2, hb2⟩
          exact ⟨_, rfl, _, rfl, hb2, ⟨_, _, rfl, hs2⟩⟩
      · clear hiq
        clear hk
        refine ⟨_, rfl, rfl, rfl, wp_value (v := .pointer (some ⟨w.heap.size + 1, 1, none⟩)) (w' := W) ?_ ⟨_, rfl, Below.refl _ _, rfl⟩⟩
        go_simp
      · clear hiq
        have e12 : a.eval (.tmp 36) = .pointer (some ⟨w.heap.size + 1, 1, none⟩) := hk 12 (mem_of (by kernel_rfl))
        have f12 := ev e12
        have hc : W.cell? ⟨w.heap.size + 1, 1, none⟩ = some (.slice lq lm ld) := cell_of_row W _ 1 _ _ _ hx5
        clear hk
        refine ⟨_, rfl, rfl, rfl, wp_value (v := .slice lq lm ld) (w' := W) ?_ ⟨_, rfl, Below.refl _ _, rfl⟩⟩
        go_simp
      · clear hiq
        clear hk
        refine ⟨_, rfl, rfl, rfl, wp_value (v := .pointer (some ⟨w.heap.size + 1 + 1 + 1, 1, none⟩)) (w' := W) ?_ ⟨_, rfl, Below.refl _ _, rfl⟩⟩
        go_simp
      · clear hiq
        have e14 : a.eval (.tmp 38) = .pointer (some ⟨w.heap.size + 1 + 1 + 1, 1, none⟩) := hk 14 (mem_of (by kernel_rfl))
        have f14 := ev e14
        have hc : W.cell? ⟨w.heap.size + 1 + 1 + 1, 1, none⟩ = some (.slice kq km kd) := cell_of_row W _ 1 _ _ _ hx7
        clear hk
        refine ⟨_, rfl, rfl, rfl, wp_value (v := .slice kq km kd) (w' := W) ?_ ⟨_, rfl, Below.refl _ _, rfl⟩⟩
        go_simp
      · clear hiq
        have e13 : a.eval (.tmp 37) = .slice lq lm ld := hk 13 (mem_of (by kernel_rfl))
        have f13 := ev e13
        have e15 : a.eval (.tmp 39) = .slice kq km kd := hk 15 (mem_of (by kernel_rfl))
        have f15 := ev e15
        clear hk
        refine ⟨_, rfl, rfl, rfl, wp_value (v := .slice (some ⟨W.heap.size, 0, none⟩) 2 2) (w' := W.alloc (.cells #[.slice lq lm ld, .slice kq km kd] 57)) ?_ ⟨_, rfl, (Below.refl _ _).alloc (Nat.le_refl _) _, ⟨_, rfl, heap_alloc_new _ _⟩⟩⟩
        go_simp
      · clear hiq
        obtain ⟨g16, e16, s16x⟩ := show RowsV 2 #[.slice lq lm ld, .slice kq km kd] 57 (a.eval (.tmp 40)) W from hk 16 (mem_of (by kernel_rfl))
        have f16 := ev e16
        clear hk
        refine ⟨_, rfl, rfl, rfl, wp_enter (f := 49) (args := #[.slice (some ⟨g16, 0, none⟩) 2 2]) ?_ ((cat2 s16x (hAQ.later (hBu.trans (hb.mono hBu.size))) (hBQ.later (hBu.trans (hb.mono hBu.size))) (by omega) (by omega)).mono ?_)⟩
        · go_simp
        · rintro e w2 ⟨p2x, c2x, rfl, hs2, hb2⟩
          exact ⟨_, rfl, _, rfl, hb2, ⟨_, _, rfl, hs2⟩⟩
      · clear hiq
        obtain ⟨p11, c11, e11, s11x⟩ := show SlV (ln + 1 + kn) (itC (its h (ts.getD j (dflt h))) ++ itC [xs[j]!] ++ itC (its h kid)) (a.eval (.tmp 35)) W from hk 11 (mem_of (by kernel_rfl))
        have f11 := ev e11
        obtain ⟨p17, c17, e17, s17x⟩ := show SlV (lm + km) (AL ++ BL) (a.eval (.tmp 41)) W from hk 17 (mem_of (by kernel_rfl))
        have f17 := ev e17
        clear hk
        refine ⟨_, rfl, rfl, rfl, wp_value (v := .agg #[.slice p11 (ln + 1 + kn) c11, .slice p17 (lm + km) c17]) (w' := W) ?_ ⟨_, rfl, Below.refl _ _, ⟨_, _, _, _, rfl, s11x, s17x⟩⟩⟩
        go_simp
      · clear hiq
        clear hk
        refine ⟨_, rfl, rfl, rfl, wp_value (v := .pointer (some ⟨W.heap.size, 0, none⟩)) (w' := W.alloc (.cells #[.slice none 0 0, .slice none 0 0] 59)) ?_ ⟨_, rfl, (Below.refl _ _).alloc (Nat.le_refl _) _, ⟨_, rfl, heap_alloc_new _ _, hb.size⟩⟩⟩
        go_simp
    case post =>
      intro V W hbW hV
      obtain ⟨P5, C5, Q5, D5, ev5, hs5, hk5⟩ : Nd2V (ln + 1 + kn) (itC (its h (ts.getD j (dflt h))) ++ itC [xs[j]!] ++ itC (its h kid)) (lm + km) (AL ++ BL) (V 18) W := hV 18 (by omega)
      obtain ⟨g8, ev8, s8, l8⟩ : AlV w5.heap.size (V 19) W := hV 19 (by omega)
      have hBW : Below w.heap.size w W := hBu.trans (hbW.mono hBu.size)
      have e5 : Lies W h (joinT h (ts.getD j (dflt h)) xs[j]! kid) (.agg #[.slice P5 (ln + 1 + kn) C5, .slice Q5 (lm + km) D5]) := join_lies _ (hAK.later hBW) (hBK.later hBW) hs5 hk5
      clear hV hs5 hk5
      obtain ⟨n5, hn5⟩ : ∃ n5, ln + 1 + kn = n5 := ⟨_, rfl⟩
      obtain ⟨m5, hm5⟩ : ∃ m5, lm + km = m5 := ⟨_, rfl⟩
      rw [hn5, hm5] at e5 ev5
      clear hn5 hm5
      simp only [putAll, Nat.reduceAdd, Nat.reduceSub, Nat.reduceLT, if_true, if_false]
      rw [ev5, ev8]
      simp only [Act.put, List.setIfInBounds_toArray, List.set_cons_zero, List.set_cons_succ]
      have x0 := cell_of_row W _ 0 _ _ _ s8
      have x1 := cell_of_row W _ 1 _ _ _ s8
      have f0 := frozen_of_row W _ 0 _ _ s8
      have f1 := frozen_of_row W _ 1 _ _ s8
      have e6 := e5.kept s8 (set2_size W g8 (.slice P5 n5 C5) (.slice Q5 m5 D5)) (set2_other W g8 _ _) HOB.out
      have s6 := set2_row s8 (.slice P5 n5 C5) (.slice Q5 m5 D5)
      have o6 := set2_other W g8 (.slice P5 n5 C5) (.slice Q5 m5 D5)
      have lu := lt_of_row R3
      have hB6 : Below w.heap.size w ((W.setCell ⟨g8, 0, none⟩ (.slice P5 n5 C5)).setCell ⟨g8, 1, none⟩ (.slice Q5 m5 D5)) := below_set2 hBW (Nat.le_trans hBu.size l8) _ _
      have T0 : ((W.setCell ⟨g8, 0, none⟩ (.slice P5 n5 C5)).setCell ⟨g8, 1, none⟩ (.slice Q5 m5 D5)).heap[w.heap.size]? = _ := (o6 _ (by omega)).trans ((hbW.block _ (lt_of_row R0)).trans R0)
      have T2 : ((W.setCell ⟨g8, 0, none⟩ (.slice P5 n5 C5)).setCell ⟨g8, 1, none⟩ (.slice Q5 m5 D5)).heap[w.heap.size + 1 + 1]? = _ := (o6 _ (by omega)).trans ((hbW.block _ (lt_of_row R2)).trans R2)
      obtain ⟨w6, hw6⟩ : ∃ w6, (W.setCell ⟨g8, 0, none⟩ (.slice P5 n5 C5)).setCell ⟨g8, 1, none⟩ (.slice Q5 m5 D5) = w6 := ⟨_, rfl⟩
      rw [hw6] at e6 s6 hB6 T0 T2
      have l62 := lt_of_row T2
      have l68 := lt_of_row s6
      have n82 : g8 ≠ w.heap.size + 1 + 1 := by omega
      clear e5 o6 hbW hBW R0 R1 R2 R3 ev5 ev8 l8 s8 lu
      go_wp2
      clear hw6 x0 x1 f0 f1
      have hr5 : ∀ W, Below w6.heap.size w6 W → Calls Try.prog 34 #[.slice p xs.length c, .int .i64 (j : Int), .int .i64 ((j : Int) + 1), .slice none 0 0] W fun e w' => ∃ p' c', e = .returned (.slice p' (j + 0 + (xs.length - (j + 1))) c') ∧ Sl w' p' (j + 0 + (xs.length - (j + 1))) c' ((itC xs).take (j * 2) ++ [] ++ (itC xs).drop ((j + 1) * 2)) ∧ Below W.heap.size W w' := fun W hb => repl66 (itC xs) p xs.length c [] none 0 0 j (j + 1) (by omega) (by omega) (by omega) (by omega) W (hS.later (hB6.trans (hb.mono hB6.size))) (Sl.nil W)
      have hr12 : ∀ W, Below w6.heap.size w6 W → Calls Try.prog 45 #[.slice (some ⟨qb, qo, none⟩) ts.length d, .int .i64 ((j : Int) + 1), .int .i64 ((j : Int) + 2), .slice none 0 0] W fun e w' => ∃ p' c', e = .returned (.slice p' (j + 1 + 0 + (ts.length - (j + 2))) c') ∧ Sl w' p' (j + 1 + 0 + (ts.length - (j + 2))) c' (L.take ((j + 1) * 2) ++ [] ++ L.drop ((j + 2) * 2)) ∧ Below W.heap.size W w' := fun W hb => repl59 L (some ⟨qb, qo, none⟩) ts.length d [] none 0 0 (j + 1) (j + 2) (by omega) (by have := HTS.out; omega) (by have := HTS.out; omega) (by omega) W (hQ.later (hB6.trans (hb.mono hB6.size))) (Sl.nil W)
      refine any_tail (by kernel_rfl) 15 (by exact Nat.le_of_ble_eq_true rfl) (fun i => if i < 14 then i + 43 else i - 5) (mixR [(5, SlV (j + 0 + (xs.length - (j + 1))) ((itC xs).take (j * 2) ++ [] ++ (itC xs).drop ((j + 1) * 2))), (12, SlV (j + 1 + 0 + (ts.length - (j + 2))) (L.take ((j + 1) * 2) ++ [] ++ L.drop ((j + 2) * 2))), (13, Nd2V (j + 0 + (xs.length - (j + 1))) ((itC xs).take (j * 2) ++ [] ++ (itC xs).drop ((j + 1) * 2)) (j + 1 + 0 + (ts.length - (j + 2))) (L.take ((j + 1) * 2) ++ [] ++ L.drop ((j + 2) * 2))), (14, AlV w6.heap.size)] [.pointer (some ⟨w.heap.size, 0, none⟩), .slice p xs.length c, .int .i64 (j : Int), .int .i64 (j : Int), .int .i64 ((j : Int) + 1), undef, .pointer (some ⟨w.heap.size, 1, none⟩), .slice (some ⟨qb, qo, none⟩) ts.length d, .int .i64 (j : Int), .int .i64 ((j : Int) + 1), .int .i64 (j : Int), .int .i64 ((j : Int) + 2), undef, undef, undef]) (by kernel_rfl) (by kernel_rfl) (by kernel_rfl) (by kernel_rfl) (mixR_later _ _ (stab_cons SlV.later (stab_cons SlV.later (stab_cons Nd2V.later (stab_cons AlV.later (stab_nil)))))) ?step ?post
      case step =>
        intro iq hiq a W hrest hb hk
        have hp3 : a.eval (.tmp 3) = .pointer (some ⟨w.heap.size, 0, none⟩) := (hrest 3 (by intro iq2 hiq2; (repeat' split) <;> omega)).trans rfl
        have fp3 := ev hp3
        have hx3 : W.heap[w.heap.size]? = some (.cells #[.slice p xs.length c, .slice (some ⟨qb, qo, none⟩) ts.length d] 59 (0, 0)) := (hb.block _ (lt_of_row T0)).trans T0
        have hp1 : a.eval (.tmp 1) = .int .i64 (j : Int) := (hrest 1 (by intro iq2 hiq2; (repeat' split) <;> omega)).trans rfl
        have fp1 := ev hp1
        clear hrest
        obtain rfl | rfl | rfl | rfl | rfl | rfl | rfl | rfl | rfl | rfl | rfl | rfl | rfl | rfl | rfl : iq = 0 ∨ iq = 1 ∨ iq = 2 ∨ iq = 3 ∨ iq = 4 ∨ iq = 5 ∨ iq = 6 ∨ iq = 7 ∨ iq = 8 ∨ iq = 9 ∨ iq = 10 ∨ iq = 11 ∨ iq = 12 ∨ iq = 13 ∨ iq = 14 := by omega
        · clear hiq
          clear hk
          refine ⟨_, rfl, rfl, rfl, wp_value (v := .pointer (some ⟨w.heap.size, 0, none⟩)) (w' := W) ?_ ⟨_, rfl, Below.refl _ _, rfl⟩⟩
          go_simp
        · clear hiq
          have e0 : a.eval (.tmp 43) = .pointer (some ⟨w.heap.size, 0, none⟩) := hk 0 (mem_of (by kernel_rfl))
          have f0 := ev e0
          have hc : W.cell? ⟨w.heap.size, 0, none⟩ = some (.slice p xs.length c) := cell_of_row W _ 0 _ _ _ hx3
          clear hk
          refine ⟨_, rfl, rfl, rfl, wp_value (v := .slice p xs.length c) (w' := W) ?_ ⟨_, rfl, Below.refl _ _, rfl⟩⟩
          go_simp
        · clear hiq
          clear hk
          refine ⟨_, rfl, rfl, rfl, wp_value (v := .int .i64 (j : Int)) (w' := W) ?_ ⟨_, rfl, Below.refl _ _, rfl⟩⟩
          go_simp
        · clear hiq
          clear hk
          refine ⟨_, rfl, rfl, rfl, wp_value (v := .int .i64 (j : Int)) (w' := W) ?_ ⟨_, rfl, Below.refl _ _, rfl⟩⟩
          go_simp
        · clear hiq
          have e3 : a.eval (.tmp 46) = .int .i64 (j : Int) := hk 3 (mem_of (by kernel_rfl))
          have f3 := ev e3
          clear hk
          refine ⟨_, rfl, rfl, rfl, wp_value (v := .int .i64 ((j : Int) + 1)) (w' := W) ?_ ⟨_, rfl, Below.refl _ _, rfl⟩⟩
          go_simp
          rw [IntKind.wrap_i64]; omega
        · clear hiq
          have e1 : a.eval (.tmp 44) = .slice p xs.length c := hk 1 (mem_of (by kernel_rfl))
          have f1 := ev e1
          have e2 : a.eval (.tmp 45) = .int .i64 (j : Int) := hk 2 (mem_of (by kernel_rfl))
          have f2 := ev e2
          have e4 : a.eval (.tmp 47) = .int .i64 ((j : Int) + 1) := hk 4 (mem_of (by kernel_rfl))
          have f4 := ev e4
          clear hk
          refine ⟨_, rfl, rfl, rfl, wp_enter (f := 34) (args := #[.slice p xs.length c, .int .i64 (j : Int), .int .i64 ((j : Int) + 1), .slice none 0 0]) ?_ ((hr5 W hb).mono ?_)⟩
          · go_simp
          · rintro e w2 ⟨p2x, c2x, rfl, hs2, hb2⟩
            exact ⟨_, rfl, _, rfl, hb2, ⟨_, _, rfl, hs2⟩⟩
        · clear hiq
          clear hk
          refine ⟨_, rfl, rfl, rfl, wp_value (v := .pointer (some ⟨w.heap.size, 1, none⟩)) (w' := W) ?_ ⟨_, rfl, Below.refl _ _, rfl⟩⟩
          go_simp
        · clear hiq
          have e6 : a.eval (.tmp 49) = .pointer (some ⟨w.heap.size, 1, none⟩) := hk 6 (mem_of (by kernel_rfl))
          have f6 := ev e6
          have hc : W.cell? ⟨w.heap.size, 1, none⟩ = some (.slice (some ⟨qb, qo, none⟩) ts.length d) := cell_of_row W _ 1 _ _ _ hx3
          clear hk
          refine ⟨_, rfl, rfl, rfl, wp_value (v := .slice (some ⟨qb, qo, none⟩) ts.length d) (w' := W) ?_ ⟨_, rfl, Below.refl _ _, rfl⟩⟩
          go_simp
        · clear hiq
          clear hk
          refine ⟨_, rfl, rfl, rfl, wp_value (v := .int .i64 (j : Int)) (w' := W) ?_ ⟨_, rfl, Below.refl _ _, rfl⟩⟩
          go_simp
        · clear hiq
          have e8 : a.eval (.tmp 51) = .int .i64 (j : Int) := hk 8 (mem_of (by kernel_rfl))
          have f8 := ev e8
          clear hk
          refine ⟨_, rfl, rfl, rfl, wp_value (v := .int .i64 ((j : Int) + 1)) (w' := W) ?_ ⟨_, rfl, Below.refl _ _, rfl⟩⟩
          go_simp
          rw [IntKind.wrap_i64]; omega
        · clear hiq
          clear hk
          refine ⟨_, rfl, rfl, rfl, wp_value (v := .int .i64 (j : Int)) (w' := W) ?_ ⟨_, rfl, Below.refl _ _, rfl⟩⟩
          go_simp
        · clear hiq
          have e10 : a.eval (.tmp 53) = .int .i64 (j : Int) := hk 10 (mem_of (by kernel_rfl))
          have f10 := ev e10
          clear hk
          refine ⟨_, rfl, rfl, rfl, wp_value (v := .int .i64 ((j : Int) + 2)) (w' := W) ?_ ⟨_, rfl, Below.refl _ _, rfl⟩⟩
          go_simp
          rw [IntKind.wrap_i64]; omega
        · clear hiq
          have e7 : a.eval (.tmp 50) = .slice (some ⟨qb, qo, none⟩) ts.length d := hk 7 (mem_of (by kernel_rfl))
          have f7 := ev e7
          have e9 : a.eval (.tmp 52) = .int .i64 ((j : Int) + 1) := hk 9 (mem_of (by kernel_rfl))
          have f9 := ev e9
          have e11 : a.eval (.tmp 54) = .int .i64 ((j : Int) + 2) := hk 11 (mem_of (by kernel_rfl))
          have f11 := ev e11
          clear hk
          refine ⟨_, rfl, rfl, rfl, wp_enter (f := 45) (args := #[.slice (some ⟨qb, qo, none⟩) ts.length d, .int .i64 ((j : Int) + 1), .int .i64 ((j : Int) + 2), .slice none 0 0]) ?_ ((hr12 W hb).mono ?_)⟩
          · go_simp
          · rintro e w2 ⟨p2x, c2x, rfl, hs2, hb2⟩
            exact ⟨_, rfl, _, rfl, hb2, ⟨_, _, rfl, hs2⟩⟩
        · clear hiq
          obtain ⟨p5, c5, e5, s5x⟩ := show SlV (j + 0 + (xs.length - (j + 1))) ((itC xs).take (j * 2) ++ [] ++ (itC xs).drop ((j + 1) * 2)) (a.eval (.tmp 48)) W from hk 5 (mem_of (by kernel_rfl))
          have f5 := ev e5
          obtain ⟨p12, c12, e12, s12x⟩ := show SlV (j + 1 + 0 + (ts.length - (j + 2))) (L.take ((j + 1) * 2) ++ [] ++ L.drop ((j + 2) * 2)) (a.eval (.tmp 55)) W from hk 12 (mem_of (by kernel_rfl))
          have f12 := ev e12
          clear hk
          refine ⟨_, rfl, rfl, rfl, wp_value (v := .agg #[.slice p5 (j + 0 + (xs.length - (j + 1))) c5, .slice p12 (j + 1 + 0 + (ts.length - (j + 2))) c12]) (w' := W) ?_ ⟨_, rfl, Below.refl _ _, ⟨_, _, _, _, rfl, s5x, s12x⟩⟩⟩
          go_simp
        · clear hiq
          clear hk
          refine ⟨_, rfl, rfl, rfl, wp_value (v := .pointer (some ⟨W.heap.size, 0, none⟩)) (w' := W.alloc (.cells #[.slice none 0 0, .slice none 0 0] 59)) ?_ ⟨_, rfl, (Below.refl _ _).alloc (Nat.le_refl _) _, ⟨_, rfl, heap_alloc_new _ _, hb.size⟩⟩⟩
          go_simp
      case post =>
        intro V W hbW hV
        obtain ⟨P7, C7, Q7, D7, ev7, hs7, hk7⟩ : Nd2V (j + 0 + (xs.length - (j + 1))) ((itC xs).take (j * 2) ++ [] ++ (itC xs).drop ((j + 1) * 2)) (j + 1 + 0 + (ts.length - (j + 2))) (L.take ((j + 1) * 2) ++ [] ++ L.drop ((j + 2) * 2)) (V 13) W := hV 13 (by omega)
        obtain ⟨g9, ev9, s9, l9⟩ : AlV w6.heap.size (V 14) W := hV 14 (by omega)
        have hBW : Below w.heap.size w W := hB6.trans (hbW.mono hB6.size)
        have hi7 : ((itC xs).take (j * 2) ++ [] ++ (itC xs).drop ((j + 1) * 2)) = itC (xs.take j ++ xs.drop (j + 1)) := by rw [List.append_nil, itC_app, itC_take, itC_drop]
        have hl7 : LiesL W h (ts.take (j + 1) ++ ts.drop (j + 2)) (L.take ((j + 1) * 2) ++ [] ++ L.drop ((j + 2) * 2)) := by rw [List.append_nil]; exact ((hL.take (j + 1)).app (hL.drop (j + 2))).later hBW
        rw [hi7] at hs7
        have hlx : (j + 0 + (xs.length - (j + 1))) = (xs.take j ++ xs.drop (j + 1)).length := hs7.it
        have hlt : (j + 1 + 0 + (ts.length - (j + 2))) = (ts.take (j + 1) ++ ts.drop (j + 2)).length := by have h1 := hk7.len; have h2 := hl7.1; omega
        rw [hlx] at hs7 ev7
        rw [hlt] at hk7 ev7
        clear hV hi7 hlx hlt
        simp only [putAll, Nat.reduceAdd, Nat.reduceSub, Nat.reduceLT, if_true, if_false]
        rw [ev7, ev9]
        simp only [Act.put, List.setIfInBounds_toArray, List.set_cons_zero, List.set_cons_succ]
        obtain ⟨n7, hn7⟩ : ∃ n7, (xs.take j ++ xs.drop (j + 1)).length = n7 := ⟨_, rfl⟩
        obtain ⟨m7, hm7⟩ : ∃ m7, (ts.take (j + 1) ++ ts.drop (j + 2)).length = m7 := ⟨_, rfl⟩
        rw [hn7] at hs7 ⊢
        rw [hm7] at hk7 ⊢
        have e7 := node_end s9 hs7 hk7 hl7 HSUB.out (.slice P7 n7 C7) (.slice Q7 m7 D7)
        have e8 := (e6.later hbW).kept s9 (set2_size W g9 (.slice P7 n7 C7) (.slice Q7 m7 D7)) (set2_other W g9 _ _) HOB.out
        have x0 := cell_of_row W _ 0 _ _ _ s9
        have x1 := cell_of_row W _ 1 _ _ _ s9
        have f0 := frozen_of_row W _ 0 _ _ s9
        have f1 := frozen_of_row W _ 1 _ _ s9
        have t9 := set2_row s9 (.slice P7 n7 C7) (.slice Q7 m7 D7)
        have o9 := set2_other W g9 (.slice P7 n7 C7) (.slice Q7 m7 D7)
        have t8 := (o9 g8 (by omega)).trans ((hbW.block _ l68).trans s6)
        have t2 := (o9 (w.heap.size + 1 + 1) (by omega)).trans ((hbW.block _ l62).trans T2)
        have hB9 : Below w.heap.size w ((W.setCell ⟨g9, 0, none⟩ (.slice P7 n7 C7)).setCell ⟨g9, 1, none⟩ (.slice Q7 m7 D7)) := below_set2 hBW (Nat.le_trans hB6.size l9) _ _
        obtain ⟨w9, hw9⟩ : ∃ w9, (W.setCell ⟨g9, 0, none⟩ (.slice P7 n7 C7)).setCell ⟨g9, 1, none⟩ (.slice Q7 m7 D7) = w9 := ⟨_, rfl⟩
        rw [hw9] at e7 e8 t9 t8 t2 hB9
        have kk := K36.out w9 P7 C7 Q7 D7 n7 m7 (.agg #[.slice P5 n5 C5, .slice Q5 m5 D5]) e7 e8
        have a0 := cell_of_row w9 _ 0 _ _ _ t9
        have a1 := cell_of_row w9 _ 1 _ _ _ t9
        have b0 := cell_of_row w9 _ 0 _ _ _ t8
        have b1 := cell_of_row w9 _ 1 _ _ _ t8
        clear hs7 hk7 hl7 hn7 hm7 e7 e8 o9 hbW hBW ev7 ev9 s9 l9 T0 T2 s6 e6 hr5 hr12 t9 t8
        go_wp2_with fail
        refine kk.mono ?_
        rintro e wz ⟨v, rfl, hv, hbz⟩
        obtain ⟨pz, cz, qz, dz, Lz, rfl, -, -⟩ := hv.form
        have q2 := (hbz.block _ (lt_of_row t2)).trans t2
        have y0 := cell_of_row wz _ 0 _ _ _ q2
        have y1 := cell_of_row wz _ 1 _ _ _ q2
        have u0 := frozen_of_row wz _ 0 _ _ q2
        have u1 := frozen_of_row wz _ 1 _ _ q2
        have hBz := hB9.trans (hbz.mono hB9.size)
        clear a0 a1 b0 b1 x0 x1 f0 f1 t2 kk
        go_wp2
        refine bodyPost_ret (results_cell_row Try.results44 _ _ (w.heap.size + 1 + 1) 59 _ (0, 0) _ rfl (set2_row q2 _ _) Try.underlying59 rfl (by kernel_rfl)) rfl ⟨_, rfl, ?_, ?_⟩
        · exact hv.kept q2 (set2_size _ _ _ _) (set2_other _ _ _ _) HOR.out
        · exact below_set2 hBz (by omega) _ _
end Go.Proofs.Ytiplmlalhmldbaa
