/- Numbers that words say (literalOf). Literals (literal). Lists that grow while a parser goes on (Gl): elements one behind the other (Els), in a list of one's own. The values of a list of expressions (all), where none of them fails and none has parts. An expression's value (reckon): a literal. -/
import Derived.Test.YtnnclhmhbmbkfaaGreatDoorXai
import Derived.Maps.AppendAt
namespace Go.Proofs.YtnnclhmhbmbkfaaGreatDoor
open Go.RowKit Go.Shelf
attribute [local go_sem] Oper.semAt_some fw0 fw1 fw2
set_option maxRecDepth 100000 in
set_option maxHeartbeats 4000000 in
theorem literalOf_num (x : Wd) (hk : (x.k : Int) = 3) (hs : x.s.length ≤ 10000) {v : Int} (h : Lib.parseIntB 64 x.s = .ok v) (w : World) : Calls Tryz.prog 176 #[wdV x] w fun r w' => r = .returned (.tuple #[.agg (arr6 2 false v ⟨#[]⟩), .bool true]) ∧ Below w.heap.size w w' := by
  have kp := parse_ok x hs h
  clear h hs
  unfold wdV
  obtain ⟨t, ht⟩ : ∃ t, wdS x = t := ⟨_, rfl⟩
  obtain ⟨xa, hxa⟩ : ∃ xa, (x.a : Int) = xa := ⟨_, rfl⟩
  rw [hk, ht, hxa]
  obtain ⟨w2, hw2⟩ : ∃ w2, (w.alloc (.cells #[.int .i64 3, .string t, .int .i64 xa] 97)).alloc (.cells #[.int .i64 0, .bool false, .int .i64 0, .string ⟨#[]⟩, .slice none 0 0, .slice none 0 0] 25) = w2 := ⟨_, rfl⟩
  have hb2 : Below w.heap.size w w2 := by rw [← hw2]; exact ((Below.refl _ w).alloc (Nat.le_refl _) _).alloc (by simp) _
  have hs2 : w2.heap.size = w.heap.size + 1 + 1 := by rw [← hw2]; simp
  have rx2 : w2.heap[w.heap.size]? = some (.cells #[.int .i64 3, .string t, .int .i64 xa] 97 (0, 0)) := by rw [← hw2, Below.heap_alloc _ _ _ (by simp)]; exact heap_alloc_new _ _
  have rz2 : w2.heap[w.heap.size + 1]? = some (.cells zero6 25 (0, 0)) := by rw [← hw2]; exact two_new _ _ _
  have c0 := cell_of_row w2 _ 0 _ _ _ rx2
  have c1 := cell_of_row w2 _ 1 _ _ _ rx2
  rw [ht] at kp
  have k1 : ∀ W, Calls Tryz.prog 16 #[.int .i64 v] W fun r w' => r = .returned (.agg #[.int .i64 2, .bool false, .int .i64 v, .string ⟨#[]⟩, .slice none 0 0, .slice none 0 0]) ∧ Below W.heap.size W w' := fun W => vint_any v W
  have HB : Hid (Below w.heap.size w w2) := hb2
  clear hb2 rx2 hk ht hxa
  go_enter Tryz.func176, Tryz.ntmps176
  go_wp2_with fail
  refine (kp _).mono ?_
  rintro q w3 ⟨rfl, hb3⟩
  have HB3 : Hid (Below w2.heap.size w2 w3 ∧ w3.heap[w.heap.size + 1]? = some (.cells zero6 25 (0, 0))) := ⟨hb3, (hb3.block _ (lt_of_row rz2)).trans rz2⟩
  clear kp hb3 rz2 hw2 c0 c1
  go_wp2_with fail
  go_region_with (first | (go_simp; go_at_call 16; refine (k1 _).mono ?_; rintro q w4 ⟨rfl, hb4⟩; have rz4 := (hb4.block _ (lt_of_row HB3.out.2)).trans HB3.out.2; unfold zero6 at rz4; have q0 := cell_of_row w4 _ 0 _ _ _ rz4; have g0 := frozen_of_row w4 _ 0 _ _ rz4; have q1 := cell_of_row w4 _ 1 _ _ _ rz4; have g1 := frozen_of_row w4 _ 1 _ _ rz4; have q2 := cell_of_row w4 _ 2 _ _ _ rz4; have g2 := frozen_of_row w4 _ 2 _ _ rz4; have q3 := cell_of_row w4 _ 3 _ _ _ rz4; have g3 := frozen_of_row w4 _ 3 _ _ rz4; have q4 := cell_of_row w4 _ 4 _ _ _ rz4; have g4 := frozen_of_row w4 _ 4 _ _ rz4; have q5 := cell_of_row w4 _ 5 _ _ _ rz4; have g5 := frozen_of_row w4 _ 5 _ _ rz4; have HB4 : Hid (Below w3.heap.size w3 w4 ∧ w4.heap[w.heap.size + 1]? = some (.cells zero6 25 (0, 0))) := ⟨⟨hb4.os, hb4.tape, hb4.output, hb4.size, hb4.block⟩, rz4⟩; clear hb4 rz4))
  all_goals go_wp2
  all_goals exact bodyPost_ret (results_row_tmp Tryz.results176 _ _ (w.heap.size + 1) 25 _ (0, 0) _ rfl (put_row #[.int .i64 2, .bool false, .int .i64 v, .string ⟨#[]⟩, .slice none 0 0, .slice none 0 0] HB4.out.2 rfl) Tryz.underlying25 rfl info25) rfl ⟨rfl, put_below ((HB.out.trans (HB3.out.1.mono HB.out.size)).trans (HB4.out.1.mono (Nat.le_trans HB.out.size HB3.out.1.size))) (w.heap.size + 1) (Nat.le_succ _) #[.int .i64 2, .bool false, .int .i64 v, .string ⟨#[]⟩, .slice none 0 0, .slice none 0 0]⟩
theorem litV_key (x : Wd) (h : x.k = 2) : litV x = keyV x.s := by
  unfold litV keyV
  rw [if_neg (by omega), if_neg (by omega), if_neg (by omega), if_pos h]
theorem literalOf_any (x : Wd) (hs : x.s.length ≤ 10000) (hn : NumOk x) (w : World) : Calls Tryz.prog 176 #[wdV x] w fun r w' => r = .returned (optV (litV x)) ∧ Below w.heap.size w w' := by
  by_cases h3 : x.k = 3
  · obtain ⟨v, hv⟩ := hn h3
    have e : litV x = some (2, false, v, ⟨#[]⟩) := by unfold litV; rw [if_pos h3, hv]
    rw [e]
    exact literalOf_num x (by omega) hs hv w
  · by_cases h4 : x.k = 4
    · have e : litV x = some (3, false, 0, wdS x) := by unfold litV; rw [if_neg h3, if_pos h4]
      rw [e]
      exact literalOf_str x (by omega) w
    · by_cases h5 : x.k = 5
      · have e : litV x = some (4, false, 0, wdS x) := by unfold litV; rw [if_neg h3, if_neg h4, if_pos h5]
        rw [e]
        exact literalOf_hex x (by omega) w
      · by_cases h2 : x.k = 2
        · rw [litV_key x h2]
          cases hq : keyV x.s with
          | some v => exact literalOf_key x (by omega) v hq w
          | none => exact literalOf_keyno x (by omega) hq w
        · have e : litV x = none := by unfold litV; rw [if_neg h3, if_neg h4, if_neg h5, if_neg h2]
          rw [e]
          exact literalOf_none x (by omega) (by omega) (by omega) (by omega) w
end Go.Proofs.YtnnclhmhbmbkfaaGreatDoor
namespace Go.Proofs.YtnnclhmhbmbkfaaGreatDoor
open Go.RowKit Go.Shelf
attribute [local go_sem] Oper.semAt_some fw0 fw1 fw2
theorem enV_ones (e : En) (kp : Option Addr) (kc : Nat) (np : Option Addr) (nc : Nat) : ∃ V, enV e kp kc np nc = .agg V ∧ V.size = 10 ∧ V.all (·.oneCell') = true := ⟨_, rfl, rfl, by simp [Value.oneCell']⟩
/- A box of the results is there, the block ahead of it all. -/
theorem LiesE.agg {w : World} {S : Nat → Prop} {d : Nat} {t : Et} {v : Value} (h : LiesE w S d t v) : ∃ V, v = .agg V ∧ V.size = 10 ∧ V.all (·.oneCell') = true := by
  obtain ⟨kp, kc, np, nc, rfl⟩ := h.form
  exact enV_ones _ _ _ _ _
theorem i28 {V : Array Value} (h : V.size = 10) : (Tryz.prog.info? 28).map (·.size) = some V.size := info28.trans (congrArg some h.symm)
set_option maxRecDepth 100000 in
set_option maxHeartbeats 8000000 in
theorem literal_any {w : World} {b : Nat} {p : Option Addr} {c : Nat} {ws : List Wd} {s : PS} (H : Ps w b p c ws s) (hz : Wz ws) (hex : s.ex ≤ 900000) (hs : (wAt ws s.at').s.length ≤ 10000) (hn : NumOk (wAt ws s.at')) :
    Calls Tryz.prog 157 #[.pointer (some ⟨b, 0, none⟩)] w (Gives ws (fun k => w.heap.size ≤ k) w b p c (litF ws s)) := by
  have hold := H.old
  have lb := lt_of_row H.row
  obtain ⟨w1, hw1⟩ : ∃ w1, w.alloc (.cells #[.int .i64 0, .string ⟨#[]⟩, .int .i64 0, .bool false, .int .i64 0, .string ⟨#[]⟩, .slice none 0 0, .slice none 0 0, .slice none 0 0, .slice none 0 0] 28) = w1 := ⟨_, rfl⟩
  have hb1 : Below w.heap.size w w1 := by rw [← hw1]; exact (Below.refl _ w).alloc (Nat.le_refl _) _
  have hs1 : w1.heap.size = w.heap.size + 1 := by rw [← hw1]; simp
  have rz1 : w1.heap[w.heap.size]? = some (.cells zero10 28 (0, 0)) := by rw [← hw1]; exact heap_alloc_new _ _
  have kw := word_any (H.later hb1)
  have kl := fun W => literalOf_any (wAt ws s.at') hs hn W
  have hlit := fun v => litV_kind (x := wAt ws s.at') (v := v)
  have hnx := hz.next (i := s.at') H.lt
  unfold litF
  obtain ⟨x, hx⟩ : ∃ x, wAt ws s.at' = x := ⟨_, rfl⟩
  rw [hx] at kw kl hlit hnx ⊢
  cases hv : litV x with
  | some v =>
    have h1 := hnx (hlit _ hv)
    rw [hv] at kl
    unfold optV at kl
    dsimp only at kl ⊢
    obtain ⟨vk, vb, vn, vs⟩ := v
    unfold arr6 at kl
    dsimp only at kl
    have HH : Hid (Ps w b p c ws s ∧ Below w.heap.size w w1) := ⟨H, hb1⟩
    unfold wdV at kw kl
    clear H hb1 hs hn hlit hnx hv hx
    obtain ⟨kk, hkk⟩ : ∃ kk, (vk : Int) = kk := ⟨_, rfl⟩
    rw [hkk] at kl
    go_enter Tryz.func157, Tryz.ntmps157
    go_wp2_with fail
    refine kw.mono ?_
    rintro q w2 ⟨rfl, hb2⟩
    have s2 := hb2.size
    have HB2 : Hid (Below w1.heap.size w1 w2) := hb2
    have rz2 := (hb2.block _ (by omega)).trans rz1
    clear kw hb2 hw1 rz1
    go_wp2_with fail
    refine (kl _).mono ?_
    rintro q w3 ⟨rfl, hb3⟩
    have s3 := hb3.size
    have rz3 := (hb3.block _ (by omega)).trans rz2
    obtain ⟨w4, hw4⟩ : ∃ w4, w3.alloc (.cells #[.int .i64 0, .bool false, .int .i64 0, .string ⟨#[]⟩, .slice none 0 0, .slice none 0 0] 25) = w4 := ⟨_, rfl⟩
    have hb4 : Below w3.heap.size w3 w4 := by rw [← hw4]; exact (Below.refl _ w3).alloc (Nat.le_refl _) _
    have hs4 : w4.heap.size = w3.heap.size + 1 := by rw [← hw4]; simp
    have rv4 : w4.heap[w3.heap.size]? = some (.cells zero6 25 (0, 0)) := by rw [← hw4]; exact heap_alloc_new _ _
    have rz4 := (hb4.block _ (by omega)).trans rz3
    have rv5 := put_row #[.int .i64 kk, .bool vb, .int .i64 vn, .string vs, .slice none 0 0, .slice none 0 0] rv4 rfl
    have rz5 : (put w4 w3.heap.size #[.int .i64 kk, .bool vb, .int .i64 vn, .string vs, .slice none 0 0, .slice none 0 0]).heap[w.heap.size]? = _ := (put_other (by omega) _).trans rz4
    have s5 := put_size w4 w3.heap.size #[.int .i64 kk, .bool vb, .int .i64 vn, .string vs, .slice none 0 0, .slice none 0 0]
    have hB5 : Below w3.heap.size w3 (put w4 w3.heap.size #[.int .i64 kk, .bool vb, .int .i64 vn, .string vs, .slice none 0 0, .slice none 0 0]) := put_below hb4 _ (Nat.le_refl _) _
    obtain ⟨w5, hw5⟩ : ∃ w5, put w4 w3.heap.size #[.int .i64 kk, .bool vb, .int .i64 vn, .string vs, .slice none 0 0, .slice none 0 0] = w5 := ⟨_, rfl⟩
    rw [hw5] at rv5 rz5 s5 hB5
    have kt := take_any (((HH.out.1.later HH.out.2).later HB2.out).later (hb3.trans (hB5.mono hb3.size))) h1
    have HB5 : Hid (Below w2.heap.size w2 w5 ∧ w4.heap[w3.heap.size]? = some (.cells zero6 25 (0, 0))) := ⟨hb3.trans (hB5.mono hb3.size), rv4⟩
    clear kl hb3 hb4 hB5 rz2 rz3 rz4 rv4 h1
    go_wp2_with (first | (refine wpList_put rfl 25 (.tmp 3) (.tmp 9) rfl rfl rfl rfl HB5.out.2 rfl info25 (by simp [Value.oneCell']) ?_; rw [hw5]) | fail)
    refine kt.mono ?_
    rintro q w6 ⟨rfl, hP6, hO6⟩
    have s6 := hO6.size
    have rz6 := (hO6.block _ (by omega) (by omega)).trans rz5
    have rv6 := (hO6.block _ (by omega) (by omega)).trans rv5
    have kw := whole_any hP6 (show (takeP s).ex ≤ 1000000 from Nat.le_trans hex (by omega)) (⟨1, ⟨#[]⟩, vk, vb, vn, vs, 0, 0, fun _ => ⟨#[]⟩⟩ : En) none 0 none 0
    have kw' : Calls Tryz.prog 154 #[.pointer (some ⟨b, 0, none⟩), .agg #[.int .i64 1, .string ⟨#[]⟩, .int .i64 kk, .bool vb, .int .i64 vn, .string vs, .slice none 0 0, .slice none 0 0, .slice none 0 0, .slice none 0 0]] w6 fun r w' => r = .returned (enV (⟨1, ⟨#[]⟩, vk, vb, vn, vs, 0, 0, fun _ => ⟨#[]⟩⟩ : En) none 0 none 0) ∧ Ps w' b p c ws (wholeP ws (takeP s)) ∧ Onl b w6 w' := by rw [← hkk]; exact kw
    have H6 : Hid (Onl b w5 w6 ∧ w6.heap[w3.heap.size]? = some (.cells #[.int .i64 kk, .bool vb, .int .i64 vn, .string vs, .slice none 0 0, .slice none 0 0] 25 (0, 0))) := ⟨hO6, rv6⟩
    clear kt kw hP6 hO6 rz5 rv5 rv6 hw4 hw5
    go_wp2_with (first | (refine wpList_get rfl 25 (.tmp 3) rfl rfl H6.out.2 Tryz.underlying25 rfl info25 ?_; simp only [Act.put, List.setIfInBounds_toArray, List.set_cons_zero, List.set_cons_succ]) | fail)
    refine kw'.mono ?_
    rintro q w7 ⟨rfl, hP7, hO7⟩
    have s7 := hO7.size
    have rz7 := (hO7.block _ (by omega) (by omega)).trans rz6
    obtain ⟨V, hV, h10, hon⟩ := enV_ones (⟨1, ⟨#[]⟩, vk, vb, vn, vs, 0, 0, fun _ => ⟨#[]⟩⟩ : En) none 0 none 0
    rw [hV]
    have H7 : Hid (Ps w7 b p c ws (wholeP ws (takeP s)) ∧ Onl b w6 w7 ∧ w7.heap[w.heap.size]? = some (.cells zero10 28 (0, 0)) ∧ enV (⟨1, ⟨#[]⟩, vk, vb, vn, vs, 0, 0, fun _ => ⟨#[]⟩⟩ : En) none 0 none 0 = .agg V ∧ V.size = 10 ∧ V.all (·.oneCell') = true) := ⟨hP7, hO7, rz7, hV, h10, hon⟩
    clear kw' hP7 hO7 rz7 hV h10 hon rz6
    go_wp2_with (first | (refine wpList_put rfl 28 (.tmp 2) (.tmp 21) rfl rfl rfl rfl H7.out.2.2.1 H7.out.2.2.2.2.1 (i28 H7.out.2.2.2.2.1) H7.out.2.2.2.2.2 ?_) | fail)
    obtain ⟨hP7, hO7, rz7, hV, h10, hon⟩ := H7.out
    refine bodyPost_ret (results_cell_row Tryz.results157 _ _ w.heap.size 28 _ (0, 0) _ rfl (put_row V rz7 h10) Tryz.underlying28 rfl (i28 h10)) rfl ⟨1, _, rfl, ?_, hP7.put lb hold V, ?_⟩
    · rw [← hV]
      exact LiesE.leaf _ _ _ rfl rfl _
    · exact (((((Onl.of HH.out.2).trans (Onl.of HB2.out)).trans (Onl.of HB5.out.1)).trans H6.out.1).trans hO7).put _ (Nat.le_refl _) V
  | none =>
    rw [hv] at kl
    unfold optV arr6 at kl
    dsimp only at kl ⊢
    have HH : Hid (Ps w b p c ws s ∧ Below w.heap.size w w1) := ⟨H, hb1⟩
    unfold wdV at kw kl
    clear H hb1 hs hn hlit hnx hv hx
    go_enter Tryz.func157, Tryz.ntmps157
    go_wp2_with fail
    refine kw.mono ?_
    rintro q w2 ⟨rfl, hb2⟩
    have s2 := hb2.size
    have HB2 : Hid (Below w1.heap.size w1 w2) := hb2
    have rz2 := (hb2.block _ (by omega)).trans rz1
    clear kw hb2 hw1 rz1
    go_wp2_with fail
    refine (kl _).mono ?_
    rintro q w3 ⟨rfl, hb3⟩
    have s3 := hb3.size
    have rz3 := (hb3.block _ (by omega)).trans rz2
    obtain ⟨w4, hw4⟩ : ∃ w4, w3.alloc (.cells #[.int .i64 0, .bool false, .int .i64 0, .string ⟨#[]⟩, .slice none 0 0, .slice none 0 0] 25) = w4 := ⟨_, rfl⟩
    have hb4 : Below w3.heap.size w3 w4 := by rw [← hw4]; exact (Below.refl _ w3).alloc (Nat.le_refl _) _
    have hs4 : w4.heap.size = w3.heap.size + 1 := by rw [← hw4]; simp
    have rv4 : w4.heap[w3.heap.size]? = some (.cells zero6 25 (0, 0)) := by rw [← hw4]; exact heap_alloc_new _ _
    have rz4 := (hb4.block _ (by omega)).trans rz3
    have rz5 : (put w4 w3.heap.size #[.int .i64 0, .bool false, .int .i64 0, .string ⟨#[]⟩, .slice none 0 0, .slice none 0 0]).heap[w.heap.size]? = _ := (put_other (by omega) _).trans rz4
    have s5 := put_size w4 w3.heap.size #[.int .i64 0, .bool false, .int .i64 0, .string ⟨#[]⟩, .slice none 0 0, .slice none 0 0]
    have hB5 : Below w3.heap.size w3 (put w4 w3.heap.size #[.int .i64 0, .bool false, .int .i64 0, .string ⟨#[]⟩, .slice none 0 0, .slice none 0 0]) := put_below hb4 _ (Nat.le_refl _) _
    obtain ⟨w5, hw5⟩ : ∃ w5, put w4 w3.heap.size #[.int .i64 0, .bool false, .int .i64 0, .string ⟨#[]⟩, .slice none 0 0, .slice none 0 0] = w5 := ⟨_, rfl⟩
    rw [hw5] at rz5 s5 hB5
    have kt := fail_any (((HH.out.1.later HH.out.2).later HB2.out).later (hb3.trans (hB5.mono hb3.size))) 120
    have HB5 : Hid (Below w2.heap.size w2 w5 ∧ w4.heap[w3.heap.size]? = some (.cells zero6 25 (0, 0))) := ⟨hb3.trans (hB5.mono hb3.size), rv4⟩
    clear kl hb3 hb4 hB5 rz2 rz3 rz4 rv4
    go_wp2_with (first | (refine wpList_put rfl 25 (.tmp 3) (.tmp 9) rfl rfl rfl rfl HB5.out.2 rfl info25 (by simp [Value.oneCell']) ?_; rw [hw5]) | fail)
    refine kt.mono ?_
    rintro q w6 ⟨rfl, hP6, hO6⟩
    have s6 := hO6.size
    have rz6 := (hO6.block _ (by omega) (by omega)).trans rz5
    have H6 : Hid (Onl b w5 w6 ∧ w6.heap[w.heap.size]? = some (.cells zero10 28 (0, 0)) ∧ Ps w6 b p c ws (failP ws s 120)) := ⟨hO6, rz6, hP6⟩
    clear kt hP6 hO6 rz5 rz6 hw4 hw5
    go_wp2_with (first | (refine wpList_put rfl 28 (.tmp 2) (.tmp 15) rfl rfl rfl rfl H6.out.2.1 rfl info28 (by simp [Value.oneCell']) ?_) | fail)
    obtain ⟨hO6, rz6, hP6⟩ := H6.out
    refine bodyPost_ret (results_cell_row Tryz.results157 _ _ w.heap.size 28 _ (0, 0) _ rfl (put_row _ rz6 rfl) Tryz.underlying28 rfl info28) rfl ⟨1, _, rfl, ?_, hP6.put lb hold _, ?_⟩
    · exact LiesE.leaf _ _ zeroE rfl rfl _
    · exact (((((Onl.of HH.out.2).trans (Onl.of HB2.out)).trans (Onl.of HB5.out.1)).trans hO6)).put _ (Nat.le_refl _) _
end Go.Proofs.YtnnclhmhbmbkfaaGreatDoor
namespace Go.Proofs.YtnnclhmhbmbkfaaGreatDoor
open Go.RowKit Go.Shelf
/- What an element is in memory: its cells, in blocks of a kind; it stays while these stay. -/
structure Elem {α : Type} (E : World → (Nat → Prop) → α → List Value → Prop) (z : Nat) : Prop where
  since : ∀ {w w' : World} {S : Nat → Prop} {x : α} {c : List Value}, E w S x c → Since S w w' → E w' S x c
  imp : ∀ {w : World} {R S : Nat → Prop} {x : α} {c : List Value}, (∀ k, S k → k < w.heap.size → R k) → E w S x c → E w R x c
  len : ∀ {w : World} {S : Nat → Prop} {x : α} {c : List Value}, E w S x c → c.length = z
  ones : ∀ {w : World} {S : Nat → Prop} {x : α} {c : List Value}, E w S x c → ∀ u ∈ c, u.oneCell' = true
def Els {α : Type} (E : World → (Nat → Prop) → α → List Value → Prop) (w : World) (S : Nat → Prop) : List α → List Value → Prop
  | [], L => L = []
  | x :: l, L => ∃ c r, L = c ++ r ∧ E w S x c ∧ Els E w S l r
theorem Els.since {α : Type} {E : World → (Nat → Prop) → α → List Value → Prop} {z : Nat} (hE : Elem E z) {w w' : World} {S : Nat → Prop} (hS : Since S w w') : ∀ {l : List α} {L : List Value}, Els E w S l L → Els E w' S l L
  | [], _, h => h
  | _ :: _, _, ⟨c, r, h1, h2, h3⟩ => ⟨c, r, h1, hE.since h2 hS, Els.since hE hS h3⟩
theorem Els.imp {α : Type} {E : World → (Nat → Prop) → α → List Value → Prop} {z : Nat} (hE : Elem E z) {w : World} {R S : Nat → Prop} (hS : ∀ k, S k → k < w.heap.size → R k) : ∀ {l : List α} {L : List Value}, Els E w S l L → Els E w R l L
  | [], _, h => h
  | _ :: _, _, ⟨c, r, h1, h2, h3⟩ => ⟨c, r, h1, hE.imp hS h2, Els.imp hE hS h3⟩
theorem Els.app {α : Type} {E : World → (Nat → Prop) → α → List Value → Prop} {w : World} {S : Nat → Prop} {y : α} {d : List Value} (hy : E w S y d) : ∀ {l : List α} {L : List Value}, Els E w S l L → Els E w S (l ++ [y]) (L ++ d)
  | [], L, h => by
    have h' : L = [] := h
    subst h'
    exact ⟨d, [], by simp, hy, rfl⟩
  | _ :: _, _, ⟨c, r, h1, h2, h3⟩ => ⟨c, r ++ d, by rw [h1]; simp, h2, Els.app hy h3⟩
theorem Els.at {α : Type} {E : World → (Nat → Prop) → α → List Value → Prop} {z : Nat} (hE : Elem E z) {w : World} {S : Nat → Prop} : ∀ {l : List α} {L : List Value}, Els E w S l L → ∀ i x, l[i]? = some x → ∃ c, E w S x c ∧ ∀ j u, c[j]? = some u → L[i * z + j]? = some u
  | [], _, _, i, x, hi => by simp at hi
  | y :: l, _, ⟨c, r, h1, h2, h3⟩, 0, x, hi => by
    have e : y = x := by simpa using hi
    subst e
    subst h1
    refine ⟨c, h2, fun j u hu => ?_⟩
    rw [Nat.zero_mul, Nat.zero_add, List.getElem?_append_left (List.getElem?_eq_some_iff.1 hu).1]
    exact hu
  | y :: l, _, ⟨c, r, h1, h2, h3⟩, i + 1, x, hi => by
    obtain ⟨d, hd, hk⟩ := Els.at hE h3 i x (by simpa using hi)
    subst h1
    refine ⟨d, hd, fun j u hu => ?_⟩
    have hl := hE.len h2
    rw [List.getElem?_append_right (by rw [hl, Nat.add_mul]; omega)]
    have e : (i + 1) * z + j - c.length = i * z + j := by rw [hl, Nat.add_mul]; omega
    rw [e]
    exact hk j u hu
/- A list of one's own beside a parser. -/
structure Gl {α : Type} (E : World → (Nat → Prop) → α → List Value → Prop) (T z : Nat) (w0 W : World) (b : Nat) (p : Option Addr) (c : Nat) (ws : List Wd) (v : Value) (l : List α) (s : PS) : Prop where
  own : ∃ L, W.ownsRow w0.heap.size T z v l.length L ∧ Els E W (fun k => w0.heap.size ≤ k ∧ v.ownBlock ≠ some k) l L
  onl : Onl b w0 W
  ps : Ps W b p c ws s
  lb : b < w0.heap.size
  old : ∀ g, p = some ⟨g, 0, none⟩ → g < w0.heap.size
theorem own_onl {b : Nat} {w w' : World} {base T z : Nat} {v : Value} {n : Nat} {L : List Value} (h : w.ownsRow base T z v n L) (hb : b < base) (hO : Onl b w w') : w'.ownsRow base T z v n L := by
  refine ⟨h.1, ?_⟩
  rcases h.2 with hn | ⟨g, cap, cur, hv, hg, hr, rest⟩
  · exact .inl hn
  · exact .inr ⟨g, cap, cur, hv, hg, (hO.block g (lt_of_row hr) (by omega)).trans hr, rest⟩
theorem Gl.calls {α : Type} {E : World → (Nat → Prop) → α → List Value → Prop} {T z : Nat} (hE : Elem E z) {w0 W W2 : World} {b : Nat} {p : Option Addr} {c : Nat} {ws : List Wd} {v : Value} {l : List α} {s s2 : PS} (h : Gl E T z w0 W b p c ws v l s) (hO : Onl b W W2) (hP : Ps W2 b p c ws s2) : Gl E T z w0 W2 b p c ws v l s2 := by
  obtain ⟨L, h1, h2⟩ := h.own
  have lb := h.lb
  exact ⟨⟨L, own_onl h1 lb hO, h2.since hE (Since.onl hO (by omega))⟩, h.onl.trans hO, hP, h.lb, h.old⟩
theorem Gl.start {α : Type} (E : World → (Nat → Prop) → α → List Value → Prop) (T z : Nat) {w : World} {b : Nat} {p : Option Addr} {c : Nat} {ws : List Wd} {s : PS} (H : Ps w b p c ws s) : Gl E T z w w b p c ws (.slice none 0 0) ([] : List α) s :=
  ⟨⟨[], World.ownsRow_nil _ _ _ _, rfl⟩, Onl.of (Below.refl _ _), H, lt_of_row H.row, H.old⟩
/- The first one, in a list that was written down. -/
theorem Gl.one {α : Type} {E : World → (Nat → Prop) → α → List Value → Prop} {T z : Nat} (hE : Elem E z) {w0 W W2 : World} {b : Nat} {p : Option Addr} {c : Nat} {ws : List Wd} {s : PS} (H0 : Ps w0 b p c ws s) {s2 : PS} (hO : Onl b w0 W) (hP : Ps W b p c ws s2)
    {x : α} {d : List Value} (hx : E W (fun k => w0.heap.size ≤ k) x d) (hW2 : W2 = W.alloc (.cells d.toArray T)) : Gl E T z w0 W2 b p c ws (.slice (some ⟨W.heap.size, 0, none⟩) 1 1) [x] s2 := by
  have hb2 : Below W.heap.size W W2 := by rw [hW2]; exact (Below.refl _ W).alloc (Nat.le_refl _) _
  refine ⟨⟨d, ⟨by simpa using hE.len hx, .inr ⟨W.heap.size, 1, d.toArray, rfl, hO.size, by rw [hW2]; exact heap_alloc_new _ _, Nat.le_refl _, by decide, by simpa using hE.len hx, ?_⟩⟩, d, [], by simp, ?_, rfl⟩, hO.trans (Onl.of hb2), hP.later hb2, lt_of_row H0.row, H0.old⟩
  · have e := hE.len hx
    simp [List.take_of_length_le (Nat.le_of_eq e)]
  · refine hE.since (hE.imp (fun k hk hl => ⟨hk, fun e => ?_⟩) hx) (Since.below hb2)
    have e' : W.heap.size = k := by injection e
    omega
/- One more: what a call made was appended. -/
theorem Gl.more {α : Type} {E : World → (Nat → Prop) → α → List Value → Prop} {T z : Nat} (hE : Elem E z) {w0 W W2 W3 : World} {b : Nat} {p : Option Addr} {c : Nat} {ws : List Wd} {v v' : Value} {l : List α} {s : PS} (h : Gl E T z w0 W b p c ws v l s)
    {L : List Value} (h2 : Els E W (fun k => w0.heap.size ≤ k ∧ v.ownBlock ≠ some k) l L) {x : α} {d : List Value} (hx : E W (fun k => w0.heap.size ≤ k ∧ v.ownBlock ≠ some k) x d) {o : Obj} (hW2 : W2 = W.alloc o)
    (ho : W3.ownsRow w0.heap.size T z v' (l.length + 1) (L ++ d)) (hg : W2.grownBy W3 v.ownBlock) (ha : v'.ownBlock = v.ownBlock ∨ v'.ownBlock = some (W.heap.size + 1)) : Gl E T z w0 W3 b p c ws v' (l ++ [x]) s := by
  obtain ⟨L', h1, -⟩ := h.own
  have lb := h.lb
  have hsz := h.onl.size
  have hs2 : W2.heap.size = W.heap.size + 1 := by rw [hW2]; simp
  have hb2 : Below W.heap.size W W2 := by rw [hW2]; exact (Below.refl _ W).alloc (Nat.le_refl _) _
  have hkeep : ∀ k, k < W.heap.size → v.ownBlock ≠ some k → W3.heap[k]? = W.heap[k]? := fun k hk hv => (hg.block k (by omega) (fun e => hv e.symm)).trans (hb2.block k hk)
  have hown : ∀ k, v.ownBlock = some k → w0.heap.size ≤ k := fun k hk => (h1.lt k hk).1
  have hsize : W.heap.size ≤ W3.heap.size := Nat.le_trans hb2.size hg.size
  have himp : ∀ k, (w0.heap.size ≤ k ∧ v.ownBlock ≠ some k) → k < W.heap.size → (w0.heap.size ≤ k ∧ v'.ownBlock ≠ some k) := by
    intro k hk hl
    refine ⟨hk.1, ?_⟩
    rcases ha with ha | ha
    · rw [ha]; exact hk.2
    · rw [ha]; intro e; injection e with e; omega
  have hlies' : Els E W3 (fun k => w0.heap.size ≤ k ∧ v'.ownBlock ≠ some k) (l ++ [x]) (L ++ d) := by
    have hS' : Since (fun k => (w0.heap.size ≤ k ∧ v.ownBlock ≠ some k) ∧ k < W.heap.size) W W3 := ⟨hsize, fun k hk hl => hkeep k hl hk.1.2⟩
    have a1 := Els.imp hE (R := fun k => (w0.heap.size ≤ k ∧ v.ownBlock ≠ some k) ∧ k < W.heap.size) (fun k hk hl => ⟨hk, hl⟩) (Els.app hx h2)
    exact Els.imp hE (fun k hk _ => himp k hk.1 hk.2) (a1.since hE hS')
  have lenE : (l ++ [x]).length = l.length + 1 := by simp
  refine ⟨⟨L ++ d, by rw [lenE]; exact ho, hlies'⟩, ?_, ?_, h.lb, h.old⟩
  · refine ⟨hg.os.trans (hb2.os.trans h.onl.os), hg.tape.trans (hb2.tape.trans h.onl.tape), hg.output.trans (hb2.output.trans h.onl.output), Nat.le_trans hsz hsize, fun k hk hb => ?_⟩
    exact (hkeep k (by omega) (fun e => by have := hown k e; omega)).trans (h.onl.block k hk hb)
  · refine ⟨(hkeep b (by omega) (fun e => by have := hown b e; omega)).trans h.ps.row, ⟨h.ps.sl.cap, h.ps.sl.len, fun h0 => ?_⟩, h.ps.lt, h.ps.few⟩
    obtain ⟨g, e, k2, k3⟩ := h.ps.sl.lies h0
    have hgo := h.old g e
    exact ⟨g, e, Nat.lt_of_lt_of_le k2 hsize, fun j u hu => (World.cell?_of_block (a := ⟨g, j, none⟩) (hkeep g k2 (fun e => by have := hown g e; omega))).trans (k3 j u hu)⟩
/- Elements of three kinds: texts, expressions, names with expressions. -/
def EStr (_ : World) (_ : Nat → Prop) (x : ByteArray) (c : List Value) : Prop := c = [.string x]
def EExp (w : World) (S : Nat → Prop) (t : Et) (c : List Value) : Prop := ∃ d, LiesE w S d t (.agg c.toArray)
def EFld (w : World) (S : Nat → Prop) (x : ByteArray × Et) (c : List Value) : Prop := ∃ e, c = .string x.1 :: e ∧ EExp w S x.2 e
theorem eStr : Elem EStr 1 := by
  refine ⟨fun h _ => h, fun _ h => h, fun h => ?_, fun h u hu => ?_⟩
  · rw [h]; rfl
  · rw [h] at hu
    simp at hu
    rw [hu]; rfl
theorem eExp : Elem EExp 10 := by
  refine ⟨fun ⟨d, h⟩ hS => ⟨d, h.since hS⟩, fun hS ⟨d, h⟩ => ⟨d, h.imp hS⟩, fun ⟨d, h⟩ => ?_, fun ⟨d, h⟩ u hu => ?_⟩
  · obtain ⟨V, e, h10, -⟩ := h.agg
    injection e with e
    have := congrArg Array.size e
    simpa [h10] using this
  · obtain ⟨V, e, -, h1⟩ := h.agg
    injection e with e
    rw [← e] at h1
    exact (Array.all_eq_true_iff_forall_mem.1 h1) u (by simpa using hu)
theorem eFld : Elem EFld 11 := by
  refine ⟨fun ⟨e, h1, h2⟩ hS => ⟨e, h1, eExp.since h2 hS⟩, fun hS ⟨e, h1, h2⟩ => ⟨e, h1, eExp.imp hS h2⟩, fun ⟨e, h1, h2⟩ => ?_, fun ⟨e, h1, h2⟩ u hu => ?_⟩
  · rw [h1, List.length_cons, eExp.len h2]
  · rw [h1] at hu
    rcases List.mem_cons.1 hu with rfl | hu
    · rfl
    · exact eExp.ones h2 u hu
def lenOf : Value → Nat
  | .slice _ n _ => n
  | _ => 0
theorem own_len {w : World} {base T z : Nat} {v : Value} {n : Nat} {L : List Value} (h : w.ownsRow base T z v n L) : ∃ q k, v = .slice q n k := by
  rcases h.2 with ⟨hv, hn⟩ | ⟨g, cap, cur, hv, _⟩
  · exact ⟨none, 0, by rw [hv, hn]⟩
  · exact ⟨_, _, hv⟩
end Go.Proofs.YtnnclhmhbmbkfaaGreatDoor
namespace Go.Proofs.YtnnclhmhbmbkfaaGreatDoor
open Go.RowKit Go.Shelf
attribute [local go_sem] Oper.semAt_some
/- An expression's ten cells that lie at a place. -/
def At10 (w : World) (g o : Nat) (R : XR) : Prop := ∀ j, j < 10 → w.cell? ⟨g, o + j, none⟩ = (arrX R)[j]?
def flatL : Nat → (Nat → Lf) → List Value
  | 0, _ => []
  | n + 1, L => flatL n L ++ (L n).cs
theorem i25z : ∃ i, Tryz.prog.info? 25 = some i ∧ i.zero = some (.agg #[.int .i64 0, .bool false, .int .i64 0, .string ⟨#[]⟩, .slice none 0 0, .slice none 0 0]) ∧ i.size = 6 ∧ i.bytes = 88 := by
  have h := V.info25
  cases hi : Tryz.prog.info? 25 with
  | none => rw [hi] at h; cases h
  | some i =>
    rw [hi] at h
    simp only [Option.map_some, Option.some.injEq, Prod.mk.injEq] at h
    exact ⟨i, rfl, h.1, h.2.1, h.2.2⟩
theorem own_later {w w' : World} {base T z n : Nat} {v : Value} {L : List Value} (h : w.ownsRow base T z v n L) (hb : Below w.heap.size w w') : w'.ownsRow base T z v n L := by
  refine ⟨h.1, ?_⟩
  rcases h.2 with hn | ⟨b, cap, cur, hv, hb2, hr, rest⟩
  · exact .inl hn
  · exact .inr ⟨b, cap, cur, hv, hb2, (hb.block b (lt_of_row hr)).trans hr, rest⟩
set_option maxRecDepth 100000 in
set_option maxHeartbeats 4000000 in
theorem all_any {g o c n : Nat} (hn : n ≤ 200) (hc : n ≤ c ∧ c ≤ maxLen) (R : Nat → XR) (L : Nat → Lf) (dk : Int) (db : Bool) (dn : Int) (ds : ByteArray) (dp : Option Addr) (dm dc : Nat) (dq : Option Addr) (dl de : Nat) (w : World) (hg : g < w.heap.size) (hk : ∀ i, i < n → At10 w g (o + i * 10) (R i))
    (hcall : ∀ W, Below w.heap.size w W → ∀ i, i < n → Calls Tryz.prog 21 #[.agg #[.int .i64 (R i).k, .string (R i).s, .int .i64 (R i).vk, .bool (R i).vb, .int .i64 (R i).vn, .string (R i).vs, .slice none 0 0, .slice none 0 0, .slice (R i).kp (R i).n (R i).kc, .slice (R i).np (R i).m (R i).nc], .agg #[.int .i64 dk, .bool db, .int .i64 dn, .string ds, .slice dp dm dc, .slice dq dl de]] W fun r W' => r = .returned (.tuple #[.agg #[.int .i64 (L i).k, .bool (L i).b, .int .i64 (L i).n, .string (L i).s, .slice (L i).p 0 (L i).pc, .slice (L i).q 0 (L i).qc], .int .i64 0]) ∧ Below W.heap.size W W') :
    Calls Tryz.prog 42 #[.slice (some ⟨g, o, none⟩) n c, .agg #[.int .i64 dk, .bool db, .int .i64 dn, .string ds, .slice dp dm dc, .slice dq dl de]] w fun r w' => ∃ q k, r = .returned (.tuple #[.slice q n k, .int .i64 0]) ∧ w'.ownsRow w.heap.size 25 6 (.slice q n k) n (flatL n L) ∧ Below w.heap.size w w' := by
  obtain ⟨i0, hi, hz0, hz1, hz2⟩ := i25z
  obtain ⟨wa, hwa⟩ : ∃ u, (w.alloc (.cells #[.int .i64 dk, .bool db, .int .i64 dn, .string ds, .slice dp dm dc, .slice dq dl de] 25)) = u := ⟨_, rfl⟩
  obtain ⟨rwa0, bwa⟩ := alloc1 hwa
  have HWwa := mkHid hwa
  have cd0 : wa.cell? ⟨w.heap.size, 0, none⟩ = some (.int .i64 dk) := cell_of_row wa _ 0 _ _ _ rwa0
  have cd1 : wa.cell? ⟨w.heap.size, 1, none⟩ = some (.bool db) := cell_of_row wa _ 1 _ _ _ rwa0
  have cd2 : wa.cell? ⟨w.heap.size, 2, none⟩ = some (.int .i64 dn) := cell_of_row wa _ 2 _ _ _ rwa0
  have cd3 : wa.cell? ⟨w.heap.size, 3, none⟩ = some (.string ds) := cell_of_row wa _ 3 _ _ _ rwa0
  have cd4 : wa.cell? ⟨w.heap.size, 4, none⟩ = some (.slice dp dm dc) := cell_of_row wa _ 4 _ _ _ rwa0
  have cd5 : wa.cell? ⟨w.heap.size, 5, none⟩ = some (.slice dq dl de) := cell_of_row wa _ 5 _ _ _ rwa0
  have HC : Hid (∀ W, Below w.heap.size w W → ∀ i, i < n → Calls Tryz.prog 21 #[.agg #[.int .i64 (R i).k, .string (R i).s, .int .i64 (R i).vk, .bool (R i).vb, .int .i64 (R i).vn, .string (R i).vs, .slice none 0 0, .slice none 0 0, .slice (R i).kp (R i).n (R i).kc, .slice (R i).np (R i).m (R i).nc], .agg #[.int .i64 dk, .bool db, .int .i64 dn, .string ds, .slice dp dm dc, .slice dq dl de]] W fun r W' => r = .returned (.tuple #[.agg #[.int .i64 (L i).k, .bool (L i).b, .int .i64 (L i).n, .string (L i).s, .slice (L i).p 0 (L i).pc, .slice (L i).q 0 (L i).qc], .int .i64 0]) ∧ Below W.heap.size W W') := hcall
  have HK : Hid (∀ i, i < n → At10 w g (o + i * 10) (R i)) := hk
  have HA : Hid (Below w.heap.size w wa ∧ wa.heap[w.heap.size]? = some (.cells #[.int .i64 dk, .bool db, .int .i64 dn, .string ds, .slice dp dm dc, .slice dq dl de] 25 (0, 0))) := ⟨bwa, rwa0⟩
  clear hcall hk hwa bwa rwa0
  go_enter Tryz.func42, Tryz.ntmps42
  go_wp2_with (first | rw [HWwa.out] | fail)
  go_loopw [6, 13] (fun v6 v13 wr => ∃ i : Nat, i ≤ n ∧ v13 = .int .i64 (i : Int) ∧ ∃ q k, v6 = .slice q i k ∧ wr.ownsRow (w.heap.size + 1) 25 6 (.slice q i k) i (flatL i L) ∧ Below w.heap.size w wr ∧ wr.heap[w.heap.size]? = some (.cells #[.int .i64 dk, .bool db, .int .i64 dn, .string ds, .slice dp dm dc, .slice dq dl de] 25 (0, 0))) (fun v6 v13 wr => n - (intOf v13).toNat)
  case atStart => exact ⟨0, by omega, rfl, none, 0, rfl, ⟨rfl, Or.inl ⟨rfl, rfl⟩⟩, HA.out.1, HA.out.2⟩
  case round =>
    obtain ⟨i, hi', rfl, q, k, rfl, hown, hbw, hrd⟩ := hrel
    by_cases him : i < n
    · have him' : (i : Int) < (n : Int) := by omega
      have hsw := hbw.size
      obtain ⟨X, hX⟩ : ∃ X, R i = X := ⟨_, rfl⟩
      obtain ⟨y, hy⟩ : ∃ y, L i = y := ⟨_, rfl⟩
      have ha : At10 w g (o + i * 10) X := by rw [← hX]; exact HK.out i him
      have e0 : wr.cell? ⟨g, o + i * 10, none⟩ = some (.int .i64 X.k) := (hbw.cell (p := ⟨g, o + i * 10, none⟩) hg).trans (ha 0 (by decide))
      have e1 : wr.cell? ⟨g, o + i * 10 + 1, none⟩ = some (.string X.s) := (hbw.cell (p := ⟨g, o + i * 10 + 1, none⟩) hg).trans (ha 1 (by decide))
      have e2 : wr.cell? ⟨g, o + i * 10 + 2, none⟩ = some (.int .i64 X.vk) := (hbw.cell (p := ⟨g, o + i * 10 + 2, none⟩) hg).trans (ha 2 (by decide))
      have e3 : wr.cell? ⟨g, o + i * 10 + 3, none⟩ = some (.bool X.vb) := (hbw.cell (p := ⟨g, o + i * 10 + 3, none⟩) hg).trans (ha 3 (by decide))
      have e4 : wr.cell? ⟨g, o + i * 10 + 4, none⟩ = some (.int .i64 X.vn) := (hbw.cell (p := ⟨g, o + i * 10 + 4, none⟩) hg).trans (ha 4 (by decide))
      have e5 : wr.cell? ⟨g, o + i * 10 + 5, none⟩ = some (.string X.vs) := (hbw.cell (p := ⟨g, o + i * 10 + 5, none⟩) hg).trans (ha 5 (by decide))
      have e6 : wr.cell? ⟨g, o + i * 10 + 6, none⟩ = some (.slice none 0 0) := (hbw.cell (p := ⟨g, o + i * 10 + 6, none⟩) hg).trans (ha 6 (by decide))
      have e7 : wr.cell? ⟨g, o + i * 10 + 7, none⟩ = some (.slice none 0 0) := (hbw.cell (p := ⟨g, o + i * 10 + 7, none⟩) hg).trans (ha 7 (by decide))
      have e8 : wr.cell? ⟨g, o + i * 10 + 8, none⟩ = some (.slice X.kp X.n X.kc) := (hbw.cell (p := ⟨g, o + i * 10 + 8, none⟩) hg).trans (ha 8 (by decide))
      have e9 : wr.cell? ⟨g, o + i * 10 + 9, none⟩ = some (.slice X.np X.m X.nc) := (hbw.cell (p := ⟨g, o + i * 10 + 9, none⟩) hg).trans (ha 9 (by decide))
      obtain ⟨w1, hw1⟩ : ∃ w1, wr.alloc (.cells #[.int .i64 X.k, .string X.s, .int .i64 X.vk, .bool X.vb, .int .i64 X.vn, .string X.vs, .slice none 0 0, .slice none 0 0, .slice X.kp X.n X.kc, .slice X.np X.m X.nc] 28) = w1 := ⟨_, rfl⟩
      have hb1 : Below wr.heap.size wr w1 := by rw [← hw1]; exact (Below.refl _ wr).alloc (Nat.le_refl _) _
      have rx : w1.heap[wr.heap.size]? = some (.cells #[.int .i64 X.k, .string X.s, .int .i64 X.vk, .bool X.vb, .int .i64 X.vn, .string X.vs, .slice none 0 0, .slice none 0 0, .slice X.kp X.n X.kc, .slice X.np X.m X.nc] 28 (0, 0)) := by rw [← hw1]; exact heap_alloc_new _ _
      have rd1 := Below.row hb1 hrd
      have own1 := own_later hown hb1
      have hbw1 := hbw.trans (hb1.mono hsw)
      have ex0 : w1.cell? ⟨wr.heap.size, 0, none⟩ = some (.int .i64 X.k) := cell_of_row w1 _ 0 _ _ _ rx
      have ex1 : w1.cell? ⟨wr.heap.size, 1, none⟩ = some (.string X.s) := cell_of_row w1 _ 1 _ _ _ rx
      have ex2 : w1.cell? ⟨wr.heap.size, 2, none⟩ = some (.int .i64 X.vk) := cell_of_row w1 _ 2 _ _ _ rx
      have ex3 : w1.cell? ⟨wr.heap.size, 3, none⟩ = some (.bool X.vb) := cell_of_row w1 _ 3 _ _ _ rx
      have ex4 : w1.cell? ⟨wr.heap.size, 4, none⟩ = some (.int .i64 X.vn) := cell_of_row w1 _ 4 _ _ _ rx
      have ex5 : w1.cell? ⟨wr.heap.size, 5, none⟩ = some (.string X.vs) := cell_of_row w1 _ 5 _ _ _ rx
      have ex6 : w1.cell? ⟨wr.heap.size, 6, none⟩ = some (.slice none 0 0) := cell_of_row w1 _ 6 _ _ _ rx
      have ex7 : w1.cell? ⟨wr.heap.size, 7, none⟩ = some (.slice none 0 0) := cell_of_row w1 _ 7 _ _ _ rx
      have ex8 : w1.cell? ⟨wr.heap.size, 8, none⟩ = some (.slice X.kp X.n X.kc) := cell_of_row w1 _ 8 _ _ _ rx
      have ex9 : w1.cell? ⟨wr.heap.size, 9, none⟩ = some (.slice X.np X.m X.nc) := cell_of_row w1 _ 9 _ _ _ rx
      have ed0 : w1.cell? ⟨w.heap.size, 0, none⟩ = some (.int .i64 dk) := cell_of_row w1 _ 0 _ _ _ rd1
      have ed1 : w1.cell? ⟨w.heap.size, 1, none⟩ = some (.bool db) := cell_of_row w1 _ 1 _ _ _ rd1
      have ed2 : w1.cell? ⟨w.heap.size, 2, none⟩ = some (.int .i64 dn) := cell_of_row w1 _ 2 _ _ _ rd1
      have ed3 : w1.cell? ⟨w.heap.size, 3, none⟩ = some (.string ds) := cell_of_row w1 _ 3 _ _ _ rd1
      have ed4 : w1.cell? ⟨w.heap.size, 4, none⟩ = some (.slice dp dm dc) := cell_of_row w1 _ 4 _ _ _ rd1
      have ed5 : w1.cell? ⟨w.heap.size, 5, none⟩ = some (.slice dq dl de) := cell_of_row w1 _ 5 _ _ _ rd1
      have kc : Calls Tryz.prog 21 #[.agg #[.int .i64 X.k, .string X.s, .int .i64 X.vk, .bool X.vb, .int .i64 X.vn, .string X.vs, .slice none 0 0, .slice none 0 0, .slice X.kp X.n X.kc, .slice X.np X.m X.nc], .agg #[.int .i64 dk, .bool db, .int .i64 dn, .string ds, .slice dp dm dc, .slice dq dl de]] w1 fun r W' => r = .returned (.tuple #[.agg #[.int .i64 y.k, .bool y.b, .int .i64 y.n, .string y.s, .slice y.p 0 y.pc, .slice y.q 0 y.qc], .int .i64 0]) ∧ Below w1.heap.size w1 W' := by
        rw [← hX, ← hy]
        exact HC.out w1 hbw1 i him
      have HY : Hid (flatL (i + 1) L = flatL i L ++ [.int .i64 y.k, .bool y.b, .int .i64 y.n, .string y.s, .slice y.p 0 y.pc, .slice y.q 0 y.qc]) := by
        show flatL i L ++ (L i).cs = _
        rw [hy]
        rfl
      have HW1 : Hid (wr.alloc (.cells #[.int .i64 X.k, .string X.s, .int .i64 X.vk, .bool X.vb, .int .i64 X.vn, .string X.vs, .slice none 0 0, .slice none 0 0, .slice X.kp X.n X.kc, .slice X.np X.m X.nc] 28) = w1) := hw1
      have H1 : Hid (w1.ownsRow (w.heap.size + 1) 25 6 (.slice q i k) i (flatL i L) ∧ Below w.heap.size w w1 ∧ w1.heap[w.heap.size]? = some (.cells #[.int .i64 dk, .bool db, .int .i64 dn, .string ds, .slice dp dm dc, .slice dq dl de] 25 (0, 0))) := ⟨own1, hbw1, rd1⟩
      clear hb1 rx rd1 own1 hbw1 hw1 hown hbw hrd ha hX hy
      go_wp2_with (first | rw [HW1.out] | fail)
      refine kc.mono ?_
      rintro r w2 ⟨rfl, hb2⟩
      have H2 : Hid (w2.ownsRow (w.heap.size + 1) 25 6 (.slice q i k) i (flatL i L) ∧ Below w.heap.size w w2 ∧ w2.heap[w.heap.size]? = some (.cells #[.int .i64 dk, .bool db, .int .i64 dn, .string ds, .slice dp dm dc, .slice dq dl de] 25 (0, 0))) := ⟨own_later H1.out.1 hb2, H1.out.2.1.trans (hb2.mono H1.out.2.1.size), Below.row hb2 H1.out.2.2⟩
      obtain ⟨w3, hw3⟩ : ∃ w3, w2.alloc (.cells #[.int .i64 y.k, .bool y.b, .int .i64 y.n, .string y.s, .slice y.p 0 y.pc, .slice y.q 0 y.qc] 25) = w3 := ⟨_, rfl⟩
      have hb3 : Below w2.heap.size w2 w3 := by rw [← hw3]; exact (Below.refl _ w2).alloc (Nat.le_refl _) _
      have ry : w3.heap[w2.heap.size]? = some (.cells #[.int .i64 y.k, .bool y.b, .int .i64 y.n, .string y.s, .slice y.p 0 y.pc, .slice y.q 0 y.qc] 25 (0, 0)) := by rw [← hw3]; exact heap_alloc_new _ _
      have ey0 : w3.cell? ⟨w2.heap.size, 0, none⟩ = some (.int .i64 y.k) := cell_of_row w3 _ 0 _ _ _ ry
      have ey1 : w3.cell? ⟨w2.heap.size, 1, none⟩ = some (.bool y.b) := cell_of_row w3 _ 1 _ _ _ ry
      have ey2 : w3.cell? ⟨w2.heap.size, 2, none⟩ = some (.int .i64 y.n) := cell_of_row w3 _ 2 _ _ _ ry
      have ey3 : w3.cell? ⟨w2.heap.size, 3, none⟩ = some (.string y.s) := cell_of_row w3 _ 3 _ _ _ ry
      have ey4 : w3.cell? ⟨w2.heap.size, 4, none⟩ = some (.slice y.p 0 y.pc) := cell_of_row w3 _ 4 _ _ _ ry
      have ey5 : w3.cell? ⟨w2.heap.size, 5, none⟩ = some (.slice y.q 0 y.qc) := cell_of_row w3 _ 5 _ _ _ ry
      have HW3 : Hid (w2.alloc (.cells #[.int .i64 y.k, .bool y.b, .int .i64 y.n, .string y.s, .slice y.p 0 y.pc, .slice y.q 0 y.qc] 25) = w3) := hw3
      have own3 := own_later H2.out.1 hb3
      have s2 := H2.out.2.1.size
      have s3 := hb3.size
      have H3 : Hid (Below w.heap.size w w3 ∧ w3.heap[w.heap.size]? = some (.cells #[.int .i64 dk, .bool db, .int .i64 dn, .string ds, .slice dp dm dc, .slice dq dl de] 25 (0, 0))) := ⟨H2.out.2.1.trans (hb3.mono s2), Below.row hb3 H2.out.2.2⟩
      have ld := lt_of_row H3.out.2
      clear hw3 ry kc hb2 hb3 H1 H2 e0 e1 e2 e3 e4 e5 e6 e7 e8 e9 ex0 ex1 ex2 ex3 ex4 ex5 ex6 ex7 ex8 ex9 ed0 ed1 ed2 ed3 ed4 ed5 HW1
      go_wp2_with (first | rw [HW3.out] | (at_builtin; refine wpList_append_own_at _ rfl _ _ 22 rfl (w.heap.size + 1) 25 i0 (.agg #[.int .i64 0, .bool false, .int .i64 0, .string ⟨#[]⟩, .slice none 0 0, .slice none 0 0]) 6 88 Tryz.underlying22 hi hz0 hz1 hz2 rfl (by decide) _ _ _ rfl (own3.alloc _) ⟨w3.heap.size, 0, none⟩ 1 1 [Value.int .i64 y.k, Value.bool y.b, Value.int .i64 y.n, Value.string y.s, Value.slice y.p 0 y.pc, Value.slice y.q 0 y.qc] rfl rfl ?c1 ?c2 ?c3 ?c4 ?c5 ?_))
      case c1 => exact World.news_of_block (heap_alloc_new w3 _)
      case c2 => simp [Value.oneCell']
      case c3 => unfold maxLen; omega
      case c4 => omega
      case c5 => simp; omega
      intro v' w5 hown5 hgr5 _ hat5
      have b5 : Below w.heap.size w w5 := ((H3.out.1.alloc H3.out.1.size _).grown hgr5 (by simp; omega) (fun k hk => by have := own3.lt k hk; omega))
      have r5 : w5.heap[w.heap.size]? = some (.cells #[.int .i64 dk, .bool db, .int .i64 dn, .string ds, .slice dp dm dc, .slice dq dl de] 25 (0, 0)) := (hgr5.block _ (by simp; omega) (fun e => by have := own3.lt _ e.symm; omega)).trans ((Below.heap_alloc _ _ _ (by omega)).trans H3.out.2)
      obtain ⟨q6, k6, rfl⟩ := own_len hown5
      have H5 : Hid (w5.ownsRow (w.heap.size + 1) 25 6 (.slice q6 (i + 1) k6) (i + 1) (flatL (i + 1) L) ∧ Below w.heap.size w w5 ∧ w5.heap[w.heap.size]? = some (.cells #[.int .i64 dk, .bool db, .int .i64 dn, .string ds, .slice dp dm dc, .slice dq dl de] 25 (0, 0))) := by
        refine ⟨?_, b5, r5⟩
        rw [HY.out]
        exact hown5
      clear hown5 hgr5 hat5 b5 r5 own3 H3
      go_wp2
      go_roundw
      case rel => exact ⟨i + 1, by omega, by go_num, q6, k6, rfl, H5.out.1, H5.out.2.1, H5.out.2.2⟩
      case measure => simp [intOf]; omega
    · obtain rfl : i = n := by omega
      have H1 : Hid (wr.ownsRow (w.heap.size + 1) 25 6 (.slice q i k) i (flatL i L) ∧ Below w.heap.size w wr) := ⟨hown, hbw⟩
      clear hown hbw hrd
      go_wp2
      go_ret2
      refine ⟨q, k, rfl, ?_, H1.out.2⟩
      refine ⟨H1.out.1.1, ?_⟩
      rcases H1.out.1.2 with hn0 | ⟨b, cap, cur, hv, hb2, hr, rest⟩
      · exact .inl hn0
      · exact .inr ⟨b, cap, cur, hv, by omega, hr, rest⟩
end Go.Proofs.YtnnclhmhbmbkfaaGreatDoor
namespace Go.Proofs.YtnnclhmhbmbkfaaGreatDoor
open Go.RowKit Go.Shelf
attribute [local go_sem] Oper.semAt_some
set_option maxRecDepth 100000 in
set_option maxHeartbeats 1000000 in
theorem all_none (p : Option Addr) (c : Nat) (dk : Int) (db : Bool) (dn : Int) (ds : ByteArray) (dp : Option Addr) (dm dc : Nat) (dq : Option Addr) (dl de : Nat) (w : World) : Calls Tryz.prog 42 #[.slice p 0 c, .agg #[.int .i64 dk, .bool db, .int .i64 dn, .string ds, .slice dp dm dc, .slice dq dl de]] w fun r w' => r = .returned (.tuple #[.slice none 0 0, .int .i64 0]) ∧ Below w.heap.size w w' := by
  go_enter Tryz.func42, Tryz.ntmps42
  go_wp2
  go_loopw [6, 13] (fun v6 v13 wr => v13 = .int .i64 0 ∧ v6 = .slice none 0 0 ∧ Below w.heap.size w wr) (fun _ _ _ => 0)
  case atStart => exact ⟨rfl, rfl, (Below.refl _ w).alloc (Nat.le_refl _) _⟩
  case round =>
    obtain ⟨rfl, rfl, hb⟩ := hrel
    go_wp2
    go_ret2
    exact ⟨rfl, hb⟩
set_option maxRecDepth 100000 in
set_option maxHeartbeats 4000000 in
theorem reckon_lit (xs : ByteArray) (y : Lf) (kp : Option Addr) (kc : Nat) (np : Option Addr) (m nc : Nat) (dk : Int) (db : Bool) (dn : Int) (ds : ByteArray) (dp : Option Addr) (dm dc : Nat) (dq : Option Addr) (dl de : Nat) (w : World) :
    Calls Tryz.prog 21 #[.agg #[.int .i64 1, .string xs, .int .i64 y.k, .bool y.b, .int .i64 y.n, .string y.s, .slice none 0 0, .slice none 0 0, .slice kp 0 kc, .slice np m nc], .agg #[.int .i64 dk, .bool db, .int .i64 dn, .string ds, .slice dp dm dc, .slice dq dl de]] w fun r w' => r = .returned (.tuple #[.agg #[.int .i64 y.k, .bool y.b, .int .i64 y.n, .string y.s, .slice none 0 0, .slice none 0 0], .int .i64 0]) ∧ Below w.heap.size w w' := by
  have kk := kids_leaf 1 (Or.inl rfl) (.string xs) (.int .i64 y.k) (.bool y.b) (.int .i64 y.n) (.string y.s) (.slice none 0 0) (.slice none 0 0) (.slice kp 0 kc) (.slice np m nc)
  obtain ⟨w3, hw3⟩ : ∃ u, (((w.alloc (.cells #[.int .i64 1, .string xs, .int .i64 y.k, .bool y.b, .int .i64 y.n, .string y.s, .slice none 0 0, .slice none 0 0, .slice kp 0 kc, .slice np m nc] 28)).alloc (.cells #[.int .i64 dk, .bool db, .int .i64 dn, .string ds, .slice dp dm dc, .slice dq dl de] 25)).alloc (.cells #[.int .i64 0, .bool false, .int .i64 0, .string ⟨#[]⟩, .slice none 0 0, .slice none 0 0] 25)) = u := ⟨_, rfl⟩
  obtain ⟨rw30, rw31, rw32, bw3⟩ := alloc3 hw3
  have HWw3 := mkHid hw3
  have aR : Hid (w3.heap[w.heap.size]? = some (.cells #[.int .i64 1, .string xs, .int .i64 y.k, .bool y.b, .int .i64 y.n, .string y.s, .slice none 0 0, .slice none 0 0, .slice kp 0 kc, .slice np m nc] 28 (0, 0)) ∧ w3.heap[w.heap.size + 1]? = some (.cells #[.int .i64 dk, .bool db, .int .i64 dn, .string ds, .slice dp dm dc, .slice dq dl de] 25 (0, 0)) ∧ w3.heap[w.heap.size + 1 + 1]? = some (.cells #[.int .i64 0, .bool false, .int .i64 0, .string ⟨#[]⟩, .slice none 0 0, .slice none 0 0] 25 (0, 0)) ∧ Below w.heap.size w w3) := ⟨rw30, rw31, rw32, bw3⟩
  clear hw3 rw31 rw32 bw3
  go_enter Tryz.func21, Tryz.ntmps21
  go_wp2_with (first | rw [HWw3.out] | fail)
  refine any_tail (by kernel_rfl) 6 (by exact Nat.le_of_ble_eq_true rfl) (fun i => i + 10) (mixR [] [.pointer (some ⟨w.heap.size, 8, none⟩), .slice kp 0 kc, .int .i64 0, .agg #[.int .i64 1, .string xs, .int .i64 y.k, .bool y.b, .int .i64 y.n, .string y.s, .slice none 0 0, .slice none 0 0, .slice kp 0 kc, .slice np m nc], .int .i64 0, .bool false]) (by kernel_rfl) (by kernel_rfl) (by kernel_rfl) (by kernel_rfl) (mixR_later _ _ (stab_nil)) ?step ?post
  case step =>
    intro iq hiq a W hrest hb hk
    have hp2 : a.eval (.tmp 2) = .pointer (some ⟨w.heap.size, 0, none⟩) := (hrest 2 (by intro iq2 hiq2; (repeat' split) <;> omega)).trans rfl
    have fp2 := ev hp2
    have hx2 : W.heap[w.heap.size]? = some (.cells #[.int .i64 1, .string xs, .int .i64 y.k, .bool y.b, .int .i64 y.n, .string y.s, .slice none 0 0, .slice none 0 0, .slice kp 0 kc, .slice np m nc] 28 (0, 0)) := (hb.block _ (lt_of_row rw30)).trans rw30
    clear hrest
    obtain rfl | rfl | rfl | rfl | rfl | rfl : iq = 0 ∨ iq = 1 ∨ iq = 2 ∨ iq = 3 ∨ iq = 4 ∨ iq = 5 := by omega
    · clear hiq
      clear hk
      refine ⟨_, rfl, rfl, rfl, wp_value (v := .pointer (some ⟨w.heap.size, 8, none⟩)) (w' := W) ?_ ⟨_, rfl, Below.refl _ _, rfl⟩⟩
      go_simp
    · clear hiq
      have e0 : a.eval (.tmp 10) = .pointer (some ⟨w.heap.size, 8, none⟩) := hk 0 (mem_of (by kernel_rfl))
      have f0 := ev e0
      have hc8 := cell_of_row W w.heap.size 8 _ _ _ hx2
      clear hk
      refine ⟨_, rfl, rfl, rfl, wp_value (v := .slice kp 0 kc) (w' := W) ?_ ⟨_, rfl, Below.refl _ _, rfl⟩⟩
      go_simp
    · clear hiq
      have e1 : a.eval (.tmp 11) = .slice kp 0 kc := hk 1 (mem_of (by kernel_rfl))
      have f1 := ev e1
      clear hk
      refine ⟨_, rfl, rfl, rfl, wp_value (v := .int .i64 0) (w' := W) ?_ ⟨_, rfl, Below.refl _ _, rfl⟩⟩
      go_simp
    · clear hiq
      have hc0 := cell_of_row W w.heap.size 0 _ _ _ hx2
      have hc1 := cell_of_row W w.heap.size 1 _ _ _ hx2
      have hc2 := cell_of_row W w.heap.size 2 _ _ _ hx2
      have hc3 := cell_of_row W w.heap.size 3 _ _ _ hx2
      have hc4 := cell_of_row W w.heap.size 4 _ _ _ hx2
      have hc5 := cell_of_row W w.heap.size 5 _ _ _ hx2
      have hc6 := cell_of_row W w.heap.size 6 _ _ _ hx2
      have hc7 := cell_of_row W w.heap.size 7 _ _ _ hx2
      have hc8 := cell_of_row W w.heap.size 8 _ _ _ hx2
      have hc9 := cell_of_row W w.heap.size 9 _ _ _ hx2
      clear hk
      refine ⟨_, rfl, rfl, rfl, wp_value (v := .agg #[.int .i64 1, .string xs, .int .i64 y.k, .bool y.b, .int .i64 y.n, .string y.s, .slice none 0 0, .slice none 0 0, .slice kp 0 kc, .slice np m nc]) (w' := W) ?_ ⟨_, rfl, Below.refl _ _, rfl⟩⟩
      go_simp
    · clear hiq
      have e3 : a.eval (.tmp 13) = .agg #[.int .i64 1, .string xs, .int .i64 y.k, .bool y.b, .int .i64 y.n, .string y.s, .slice none 0 0, .slice none 0 0, .slice kp 0 kc, .slice np m nc] := hk 3 (mem_of (by kernel_rfl))
      have f3 := ev e3
      clear hk
      refine ⟨_, rfl, rfl, rfl, wp_enter (f := 39) (args := #[.agg #[.int .i64 1, .string xs, .int .i64 y.k, .bool y.b, .int .i64 y.n, .string y.s, .slice none 0 0, .slice none 0 0, .slice kp 0 kc, .slice np m nc]]) ?_ ((kk W).mono ?_)⟩
      · go_simp
      · rintro e w2 ⟨rfl, hb2⟩
        exact ⟨_, rfl, _, rfl, hb2, rfl⟩
    · clear hiq
      have e2 : a.eval (.tmp 12) = .int .i64 0 := hk 2 (mem_of (by kernel_rfl))
      have f2 := ev e2
      have e4 : a.eval (.tmp 14) = .int .i64 0 := hk 4 (mem_of (by kernel_rfl))
      have f4 := ev e4
      clear hk
      refine ⟨_, rfl, rfl, rfl, wp_value (v := .bool false) (w' := W) ?_ ⟨_, rfl, Below.refl _ _, rfl⟩⟩
      go_simp
  case post =>
    intro V1 W hbW hV
    have v5 : V1 5 = .bool false := hV 5 (by omega)
    have bR : Hid (W.heap[w.heap.size]? = some (.cells #[.int .i64 1, .string xs, .int .i64 y.k, .bool y.b, .int .i64 y.n, .string y.s, .slice none 0 0, .slice none 0 0, .slice kp 0 kc, .slice np m nc] 28 (0, 0)) ∧ W.heap[w.heap.size + 1]? = some (.cells #[.int .i64 dk, .bool db, .int .i64 dn, .string ds, .slice dp dm dc, .slice dq dl de] 25 (0, 0)) ∧ W.heap[w.heap.size + 1 + 1]? = some (.cells #[.int .i64 0, .bool false, .int .i64 0, .string ⟨#[]⟩, .slice none 0 0, .slice none 0 0] 25 (0, 0)) ∧ Below w.heap.size w W) := ⟨Below.row hbW aR.out.1, Below.row hbW aR.out.2.1, Below.row hbW aR.out.2.2.1, aR.out.2.2.2.trans (hbW.mono aR.out.2.2.2.size)⟩
    clear hV kk hbW aR rw30
    simp only [putAll, Nat.reduceAdd]
    rw [v5]
    simp only [Act.put, List.setIfInBounds_toArray, List.set_cons_zero, List.set_cons_succ]
    change wpList _ _ _ [] _ _
    have hlt : Hid (w.heap.size < W.heap.size) := lt_of_row bR.out.1
    have ka := all_none kp kc dk db dn ds dp dm dc dq dl de
    have cx0 : W.cell? ⟨w.heap.size, 0, none⟩ = some (.int .i64 1) := cell_of_row W _ 0 _ _ _ bR.out.1
    have cx8 : W.cell? ⟨w.heap.size, 8, none⟩ = some (.slice kp 0 kc) := cell_of_row W _ 8 _ _ _ bR.out.1
    have cxd0 : W.cell? ⟨w.heap.size + 1, 0, none⟩ = some (.int .i64 dk) := cell_of_row W _ 0 _ _ _ bR.out.2.1
    have cxd1 : W.cell? ⟨w.heap.size + 1, 1, none⟩ = some (.bool db) := cell_of_row W _ 1 _ _ _ bR.out.2.1
    have cxd2 : W.cell? ⟨w.heap.size + 1, 2, none⟩ = some (.int .i64 dn) := cell_of_row W _ 2 _ _ _ bR.out.2.1
    have cxd3 : W.cell? ⟨w.heap.size + 1, 3, none⟩ = some (.string ds) := cell_of_row W _ 3 _ _ _ bR.out.2.1
    have cxd4 : W.cell? ⟨w.heap.size + 1, 4, none⟩ = some (.slice dp dm dc) := cell_of_row W _ 4 _ _ _ bR.out.2.1
    have cxd5 : W.cell? ⟨w.heap.size + 1, 5, none⟩ = some (.slice dq dl de) := cell_of_row W _ 5 _ _ _ bR.out.2.1
    go_wp2_with fail
    refine (ka _).mono ?_
    rintro r w5 ⟨rfl, hb5⟩
    have cR : Hid (w5.heap[w.heap.size]? = some (.cells #[.int .i64 1, .string xs, .int .i64 y.k, .bool y.b, .int .i64 y.n, .string y.s, .slice none 0 0, .slice none 0 0, .slice kp 0 kc, .slice np m nc] 28 (0, 0)) ∧ w5.heap[w.heap.size + 1]? = some (.cells #[.int .i64 dk, .bool db, .int .i64 dn, .string ds, .slice dp dm dc, .slice dq dl de] 25 (0, 0)) ∧ w5.heap[w.heap.size + 1 + 1]? = some (.cells #[.int .i64 0, .bool false, .int .i64 0, .string ⟨#[]⟩, .slice none 0 0, .slice none 0 0] 25 (0, 0)) ∧ Below w.heap.size w w5) := ⟨Below.row hb5 bR.out.1, Below.row hb5 bR.out.2.1, Below.row hb5 bR.out.2.2.1, bR.out.2.2.2.trans (hb5.mono bR.out.2.2.2.size)⟩
    have dx0 : w5.cell? ⟨w.heap.size, 0, none⟩ = some (.int .i64 1) := cell_of_row w5 _ 0 _ _ _ cR.out.1
    have dx2 : w5.cell? ⟨w.heap.size, 2, none⟩ = some (.int .i64 y.k) := cell_of_row w5 _ 2 _ _ _ cR.out.1
    have dx3 : w5.cell? ⟨w.heap.size, 3, none⟩ = some (.bool y.b) := cell_of_row w5 _ 3 _ _ _ cR.out.1
    have dx4 : w5.cell? ⟨w.heap.size, 4, none⟩ = some (.int .i64 y.n) := cell_of_row w5 _ 4 _ _ _ cR.out.1
    have dx5 : w5.cell? ⟨w.heap.size, 5, none⟩ = some (.string y.s) := cell_of_row w5 _ 5 _ _ _ cR.out.1
    have dx6 : w5.cell? ⟨w.heap.size, 6, none⟩ = some (.slice none 0 0) := cell_of_row w5 _ 6 _ _ _ cR.out.1
    have dx7 : w5.cell? ⟨w.heap.size, 7, none⟩ = some (.slice none 0 0) := cell_of_row w5 _ 7 _ _ _ cR.out.1
    clear bR hb5 ka cx0 cx8 cxd0 cxd1 cxd2 cxd3 cxd4 cxd5
    go_wp2_with (first | (refine wpList_put rfl 25 (.tmp 4) (.tmp 51) rfl rfl rfl rfl cR.out.2.2.1 rfl info25 (by simp [Value.oneCell']) ?_) | fail)
    exact bodyPost_ret (results_row_tmp Tryz.results21 _ _ (w.heap.size + 1 + 1) 25 _ (0, 0) _ rfl (put_row _ cR.out.2.2.1 rfl) Tryz.underlying25 rfl info25) rfl ⟨rfl, put_below cR.out.2.2.2 _ (by omega) _⟩
end Go.Proofs.YtnnclhmhbmbkfaaGreatDoor
