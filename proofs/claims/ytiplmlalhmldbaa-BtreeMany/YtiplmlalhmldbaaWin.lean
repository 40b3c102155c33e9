/- A node that has kids, with a key in it or below it (with). -/
import Derived.Test.YtiplmlalhmldbaaWik
namespace Go.Proofs.Ytiplmlalhmldbaa
open Go.RowKit Go.Shelf
def NiV (n : Nat) (L : List Value) (q : Option Addr) (m d : Nat) (v : Value) (W : World) : Prop := ∃ p c, v = .agg #[.slice p n c, .slice q m d] ∧ Sl W p n c L
theorem NiV.later {n : Nat} {L : List Value} {q : Option Addr} {m d : Nat} : ∀ v W W', NiV n L q m d v W → Below W.heap.size W W' → NiV n L q m d v W' := fun _ _ _ ⟨p, c, h1, h2⟩ hb => ⟨p, c, h1, h2.later hb⟩
set_option maxRecDepth 100000 in
set_option maxHeartbeats 8000000 in
theorem with_inner {h : Nat} (xs : List Im) (ts : List (Nd h)) (x : Im) (hr : Ris xs) (hn : xs.length ≤ 50) (hts : ts.length = xs.length + 1) (hok : ∀ t ∈ ts, Ok h t ∧ 0 < (its h t).length) (kid2 : Nd h) (r : Nd (h + 1)) (okr : Ok (h + 1) r)
    (hrec : isK xs x.1 = false → ∀ W kv, Lies W h (ts.getD (posK xs x.1) (dflt h)) kv → Calls Try.prog 27 #[kv, .agg #[.string x.1, .string x.2]] W fun e w' => ∃ v, e = .returned v ∧ Lies w' h kid2 v ∧ Below W.heap.size W w')
    (hwk : isK xs x.1 = false → ∀ W p c q d L kv, Sl W p xs.length c (itC xs) → Sl W q ts.length d L → LiesL W h ts L → Lies W h kid2 kv → Calls Try.prog 36 #[.agg #[.slice p xs.length c, .slice q ts.length d], .int .i64 (posK xs x.1 : Int), kv] W fun e w' => ∃ v, e = .returned v ∧ Lies w' (h + 1) r v ∧ Below W.heap.size W w')
    (p : Option Addr) (c : Nat) (q : Option Addr) (d : Nat) (w : World) (hS : Sl w p xs.length c (itC xs)) (L : List Value) (hQ : Sl w q ts.length d L) (hL : LiesL w h ts L) :
    Calls Try.prog 27 #[.agg #[.slice p xs.length c, .slice q ts.length d], .agg #[.string x.1, .string x.2]] w fun e w' => ∃ v, e = .returned v ∧ Lies w' (h + 1) (if isK xs x.1 = true then mkN (xs.take (posK xs x.1) ++ [x] ++ xs.drop (posK xs x.1 + 1)) ts else r) v ∧ Below w.heap.size w w' := by
  have hpl := posK_le xs x.1
  have hkl := isK_lt (xs := xs) (key := x.1)
  obtain ⟨w3, hw3⟩ : ∃ w3, ((w.alloc (.cells #[.slice p xs.length c, .slice q ts.length d] 59)).alloc (.cells #[.string x.1, .string x.2] 66)).alloc (.cells #[.slice none 0 0, .slice none 0 0] 59) = w3 := ⟨_, rfl⟩
  have hb3 : Below w.heap.size w w3 := by rw [← hw3]; exact (((Below.refl _ w).alloc (Nat.le_refl _) _).alloc (by simp) _).alloc (by simp; omega) _
  have r0 : w3.heap[w.heap.size]? = some (.cells #[.slice p xs.length c, .slice q ts.length d] 59 (0, 0)) := by
    rw [← hw3, Below.heap_alloc _ _ _ (by simp; omega), Below.heap_alloc _ _ _ (by simp)]; exact heap_alloc_new _ _
  have r1 : w3.heap[w.heap.size + 1]? = some (.cells #[.string x.1, .string x.2] 66 (0, 0)) := by
    rw [← hw3, Below.heap_alloc _ _ _ (by simp)]
    have := heap_alloc_new (w.alloc (.cells #[.slice p xs.length c, .slice q ts.length d] 59)) (.cells #[.string x.1, .string x.2] 66)
    simpa using this
  have r2 : w3.heap[w.heap.size + 1 + 1]? = some (.cells #[.slice none 0 0, .slice none 0 0] 59 (0, 0)) := by
    rw [← hw3]
    have := heap_alloc_new ((w.alloc (.cells #[.slice p xs.length c, .slice q ts.length d] 59)).alloc (.cells #[.string x.1, .string x.2] 66)) (.cells #[.slice none 0 0, .slice none 0 0] 59)
    simpa using this
  have a0 := cell_of_row w3 _ 0 _ _ _ r0
  have a1 := cell_of_row w3 _ 1 _ _ _ r0
  have b0 := cell_of_row w3 _ 0 _ _ _ r1
  have HTS : Hid (ts.length = xs.length + 1) := hts
  have kf := find_any xs hr (by omega) x.1 p c q ts.length d w3 (hS.later hb3)
  have kl := fun W => leaf_any p xs.length c q ts.length d W
  have hm0 : ¬ ts.length = 0 := by omega
  rw [decide_eq_false hm0] at kl
  have HOK : Hid (∀ t ∈ ts, Ok h t ∧ 0 < (its h t).length) := hok
  have HOR : Hid (Ok (h + 1) r) := okr
  have HHR := hrec
  have HWK := hwk
  obtain ⟨i, hi⟩ : ∃ i, posK xs x.1 = i := ⟨_, rfl⟩
  obtain ⟨K, hK⟩ : ∃ K, isK xs x.1 = K := ⟨_, rfl⟩
  rw [hi, hK] at kf
  rw [hi, hK] at hkl
  rw [hi] at hpl
  rw [hi, hK] at HHR HWK
  rw [hi, hK]
  obtain ⟨T, hT⟩ : ∃ T : Nd (h + 1), (if K = true then mkN (xs.take i ++ [x] ++ xs.drop (i + 1)) ts else r) = T := ⟨_, rfl⟩
  rw [hT]
  have HT : Hid ((if K = true then mkN (xs.take i ++ [x] ++ xs.drop (i + 1)) ts else r) = T) := hT
  clear hT
  have hkg : i < ts.length := by omega
  clear hrec hwk hok okr hts hm0 hi hK
  go_enter Try.func27, Try.ntmps27
  go_wp2_with fail
  refine kf.mono ?_
  rintro e w4 ⟨rfl, hb4⟩
  clear hw3 a0 a1 b0 kf
  have t0 := (hb4.block _ (lt_of_row r0)).trans r0
  have t1 := (hb4.block _ (lt_of_row r1)).trans r1
  have t2 := (hb4.block _ (lt_of_row r2)).trans r2
  have hB4 : Below w.heap.size w w4 := hb3.trans (hb4.mono hb3.size)
  clear r0 r1 r2 hb3 hb4
  cases K with
  | true =>
    have hix := hkl rfl
    have hr7 : ∀ W, Below w4.heap.size w4 W → ∀ p6 c6, Sl W p6 1 c6 (itC [x]) → Calls Try.prog 34 #[.slice p xs.length c, .int .i64 (i : Int), .int .i64 ((i : Int) + 1), .slice p6 1 c6] W fun e w' => ∃ p' c', e = .returned (.slice p' (i + 1 + (xs.length - (i + 1))) c') ∧ Sl w' p' (i + 1 + (xs.length - (i + 1))) c' ((itC xs).take (i * 2) ++ itC [x] ++ (itC xs).drop ((i + 1) * 2)) ∧ Below W.heap.size W w' := fun W hb p6 c6 h6 => repl66 (itC xs) p xs.length c (itC [x]) p6 1 c6 i (i + 1) (by omega) (by omega) (by omega) (by omega) W ((hS.later hB4).later hb) h6
    clear HHR HWK kl hkl
    go_wp2
    refine any_tail (by kernel_rfl) 11 (by exact Nat.le_of_ble_eq_true rfl) (fun i => i + 15) (mixR [(6, SlV 1 (itC [x])), (7, SlV (i + 1 + (xs.length - (i + 1))) ((itC xs).take (i * 2) ++ itC [x] ++ (itC xs).drop ((i + 1) * 2))), (10, NiV (i + 1 + (xs.length - (i + 1))) ((itC xs).take (i * 2) ++ itC [x] ++ (itC xs).drop ((i + 1) * 2)) q ts.length d)] [.pointer (some ⟨w.heap.size, 0, none⟩), .slice p xs.length c, .int .i64 (i : Int), .int .i64 (i : Int), .int .i64 ((i : Int) + 1), .agg #[.string x.1, .string x.2], undef, undef, .pointer (some ⟨w.heap.size, 1, none⟩), .slice q ts.length d, undef]) (by kernel_rfl) (by kernel_rfl) (by kernel_rfl) (by kernel_rfl) (mixR_later _ _ (stab_cons SlV.later (stab_cons SlV.later (stab_cons NiV.later stab_nil)))) ?step ?post
    case step =>
      intro iq hiq a W hrest hb hk
      have hp2 : a.eval (.tmp 2) = .pointer (some ⟨w.heap.size, 0, none⟩) := (hrest 2 (by intro iq2 hiq2; (repeat' split) <;> omega)).trans rfl
      have fp2 := ev hp2
      have hx2 : W.heap[w.heap.size]? = some (.cells #[.slice p xs.length c, .slice q ts.length d] 59 (0, 0)) := (hb.block _ (lt_of_row t0)).trans t0
      have hp3 : a.eval (.tmp 3) = .pointer (some ⟨w.heap.size + 1, 0, none⟩) := (hrest 3 (by intro iq2 hiq2; (repeat' split) <;> omega)).trans rfl
      have fp3 := ev hp3
      have hx3 : W.heap[w.heap.size + 1]? = some (.cells #[.string x.1, .string x.2] 66 (0, 0)) := (hb.block _ (lt_of_row t1)).trans t1
      have hp5 : a.eval (.tmp 5) = .int .i64 (i : Int) := (hrest 5 (by intro iq2 hiq2; (repeat' split) <;> omega)).trans rfl
      have fp5 := ev hp5
      clear hrest
      obtain rfl | rfl | rfl | rfl | rfl | rfl | rfl | rfl | rfl | rfl | rfl : iq = 0 ∨ iq = 1 ∨ iq = 2 ∨ iq = 3 ∨ iq = 4 ∨ iq = 5 ∨ iq = 6 ∨ iq = 7 ∨ iq = 8 ∨ iq = 9 ∨ iq = 10 := by omega
      · clear hiq
        clear hk
        refine ⟨_, rfl, rfl, rfl, wp_value (v := .pointer (some ⟨w.heap.size, 0, none⟩)) (w' := W) ?_ ⟨_, rfl, Below.refl _ _, rfl⟩⟩
        go_simp
      · clear hiq
        have e0 : a.eval (.tmp 15) = .pointer (some ⟨w.heap.size, 0, none⟩) := hk 0 (mem_of (by kernel_rfl))
        have f0 := ev e0
        have hc : W.cell? ⟨w.heap.size, 0, none⟩ = some (.slice p xs.length c) := cell_of_row W _ 0 _ _ _ hx2
        clear hk
        refine ⟨_, rfl, rfl, rfl, wp_value (v := .slice p xs.length c) (w' := W) ?_ ⟨_, rfl, Below.refl _ _, rfl⟩⟩
        go_simp
      · clear hiq
        clear hk
        refine ⟨_, rfl, rfl, rfl, wp_value (v := .int .i64 (i : Int)) (w' := W) ?_ ⟨_, rfl, Below.refl _ _, rfl⟩⟩
        go_simp
      · clear hiq
        clear hk
        refine ⟨_, rfl, rfl, rfl, wp_value (v := .int .i64 (i : Int)) (w' := W) ?_ ⟨_, rfl, Below.refl _ _, rfl⟩⟩
        go_simp
      · clear hiq
        have e3 : a.eval (.tmp 18) = .int .i64 (i : Int) := hk 3 (mem_of (by kernel_rfl))
        have f3 := ev e3
        clear hk
        refine ⟨_, rfl, rfl, rfl, wp_value (v := .int .i64 ((i : Int) + 1)) (w' := W) ?_ ⟨_, rfl, Below.refl _ _, rfl⟩⟩
        go_simp
        rw [IntKind.wrap_i64]; omega
      · clear hiq
        clear hk
        refine ⟨_, rfl, rfl, rfl, wp_load_row 66 (.tmp 3) rfl (w.heap.size + 1) hp3 66 #[.string x.1, .string x.2] (0, 0) _ hx3 Try.underlying66 rfl (by kernel_rfl) ?_⟩
        exact ⟨_, rfl, Below.refl _ _, rfl⟩
      · clear hiq
        have e5 : a.eval (.tmp 20) = .agg #[.string x.1, .string x.2] := hk 5 (mem_of (by kernel_rfl))
        have f5 := ev e5
        clear hk
        refine ⟨_, rfl, rfl, rfl, wp_value (v := .slice (some ⟨W.heap.size, 0, none⟩) 1 1) (w' := W.alloc (.cells #[.string x.1, .string x.2] 66)) ?_ ⟨_, rfl, (Below.refl _ _).alloc (Nat.le_refl _) _, ⟨_, _, rfl, Sl.one_item W x 66⟩⟩⟩
        go_simp
      · clear hiq
        have e1 : a.eval (.tmp 16) = .slice p xs.length c := hk 1 (mem_of (by kernel_rfl))
        have f1 := ev e1
        have e2 : a.eval (.tmp 17) = .int .i64 (i : Int) := hk 2 (mem_of (by kernel_rfl))
        have f2 := ev e2
        have e4 : a.eval (.tmp 19) = .int .i64 ((i : Int) + 1) := hk 4 (mem_of (by kernel_rfl))
        have f4 := ev e4
        obtain ⟨p6, c6, e6, s6x⟩ := show SlV 1 (itC [x]) (a.eval (.tmp 21)) W from hk 6 (mem_of (by kernel_rfl))
        have f6 := ev e6
        clear hk
        refine ⟨_, rfl, rfl, rfl, wp_enter (f := 34) (args := #[.slice p xs.length c, .int .i64 (i : Int), .int .i64 ((i : Int) + 1), .slice p6 1 c6]) ?_ ((hr7 W hb p6 c6 s6x).mono ?_)⟩
        · go_simp
        · rintro e w2 ⟨p2x, c2x, rfl, hs2, hb2⟩
          exact ⟨_, rfl, _, rfl, hb2, ⟨_, _, rfl, hs2⟩⟩
      · clear hiq
        clear hk
        refine ⟨_, rfl, rfl, rfl, wp_value (v := .pointer (some ⟨w.heap.size, 1, none⟩)) (w' := W) ?_ ⟨_, rfl, Below.refl _ _, rfl⟩⟩
        go_simp
      · clear hiq
        have e8 : a.eval (.tmp 23) = .pointer (some ⟨w.heap.size, 1, none⟩) := hk 8 (mem_of (by kernel_rfl))
        have f8 := ev e8
        have hc : W.cell? ⟨w.heap.size, 1, none⟩ = some (.slice q ts.length d) := cell_of_row W _ 1 _ _ _ hx2
        clear hk
        refine ⟨_, rfl, rfl, rfl, wp_value (v := .slice q ts.length d) (w' := W) ?_ ⟨_, rfl, Below.refl _ _, rfl⟩⟩
        go_simp
      · clear hiq
        obtain ⟨p7, c7, e7, s7x⟩ := show SlV (i + 1 + (xs.length - (i + 1))) ((itC xs).take (i * 2) ++ itC [x] ++ (itC xs).drop ((i + 1) * 2)) (a.eval (.tmp 22)) W from hk 7 (mem_of (by kernel_rfl))
        have f7 := ev e7
        have e9 : a.eval (.tmp 24) = .slice q ts.length d := hk 9 (mem_of (by kernel_rfl))
        have f9 := ev e9
        clear hk
        refine ⟨_, rfl, rfl, rfl, wp_value (v := .agg #[.slice p7 (i + 1 + (xs.length - (i + 1))) c7, .slice q ts.length d]) (w' := W) ?_ ⟨_, rfl, Below.refl _ _, ⟨_, _, rfl, s7x⟩⟩⟩
        go_simp
    case post =>
      intro V W hbW hV
      obtain ⟨p', c', ev, hs1⟩ : NiV (i + 1 + (xs.length - (i + 1))) ((itC xs).take (i * 2) ++ itC [x] ++ (itC xs).drop ((i + 1) * 2)) q ts.length d (V 10) W := hV 10 (by omega)
      clear hV hr7
      simp only [putAll, Nat.reduceAdd]
      rw [ev]
      simp only [Act.put, List.setIfInBounds_toArray, List.set_cons_zero, List.set_cons_succ]
      have q2 := (hbW.block _ (lt_of_row t2)).trans t2
      have x0 := cell_of_row W _ 0 _ _ _ q2
      have x1 := cell_of_row W _ 1 _ _ _ q2
      have f0 := frozen_of_row W _ 0 _ _ q2
      have f1 := frozen_of_row W _ 1 _ _ q2
      have hBW : Below w.heap.size w W := hB4.trans (hbW.mono hB4.size)
      have HI : Hid (((itC xs).take (i * 2) ++ itC [x] ++ (itC xs).drop ((i + 1) * 2)) = itC (xs.take i ++ [x] ++ xs.drop (i + 1))) := by
        have h : ((itC xs).take (i * 2) ++ itC [x] ++ (itC xs).drop ((i + 1) * 2)) = itC (xs.take i ++ [x] ++ xs.drop (i + 1)) := by rw [itC_app, itC_app, itC_take, itC_drop]
        exact h
      obtain ⟨LI, hLI⟩ : ∃ LI, ((itC xs).take (i * 2) ++ itC [x] ++ (itC xs).drop ((i + 1) * 2)) = LI := ⟨_, rfl⟩
      rw [hLI] at hs1 HI
      obtain ⟨n1, hn1⟩ : ∃ n1, (i + 1 + (xs.length - (i + 1))) = n1 := ⟨_, rfl⟩
      rw [hn1] at hs1 ⊢
      clear hLI hn1 ev t0 t1 t2
      go_wp2
      refine bodyPost_ret (results_cell_row Try.results27 _ _ (w.heap.size + 1 + 1) 59 _ (0, 0) _ rfl (set2_row q2 _ _) Try.underlying59 rfl (by kernel_rfl)) rfl ⟨_, rfl, ?_, ?_⟩
      · rw [HI.out] at hs1
        rw [← HT.out, if_pos trivial]
        exact node_end q2 hs1 (hQ.later hBW) (hL.later hBW) HOK.out _ _
      · exact below_set2 hBW (by omega) _ _
  | false =>
    have a0 := cell_of_row w4 _ 0 _ _ _ t0
    have a1 := cell_of_row w4 _ 1 _ _ _ t0
    go_wp2_with fail
    refine (kl _).mono ?_
    rintro e w5 ⟨rfl, hb5⟩
    have s0 := (hb5.block _ (lt_of_row t0)).trans t0
    have s1 := (hb5.block _ (lt_of_row t1)).trans t1
    have s2 := (hb5.block _ (lt_of_row t2)).trans t2
    have hB5 : Below w.heap.size w w5 := hB4.trans (hb5.mono hB4.size)
    clear t0 t1 t2 a0 a1 hb5 hB4 kl hkl
    have t0 := s0
    have t1 := s1
    have t2 := s2
    clear s0 s1 s2
    have hkl0 := hL.2 i hkg
    have hQ5 := hQ.later hB5
    have hS5 := hS.later hB5
    have hL5 := hL.later hB5
    obtain ⟨qb, qo, rfl, qbl0, qcs⟩ := hQ5.lies (by omega)
    have hlen := hQ5.len
    obtain ⟨ka, hka⟩ : ∃ ka, L.getD (2 * i) undef = ka := ⟨_, rfl⟩
    obtain ⟨kb, hkb⟩ : ∃ kb, L.getD (2 * i + 1) undef = kb := ⟨_, rfl⟩
    have qc1 : w5.cell? ⟨qb, qo + i * 2, none⟩ = some ka := by
      rw [show qo + i * 2 = qo + 2 * i by omega]
      refine qcs (2 * i) ka ?_
      rw [← hka, List.getD_eq_getElem?_getD, List.getElem?_eq_getElem (by omega)]
      rfl
    have qc2 : w5.cell? ⟨qb, qo + i * 2 + 1, none⟩ = some kb := by
      rw [show qo + i * 2 + 1 = qo + (2 * i + 1) by omega]
      refine qcs (2 * i + 1) kb ?_
      rw [← hkb, List.getD_eq_getElem?_getD, List.getElem?_eq_getElem (by omega)]
      rfl
    rw [hka, hkb] at hkl0
    have hkl := hkl0.later hB5
    have qbl := qbl0
    have hcq := hQ5.cap
    have hrec := HHR trivial
    have hwk : ∀ W, Below w5.heap.size w5 W → ∀ kv, Lies W h kid2 kv → Calls Try.prog 36 #[.agg #[.slice p xs.length c, .slice (some ⟨qb, qo, none⟩) ts.length d], .int .i64 (i : Int), kv] W fun e w' => ∃ v, e = .returned v ∧ Lies w' (h + 1) r v ∧ Below W.heap.size W w' := fun W hb kv hk => HWK trivial W p c _ d L kv (hS5.later hb) (hQ5.later hb) (hL5.later hb) hk
    clear hka hkb hkl0 qcs HHR HWK
    go_wp2
    refine any_tail (by kernel_rfl) 10 (by exact Nat.le_of_ble_eq_true rfl) (fun i => i + 36) (mixR [(8, LV h kid2), (9, LV (h + 1) r)] [.agg #[.slice p xs.length c, .slice (some ⟨qb, qo, none⟩) ts.length d], .int .i64 (i : Int), .pointer (some ⟨w.heap.size, 1, none⟩), .slice (some ⟨qb, qo, none⟩) ts.length d, .int .i64 (i : Int), .pointer (some ⟨qb, qo + i * 2, none⟩), .agg #[ka, kb], .agg #[.string x.1, .string x.2], undef, undef]) (by kernel_rfl) (by kernel_rfl) (by kernel_rfl) (by kernel_rfl) (mixR_later _ _ (stab_cons LV.later (stab_cons LV.later stab_nil))) ?step ?post
    case step =>
      intro iq hiq a W hrest hb hk
      have hp2 : a.eval (.tmp 2) = .pointer (some ⟨w.heap.size, 0, none⟩) := (hrest 2 (by intro iq2 hiq2; (repeat' split) <;> omega)).trans rfl
      have fp2 := ev hp2
      have hx2 : W.heap[w.heap.size]? = some (.cells #[.slice p xs.length c, .slice (some ⟨qb, qo, none⟩) ts.length d] 59 (0, 0)) := (hb.block _ (lt_of_row t0)).trans t0
      have hp3 : a.eval (.tmp 3) = .pointer (some ⟨w.heap.size + 1, 0, none⟩) := (hrest 3 (by intro iq2 hiq2; (repeat' split) <;> omega)).trans rfl
      have fp3 := ev hp3
      have hx3 : W.heap[w.heap.size + 1]? = some (.cells #[.string x.1, .string x.2] 66 (0, 0)) := (hb.block _ (lt_of_row t1)).trans t1
      have hp5 : a.eval (.tmp 5) = .int .i64 (i : Int) := (hrest 5 (by intro iq2 hiq2; (repeat' split) <;> omega)).trans rfl
      have fp5 := ev hp5
      clear hrest
      obtain rfl | rfl | rfl | rfl | rfl | rfl | rfl | rfl | rfl | rfl : iq = 0 ∨ iq = 1 ∨ iq = 2 ∨ iq = 3 ∨ iq = 4 ∨ iq = 5 ∨ iq = 6 ∨ iq = 7 ∨ iq = 8 ∨ iq = 9 := by omega
      · clear hiq
        clear hk
        refine ⟨_, rfl, rfl, rfl, wp_load_row 59 (.tmp 2) rfl (w.heap.size) hp2 59 #[.slice p xs.length c, .slice (some ⟨qb, qo, none⟩) ts.length d] (0, 0) _ hx2 Try.underlying59 rfl (by kernel_rfl) ?_⟩
        exact ⟨_, rfl, Below.refl _ _, rfl⟩
      · clear hiq
        clear hk
        refine ⟨_, rfl, rfl, rfl, wp_value (v := .int .i64 (i : Int)) (w' := W) ?_ ⟨_, rfl, Below.refl _ _, rfl⟩⟩
        go_simp
      · clear hiq
        clear hk
        refine ⟨_, rfl, rfl, rfl, wp_value (v := .pointer (some ⟨w.heap.size, 1, none⟩)) (w' := W) ?_ ⟨_, rfl, Below.refl _ _, rfl⟩⟩
        go_simp
      · clear hiq
        have e2 : a.eval (.tmp 38) = .pointer (some ⟨w.heap.size, 1, none⟩) := hk 2 (mem_of (by kernel_rfl))
        have f2 := ev e2
        have hc : W.cell? ⟨w.heap.size, 1, none⟩ = some (.slice (some ⟨qb, qo, none⟩) ts.length d) := cell_of_row W _ 1 _ _ _ hx2
        clear hk
        refine ⟨_, rfl, rfl, rfl, wp_value (v := .slice (some ⟨qb, qo, none⟩) ts.length d) (w' := W) ?_ ⟨_, rfl, Below.refl _ _, rfl⟩⟩
        go_simp
      · clear hiq
        clear hk
        refine ⟨_, rfl, rfl, rfl, wp_value (v := .int .i64 (i : Int)) (w' := W) ?_ ⟨_, rfl, Below.refl _ _, rfl⟩⟩
        go_simp
      · clear hiq
        have e3 : a.eval (.tmp 39) = .slice (some ⟨qb, qo, none⟩) ts.length d := hk 3 (mem_of (by kernel_rfl))
        have f3 := ev e3
        have e4 : a.eval (.tmp 40) = .int .i64 (i : Int) := hk 4 (mem_of (by kernel_rfl))
        have f4 := ev e4
        clear hk
        refine ⟨_, rfl, rfl, rfl, wp_value (v := .pointer (some ⟨qb, qo + i * 2, none⟩)) (w' := W) ?_ ⟨_, rfl, Below.refl _ _, rfl⟩⟩
        go_simp
      · clear hiq
        have e5 : a.eval (.tmp 41) = .pointer (some ⟨qb, qo + i * 2, none⟩) := hk 5 (mem_of (by kernel_rfl))
        have f5 := ev e5
        have k1 := (cell_later hb qbl).trans qc1
        have k2 := (cell_later hb qbl).trans qc2
        clear hk
        refine ⟨_, rfl, rfl, rfl, wp_value (v := .agg #[ka, kb]) (w' := W) ?_ ⟨_, rfl, Below.refl _ _, rfl⟩⟩
        go_simp
      · clear hiq
        clear hk
        refine ⟨_, rfl, rfl, rfl, wp_load_row 66 (.tmp 3) rfl (w.heap.size + 1) hp3 66 #[.string x.1, .string x.2] (0, 0) _ hx3 Try.underlying66 rfl (by kernel_rfl) ?_⟩
        exact ⟨_, rfl, Below.refl _ _, rfl⟩
      · clear hiq
        have e6 : a.eval (.tmp 42) = .agg #[ka, kb] := hk 6 (mem_of (by kernel_rfl))
        have f6 := ev e6
        have e7 : a.eval (.tmp 43) = .agg #[.string x.1, .string x.2] := hk 7 (mem_of (by kernel_rfl))
        have f7 := ev e7
        clear hk
        refine ⟨_, rfl, rfl, rfl, wp_enter (f := 27) (args := #[.agg #[ka, kb], .agg #[.string x.1, .string x.2]]) ?_ ((hrec W _ (hkl.later hb)).mono ?_)⟩
        · go_simp
        · rintro e w2 ⟨v2, rfl, hv2, hb2⟩
          exact ⟨_, rfl, _, rfl, hb2, hv2⟩
      · clear hiq
        have e0 : a.eval (.tmp 36) = .agg #[.slice p xs.length c, .slice (some ⟨qb, qo, none⟩) ts.length d] := hk 0 (mem_of (by kernel_rfl))
        have f0 := ev e0
        have e1 : a.eval (.tmp 37) = .int .i64 (i : Int) := hk 1 (mem_of (by kernel_rfl))
        have f1 := ev e1
        have e8x : LV h kid2 (a.eval (.tmp 44)) W := hk 8 (mem_of (by kernel_rfl))
        clear hk
        refine ⟨_, rfl, rfl, rfl, wp_enter (f := 36) (args := #[.agg #[.slice p xs.length c, .slice (some ⟨qb, qo, none⟩) ts.length d], .int .i64 (i : Int), a.eval (.tmp 44)]) ?_ ((hwk W hb _ e8x).mono ?_)⟩
        · go_simp
        · rintro e w2 ⟨v2, rfl, hv2, hb2⟩
          exact ⟨_, rfl, _, rfl, hb2, hv2⟩
    case post =>
      intro V W hbW hV
      have e9 : Lies W (h + 1) r (V 9) := hV 9 (by omega)
      obtain ⟨p9, c9, q9, d9, L9, ev, -, -⟩ := e9.form
      clear hV hrec hwk
      simp only [putAll, Nat.reduceAdd]
      rw [ev]
      rw [ev] at e9
      simp only [Act.put, List.setIfInBounds_toArray, List.set_cons_zero, List.set_cons_succ]
      have q2 := (hbW.block _ (lt_of_row t2)).trans t2
      have x0 := cell_of_row W _ 0 _ _ _ q2
      have x1 := cell_of_row W _ 1 _ _ _ q2
      have f0 := frozen_of_row W _ 0 _ _ q2
      have f1 := frozen_of_row W _ 1 _ _ q2
      have hBW : Below w.heap.size w W := hB5.trans (hbW.mono hB5.size)
      obtain ⟨n9, hn9⟩ : ∃ n, (its (h + 1) r).length = n := ⟨_, rfl⟩
      obtain ⟨m9, hm9⟩ : ∃ n, kdn (h + 1) r = n := ⟨_, rfl⟩
      rw [hn9, hm9] at e9 ⊢
      clear hn9 hm9 ev t0 t1 t2 qc1 qc2
      go_wp2
      refine bodyPost_ret (results_cell_row Try.results27 _ _ (w.heap.size + 1 + 1) 59 _ (0, 0) _ rfl (set2_row q2 _ _) Try.underlying59 rfl (by kernel_rfl)) rfl ⟨_, rfl, ?_, ?_⟩
      · rw [← HT.out, if_neg (by simp)]
        exact e9.kept q2 (set2_size _ _ _ _) (set2_other _ _ _ _) HOR.out
      · exact below_set2 hBW (by omega) _ _
end Go.Proofs.Ytiplmlalhmldbaa
