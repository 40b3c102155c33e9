/- A node that has kids, without a key that is in it or below it (without). -/
import Derived.Test.YtiplmlalhmldbaaLst
import Derived.Test.YtiplmlalhmldbaaJoi
namespace Go.Proofs.Ytiplmlalhmldbaa
open Go.RowKit Go.Shelf
attribute [local go_sem] Oper.semAt_some
set_option maxRecDepth 100000 in
set_option maxHeartbeats 8000000 in
theorem without_inner {h : Nat} (xs : List Im) (ts : List (Nd h)) (key : ByteArray) (hr : Ris xs) (hn : xs.length ≤ 50) (hts : ts.length = xs.length + 1) (i : Nat) (hi : posK xs key = i) (kid : Nd h) (hkid : ts.getD i (dflt h) = kid) (low : Im) (hlow : lastT h kid = low) (hbk : Bal h kid) (hk0 : 0 < (its h kid).length) (hk50 : (its h kid).length ≤ 50)
    (kid2 : Nd h) (r : Nd (h + 1)) (okr : Ok (h + 1) r) (xs2 : List Im) (key2 : ByteArray) (hx2 : (if isK xs key = true then xs.take i ++ [low] ++ xs.drop (i + 1) else xs) = xs2) (hk2 : (if isK xs key = true then low.1 else key) = key2)
    (hrec : ∀ W kv, Lies W h kid kv → Calls Try.prog 24 #[kv, .string key2] W fun e w' => ∃ v, e = .returned v ∧ Lies w' h kid2 v ∧ Below W.heap.size W w')
    (hwk : ∀ W p n c q d L kv, Sl W p n c (itC xs2) → Sl W q ts.length d L → LiesL W h ts L → Lies W h kid2 kv → Calls Try.prog 36 #[.agg #[.slice p n c, .slice q ts.length d], .int .i64 (i : Int), kv] W fun e w' => ∃ v, e = .returned v ∧ Lies w' (h + 1) r v ∧ Below W.heap.size W w')
    (p : Option Addr) (c : Nat) (q : Option Addr) (d : Nat) (w : World) (hS : Sl w p xs.length c (itC xs)) (L : List Value) (hQ : Sl w q ts.length d L) (hL : LiesL w h ts L) :
    Calls Try.prog 24 #[.agg #[.slice p xs.length c, .slice q ts.length d], .string key] w fun e w' => ∃ v, e = .returned v ∧ Lies w' (h + 1) r v ∧ Below w.heap.size w w' := by
  have hpl := posK_le xs key
  have hkl := isK_lt (xs := xs) (key := key)
  obtain ⟨qb, qo, rfl, hqb, hqc⟩ := hQ.lies (by omega)
  obtain ⟨kp, kc, kq, kd, kx0, kx1, hkL0⟩ := kid_row (b := qb) (o := qo) hL hqc (i := i) (by omega)
  rw [hkid] at kx0 kx1 hkL0
  have hcap := hQ.cap
  have hcap2 := hS.cap
  have hmx : maxLen = 9223372036854775807 := rfl
  obtain ⟨w2, hw2⟩ : ∃ w2, (w.alloc (.cells #[.slice p xs.length c, .slice (some ⟨qb, qo, none⟩) ts.length d] 59)).alloc (.cells #[.slice none 0 0, .slice none 0 0] 59) = w2 := ⟨_, rfl⟩
  have hb2 : Below w.heap.size w w2 := by rw [← hw2]; exact ((Below.refl _ w).alloc (Nat.le_refl _) _).alloc (by simp) _
  have r0 : w2.heap[w.heap.size]? = some (.cells #[.slice p xs.length c, .slice (some ⟨qb, qo, none⟩) ts.length d] 59 (0, 0)) := by
    rw [← hw2, Below.heap_alloc _ _ _ (by simp)]; exact heap_alloc_new _ _
  have r1 : w2.heap[w.heap.size + 1]? = some (.cells #[.slice none 0 0, .slice none 0 0] 59 (0, 0)) := by
    rw [← hw2]
    have := heap_alloc_new (w.alloc (.cells #[.slice p xs.length c, .slice (some ⟨qb, qo, none⟩) ts.length d] 59)) (.cells #[.slice none 0 0, .slice none 0 0] 59)
    simpa using this
  have a0 := cell_of_row w2 _ 0 _ _ _ r0
  have a1 := cell_of_row w2 _ 1 _ _ _ r0
  have HTS : Hid (ts.length = xs.length + 1) := hts
  have kf := find_any xs hr (by omega) key p c (some ⟨qb, qo, none⟩) ts.length d w2 (hS.later hb2)
  have kl := fun W => leaf_any p xs.length c (some ⟨qb, qo, none⟩) ts.length d W
  have hm0 : ¬ ts.length = 0 := by omega
  rw [decide_eq_false hm0] at kl
  have HOR : Hid (Ok (h + 1) r) := okr
  obtain ⟨K, hK⟩ : ∃ K, isK xs key = K := ⟨_, rfl⟩
  rw [hi, hK] at kf
  rw [hi, hK] at hkl
  rw [hi] at hpl
  rw [hK] at hx2 hk2
  have hkg : (i : Int) < (ts.length : Int) := by omega
  have hwi : IntKind.i64.wrap ((i : Int) + 1) = (i : Int) + 1 := by rw [IntKind.wrap_i64]; omega
  obtain ⟨kn, hkn⟩ : ∃ n, (its h kid).length = n := ⟨_, rfl⟩
  obtain ⟨km, hkm⟩ : ∃ n, kdn h kid = n := ⟨_, rfl⟩
  rw [hkn] at kx0
  rw [hkm] at kx1
  rw [hkn, hkm] at hkL0
  have HL0 : Hid (Lies w h kid (.agg #[.slice kp kn kc, .slice kq km kd])) := hkL0
  have HLL : Hid (LiesL w h ts L) := hL
  have klast : ∀ W, Below w.heap.size w W → Calls Try.prog 35 #[.agg #[.slice kp kn kc, .slice kq km kd]] W fun e w' => e = .returned (.agg #[.string low.1, .string low.2]) ∧ Below W.heap.size W w' := fun W hb => by
    rw [← hlow]
    exact last_any h kid hbk hk0 hk50 _ W (hkL0.later hb)
  have HRC : Hid (∀ W kv, Lies W h kid kv → Calls Try.prog 24 #[kv, .string key2] W fun e w' => ∃ v, e = .returned v ∧ Lies w' h kid2 v ∧ Below W.heap.size W w') := hrec
  have HWK : Hid (∀ W p n c q d L kv, Sl W p n c (itC xs2) → Sl W q ts.length d L → LiesL W h ts L → Lies W h kid2 kv → Calls Try.prog 36 #[.agg #[.slice p n c, .slice q ts.length d], .int .i64 (i : Int), kv] W fun e w' => ∃ v, e = .returned v ∧ Lies w' (h + 1) r v ∧ Below W.heap.size W w') := hwk
  have HX2 : Hid ((if K = true then xs.take i ++ [low] ++ xs.drop (i + 1) else xs) = xs2 ∧ (if K = true then low.1 else key) = key2) := ⟨hx2, hk2⟩
  clear hrec hwk okr hts hm0 hi hK hkid hlow hbk hk0 hk50 hkn hkm hkL0 hL hx2 hk2 hqc
  go_enter Try.func24, Try.ntmps24
  go_wp2_with fail
  refine kf.mono ?_
  rintro e w4 ⟨rfl, hb4⟩
  clear hw2 a0 a1 kf
  have t0 := (hb4.block _ (lt_of_row r0)).trans r0
  have t2 := (hb4.block _ (lt_of_row r1)).trans r1
  have hB4 : Below w.heap.size w w4 := hb2.trans (hb4.mono hb2.size)
  have c0 := cell_of_row w4 _ 0 _ _ _ t0
  have c1 := cell_of_row w4 _ 1 _ _ _ t0
  clear r0 r1 hb2 hb4
  go_wp2_with fail
  refine (kl _).mono ?_
  rintro e w5 ⟨rfl, hb5⟩
  have hB5 : Below w.heap.size w w5 := hB4.trans (hb5.mono hB4.size)
  replace t0 := (hb5.block _ (lt_of_row t0)).trans t0
  replace t2 := (hb5.block _ (lt_of_row t2)).trans t2
  clear hb5 hB4 c0 c1 kl
  cases K with
  | false =>
    obtain ⟨hx2, hk2⟩ := HX2.out
    rw [if_neg Bool.false_ne_true] at hx2 hk2
    subst hx2 hk2
    have qbl : qb < w5.heap.size := Nat.lt_of_lt_of_le hqb hB5.size
    have qc1 := (cell_later hB5 hqb).trans kx0
    have qc2 := (cell_later hB5 hqb).trans kx1
    have hkL : Lies w5 h kid (.agg #[.slice kp kn kc, .slice kq km kd]) := HL0.out.later hB5
    have hrc := HRC.out
    have hwc : ∀ W, Below w5.heap.size w5 W → ∀ kv, Lies W h kid2 kv → Calls Try.prog 36 #[.agg #[.slice p xs.length c, .slice (some ⟨qb, qo, none⟩) ts.length d], .int .i64 (i : Int), kv] W fun e w' => ∃ v, e = .returned v ∧ Lies w' (h + 1) r v ∧ Below W.heap.size W w' := fun W hb kv hkv => by
      have hBB := hB5.trans (hb.mono hB5.size)
      exact HWK.out W p xs.length c _ d L kv (hS.later hBB) (hQ.later hBB) (HLL.out.later hBB) hkv
    have hBu := hB5
    clear HX2 kx0 kx1 klast HRC HWK HL0
    go_wp2
    refine any_tail (by kernel_rfl) 10 (by exact Nat.le_of_ble_eq_true rfl) (fun i => i + 41) (mixR [(8, LV h kid2), (9, LV (h + 1) r)] [.agg #[.slice p xs.length c, .slice (some ⟨qb, qo, none⟩) ts.length d], .int .i64 (i : Int), .pointer (some ⟨w.heap.size, 1, none⟩), .slice (some ⟨qb, qo, none⟩) ts.length d, .int .i64 (i : Int), .pointer (some ⟨qb, qo + i * 2, none⟩), .agg #[.slice kp kn kc, .slice kq km kd], .string key, undef, undef]) (by kernel_rfl) (by kernel_rfl) (by kernel_rfl) (by kernel_rfl) (mixR_later _ _ (stab_cons LV.later (stab_cons LV.later stab_nil))) ?step ?post
    case step =>
      intro iq hiq a W hrest hb hk
      have hp2 : a.eval (.tmp 2) = .pointer (some ⟨w.heap.size, 0, none⟩) := (hrest 2 (by intro iq2 hiq2; (repeat' split) <;> omega)).trans rfl
      have fp2 := ev hp2
      have hx2 : W.heap[w.heap.size]? = some (.cells #[.slice p xs.length c, .slice (some ⟨qb, qo, none⟩) ts.length d] 59 (0, 0)) := (hb.block _ (lt_of_row t0)).trans t0
      have hp5 : a.eval (.tmp 5) = .int .i64 (i : Int) := (hrest 5 (by intro iq2 hiq2; (repeat' split) <;> omega)).trans rfl
      have fp5 := ev hp5
      have hp1 : a.eval (.tmp 1) = .string key := (hrest 1 (by intro iq2 hiq2; (repeat' split) <;> omega)).trans rfl
      have fp1 := ev hp1
      clear hrest
      obtain rfl | rfl | rfl | rfl | rfl | rfl | rfl | rfl | rfl | rfl : iq = 0 ∨ iq = 1 ∨ iq = 2 ∨ iq = 3 ∨ iq = 4 ∨ iq = 5 ∨ iq = 6 ∨ iq = 7 ∨ iq = 8 ∨ iq = 9 := by omega
      · clear hiq
        clear hk
        refine ⟨_, rfl, rfl, rfl, wp_load_row 59 (.tmp 2) rfl (w.heap.size) hp2 59 #[.slice p xs.length c, .slice (some ⟨qb, qo, none⟩) ts.length d] (0, 0) _ hx2 Try.underlying59 rfl (by kernel_rfl) ?_⟩
        exact ⟨_, rfl, Below.refl _ _, rfl⟩
      · clear hiq
        clear hk
        refine ⟨_, rfl, rfl, rfl, wp_value (v := .int .i64 (i : Int)) (w' := W) ?_ ⟨_, rfl, Below.refl _ _, rfl⟩⟩
        go_simp
      · clear hiq
        clear hk
        refine ⟨_, rfl, rfl, rfl, wp_value (v := .pointer (some ⟨w.heap.size, 1, none⟩)) (w' := W) ?_ ⟨_, rfl, Below.refl _ _, rfl⟩⟩
        go_simp
      · clear hiq
        have e2 : a.eval (.tmp 43) = .pointer (some ⟨w.heap.size, 1, none⟩) := hk 2 (mem_of (by kernel_rfl))
        have f2 := ev e2
        have hc : W.cell? ⟨w.heap.size, 1, none⟩ = some (.slice (some ⟨qb, qo, none⟩) ts.length d) := cell_of_row W _ 1 _ _ _ hx2
        clear hk
        refine ⟨_, rfl, rfl, rfl, wp_value (v := .slice (some ⟨qb, qo, none⟩) ts.length d) (w' := W) ?_ ⟨_, rfl, Below.refl _ _, rfl⟩⟩
        go_simp
      · clear hiq
        clear hk
        refine ⟨_, rfl, rfl, rfl, wp_value (v := .int .i64 (i : Int)) (w' := W) ?_ ⟨_, rfl, Below.refl _ _, rfl⟩⟩
        go_simp
      · clear hiq
        have e3 : a.eval (.tmp 44) = .slice (some ⟨qb, qo, none⟩) ts.length d := hk 3 (mem_of (by kernel_rfl))
        have f3 := ev e3
        have e4 : a.eval (.tmp 45) = .int .i64 (i : Int) := hk 4 (mem_of (by kernel_rfl))
        have f4 := ev e4
        clear hk
        refine ⟨_, rfl, rfl, rfl, wp_value (v := .pointer (some ⟨qb, qo + i * 2, none⟩)) (w' := W) ?_ ⟨_, rfl, Below.refl _ _, rfl⟩⟩
        go_simp
      · clear hiq
        have e5 : a.eval (.tmp 46) = .pointer (some ⟨qb, qo + i * 2, none⟩) := hk 5 (mem_of (by kernel_rfl))
        have f5 := ev e5
        have k1 := (cell_later hb qbl).trans qc1
        have k2 := (cell_later hb qbl).trans qc2
        clear hk
        refine ⟨_, rfl, rfl, rfl, wp_value (v := .agg #[.slice kp kn kc, .slice kq km kd]) (w' := W) ?_ ⟨_, rfl, Below.refl _ _, rfl⟩⟩
        go_simp
      · clear hiq
        clear hk
        refine ⟨_, rfl, rfl, rfl, wp_value (v := .string key) (w' := W) ?_ ⟨_, rfl, Below.refl _ _, rfl⟩⟩
        go_simp
      · clear hiq
        have e6 : a.eval (.tmp 47) = .agg #[.slice kp kn kc, .slice kq km kd] := hk 6 (mem_of (by kernel_rfl))
        have f6 := ev e6
        have e7 : a.eval (.tmp 48) = .string key := hk 7 (mem_of (by kernel_rfl))
        have f7 := ev e7
        clear hk
        refine ⟨_, rfl, rfl, rfl, wp_enter (f := 24) (args := #[.agg #[.slice kp kn kc, .slice kq km kd], .string key]) ?_ ((hrc W _ (hkL.later hb)).mono ?_)⟩
        · go_simp
        · rintro e w2 ⟨v2, rfl, hv2, hb2⟩
          exact ⟨_, rfl, _, rfl, hb2, hv2⟩
      · clear hiq
        have e0 : a.eval (.tmp 41) = .agg #[.slice p xs.length c, .slice (some ⟨qb, qo, none⟩) ts.length d] := hk 0 (mem_of (by kernel_rfl))
        have f0 := ev e0
        have e1 : a.eval (.tmp 42) = .int .i64 (i : Int) := hk 1 (mem_of (by kernel_rfl))
        have f1 := ev e1
        have e8x : LV h kid2 (a.eval (.tmp 49)) W := hk 8 (mem_of (by kernel_rfl))
        clear hk
        refine ⟨_, rfl, rfl, rfl, wp_enter (f := 36) (args := #[.agg #[.slice p xs.length c, .slice (some ⟨qb, qo, none⟩) ts.length d], .int .i64 (i : Int), a.eval (.tmp 49)]) ?_ ((hwc W hb _ e8x).mono ?_)⟩
        · go_simp
        · rintro e w2 ⟨v2, rfl, hv2, hb2⟩
          exact ⟨_, rfl, _, rfl, hb2, hv2⟩
    case post =>
      intro V W hbW hV
      have hv : Lies W (h + 1) r (V 9) := hV 9 (by omega)
      obtain ⟨pz, cz, qz, dz, Lz, ez, -, -⟩ := hv.form
      clear hV hrc hwc
      rw [ez] at hv
      obtain ⟨rn, hrn⟩ : ∃ n, (its (h + 1) r).length = n := ⟨_, rfl⟩
      obtain ⟨rm, hrm⟩ : ∃ n, kdn (h + 1) r = n := ⟨_, rfl⟩
      rw [hrn, hrm] at hv ez
      clear hrn hrm
      simp only [putAll, Nat.reduceAdd]
      rw [ez]
      simp only [Act.put, List.setIfInBounds_toArray, List.set_cons_zero, List.set_cons_succ]
      have z2 := (hbW.block _ (lt_of_row t2)).trans t2
      have x0 := cell_of_row W _ 0 _ _ _ z2
      have x1 := cell_of_row W _ 1 _ _ _ z2
      have f0 := frozen_of_row W _ 0 _ _ z2
      have f1 := frozen_of_row W _ 1 _ _ z2
      have hBW : Below w.heap.size w W := hBu.trans (hbW.mono hBu.size)
      clear t0 t2 ez hbW qc1 qc2
      go_wp2
      refine bodyPost_ret (results_cell_row Try.results24 _ _ (w.heap.size + 1) 59 _ (0, 0) _ rfl (set2_row z2 _ _) Try.underlying59 rfl (by kernel_rfl)) rfl ⟨_, rfl, ?_, ?_⟩
      · exact hv.kept z2 (set2_size _ _ _ _) (set2_other _ _ _ _) HOR.out
      · exact below_set2 hBW (by omega) _ _
  | true =>
    have hix := hkl rfl
    obtain ⟨hx2, hk2⟩ := HX2.out
    rw [if_pos rfl] at hx2 hk2
    have d0 := cell_of_row w5 _ 0 _ _ _ t0
    have d1 := cell_of_row w5 _ 1 _ _ _ t0
    have qc1 := (cell_later hB5 hqb).trans kx0
    have qc2 := (cell_later hB5 hqb).trans kx1
    have HXX : Hid (xs.take i ++ [low] ++ xs.drop (i + 1) = xs2 ∧ low.1 = key2) := ⟨hx2, hk2⟩
    clear hx2 hk2 HX2
    go_wp2_with fail
    refine (klast _ hB5).mono ?_
    rintro e w6 ⟨rfl, hb6⟩
    have hB6 : Below w.heap.size w w6 := hB5.trans (hb6.mono hB5.size)
    replace t0 := (hb6.block _ (lt_of_row t0)).trans t0
    replace t2 := (hb6.block _ (lt_of_row t2)).trans t2
    clear d0 d1 hb6 hB5 qc1 qc2
    have lt6 : w.heap.size + 1 < w6.heap.size := lt_of_row t2
    obtain ⟨w7, hw7⟩ : ∃ w7, w6.alloc (.cells #[.string low.1, .string low.2] 66) = w7 := ⟨_, rfl⟩
    have hb7 : Below w6.heap.size w6 w7 := by rw [← hw7]; exact (Below.refl _ w6).alloc (Nat.le_refl _) _
    have rl : w7.heap[w6.heap.size]? = some (.cells #[.string low.1, .string low.2] 66 (0, 0)) := by rw [← hw7]; exact heap_alloc_new _ _
    have hB7 : Below w.heap.size w w7 := hB6.trans (hb7.mono hB6.size)
    replace t0 := (hb7.block _ (lt_of_row t0)).trans t0
    replace t2 := (hb7.block _ (lt_of_row t2)).trans t2
    have d0 := cell_of_row w7 _ 0 _ _ _ t0
    have l0 := cell_of_row w7 _ 0 _ _ _ rl
    have l1 := cell_of_row w7 _ 1 _ _ _ rl
    obtain ⟨w8, hw8⟩ : ∃ w8, w7.alloc (.cells #[.string low.1, .string low.2] 66) = w8 := ⟨_, rfl⟩
    have hb8 : Below w7.heap.size w7 w8 := by rw [← hw8]; exact (Below.refl _ w7).alloc (Nat.le_refl _) _
    have s8 : Sl w8 (some ⟨w7.heap.size, 0, none⟩) 1 1 (itC [low]) := by rw [← hw8]; exact Sl.one_item w7 low 66
    have hB8 : Below w.heap.size w w8 := hB7.trans (hb8.mono hB7.size)
    have hrp := repl66 (itC xs) p xs.length c (itC [low]) (some ⟨w7.heap.size, 0, none⟩) 1 1 i (i + 1) (by omega) (by omega) (by omega) (by omega) w8 (hS.later hB8) s8
    have ecast : ((i + 1 : Nat) : Int) = (i : Int) + 1 := by omega
    rw [ecast] at hrp
    obtain ⟨N9, hN9⟩ : ∃ N9, i + 1 + (xs.length - (i + 1)) = N9 := ⟨_, rfl⟩
    rw [hN9] at hrp
    have s7s : w7.heap.size = w6.heap.size + 1 := by rw [← hw7]; simp
    replace t0 := (hb8.block _ (lt_of_row t0)).trans t0
    replace t2 := (hb8.block _ (lt_of_row t2)).trans t2
    replace rl := (hb8.block _ (lt_of_row rl)).trans rl
    have hwi2 : wrap64 ((i : Int) + 1) = (i : Int) + 1 := by unfold wrap64; omega
    clear hB6 hb7 hB7 hb8 s8 ecast hN9 klast
    rw [s7s] at hrp
    go_wp2_with fail
    refine hrp.mono ?_
    rintro e w9 ⟨p9, c9, rfl, s9, hb9⟩
    have hB9 : Below w.heap.size w w9 := hB8.trans (hb9.mono hB8.size)
    replace t0 := (hb9.block _ (lt_of_row t0)).trans t0
    replace t2 := (hb9.block _ (lt_of_row t2)).trans t2
    replace rl := (hb9.block _ (lt_of_row rl)).trans rl
    have m0 := cell_of_row w9 _ 0 _ _ _ t0
    have fm0 := frozen_of_row w9 _ 0 _ _ t0
    obtain ⟨w10, hw10⟩ : ∃ w10, w9.setCell ⟨w.heap.size, 0, none⟩ (.slice p9 N9 c9) = w10 := ⟨_, rfl⟩
    have hBu : Below w.heap.size w w10 := by rw [← hw10]; exact hB9.setCell (p := ⟨w.heap.size, 0, none⟩) (Nat.le_refl _) _
    have o10 : ∀ k, k ≠ w.heap.size → w10.heap[k]? = w9.heap[k]? := fun k hk => by rw [← hw10]; exact heap_setCell_other _ _ _ _ hk
    have s10 : Sl w10 p9 N9 c9 (itC xs2) := by
      have e : (itC xs).take (i * 2) ++ itC [low] ++ (itC xs).drop ((i + 1) * 2) = itC xs2 := by rw [← HXX.out.1, itC_app, itC_app, itC_take, itC_drop]
      rw [e] at s9
      refine s9.kept t0 (by rw [← hw10]; simp [World.setCell]) o10 (fun u hu hm => ?_)
      obtain ⟨st, rfl⟩ := itC_head hu
      simp at hm
    have t0' : w10.heap[w.heap.size]? = some (.cells #[.slice p9 N9 c9, .slice (some ⟨qb, qo, none⟩) ts.length d] 59 (0, 0)) := by rw [← hw10]; exact heap_setCell_same _ _ 0 _ _ _ t0
    have t2' := (o10 _ (by omega)).trans t2
    have rl' := (o10 _ (by omega)).trans rl
    have n0 := cell_of_row w10 _ 0 _ _ _ rl'
    clear t0 t2 rl hB9 hb9 s9 hrp hB8 d0 l0 l1
    have t0 := t0'
    have t2 := t2'
    have qbl : qb < w10.heap.size := Nat.lt_of_lt_of_le hqb hBu.size
    have qc1 := (cell_later hBu hqb).trans kx0
    have qc2 := (cell_later hBu hqb).trans kx1
    have hkL : Lies w10 h kid (.agg #[.slice kp kn kc, .slice kq km kd]) := HL0.out.later hBu
    have hrc := HRC.out
    rw [← HXX.out.2] at hrc
    have hwc : ∀ W, Below w10.heap.size w10 W → ∀ kv, Lies W h kid2 kv → Calls Try.prog 36 #[.agg #[.slice p9 N9 c9, .slice (some ⟨qb, qo, none⟩) ts.length d], .int .i64 (i : Int), kv] W fun e w' => ∃ v, e = .returned v ∧ Lies w' (h + 1) r v ∧ Below W.heap.size W w' := fun W hb kv hkv => by
      have hBB := hBu.trans (hb.mono hBu.size)
      exact HWK.out W p9 N9 c9 _ d L kv (s10.later hb) (hQ.later hBB) (HLL.out.later hBB) hkv
    clear t0' t2' rl' kx0 kx1 HRC HWK HL0
    go_wp2
    clear hw7 hw8 hw10 m0 fm0 n0 o10
    refine any_tail (by kernel_rfl) 10 (by exact Nat.le_of_ble_eq_true rfl) (fun i => i + 41) (mixR [(8, LV h kid2), (9, LV (h + 1) r)] [.agg #[.slice p9 N9 c9, .slice (some ⟨qb, qo, none⟩) ts.length d], .int .i64 (i : Int), .pointer (some ⟨w.heap.size, 1, none⟩), .slice (some ⟨qb, qo, none⟩) ts.length d, .int .i64 (i : Int), .pointer (some ⟨qb, qo + i * 2, none⟩), .agg #[.slice kp kn kc, .slice kq km kd], .string low.1, undef, undef]) (by kernel_rfl) (by kernel_rfl) (by kernel_rfl) (by kernel_rfl) (mixR_later _ _ (stab_cons LV.later (stab_cons LV.later stab_nil))) ?step ?post
    case step =>
      intro iq hiq a W hrest hb hk
      have hp2 : a.eval (.tmp 2) = .pointer (some ⟨w.heap.size, 0, none⟩) := (hrest 2 (by intro iq2 hiq2; (repeat' split) <;> omega)).trans rfl
      have fp2 := ev hp2
      have hx2 : W.heap[w.heap.size]? = some (.cells #[.slice p9 N9 c9, .slice (some ⟨qb, qo, none⟩) ts.length d] 59 (0, 0)) := (hb.block _ (lt_of_row t0)).trans t0
      have hp5 : a.eval (.tmp 5) = .int .i64 (i : Int) := (hrest 5 (by intro iq2 hiq2; (repeat' split) <;> omega)).trans rfl
      have fp5 := ev hp5
      have hp1 : a.eval (.tmp 1) = .string low.1 := (hrest 1 (by intro iq2 hiq2; (repeat' split) <;> omega)).trans rfl
      have fp1 := ev hp1
      clear hrest
      obtain rfl | rfl | rfl | rfl | rfl | rfl | rfl | rfl | rfl | rfl : iq = 0 ∨ iq = 1 ∨ iq = 2 ∨ iq = 3 ∨ iq = 4 ∨ iq = 5 ∨ iq = 6 ∨ iq = 7 ∨ iq = 8 ∨ iq = 9 := by omega
      · clear hiq
        clear hk
        refine ⟨_, rfl, rfl, rfl, wp_load_row 59 (.tmp 2) rfl (w.heap.size) hp2 59 #[.slice p9 N9 c9, .slice (some ⟨qb, qo, none⟩) ts.length d] (0, 0) _ hx2 Try.underlying59 rfl (by kernel_rfl) ?_⟩
        exact ⟨_, rfl, Below.refl _ _, rfl⟩
      · clear hiq
        clear hk
        refine ⟨_, rfl, rfl, rfl, wp_value (v := .int .i64 (i : Int)) (w' := W) ?_ ⟨_, rfl, Below.refl _ _, rfl⟩⟩
        go_simp
      · clear hiq
        clear hk
        refine ⟨_, rfl, rfl, rfl, wp_value (v := .pointer (some ⟨w.heap.size, 1, none⟩)) (w' := W) ?_ ⟨_, rfl, Below.refl _ _, rfl⟩⟩
        go_simp
      · clear hiq
        have e2 : a.eval (.tmp 43) = .pointer (some ⟨w.heap.size, 1, none⟩) := hk 2 (mem_of (by kernel_rfl))
        have f2 := ev e2
        have hc : W.cell? ⟨w.heap.size, 1, none⟩ = some (.slice (some ⟨qb, qo, none⟩) ts.length d) := cell_of_row W _ 1 _ _ _ hx2
        clear hk
        refine ⟨_, rfl, rfl, rfl, wp_value (v := .slice (some ⟨qb, qo, none⟩) ts.length d) (w' := W) ?_ ⟨_, rfl, Below.refl _ _, rfl⟩⟩
        go_simp
      · clear hiq
        clear hk
        refine ⟨_, rfl, rfl, rfl, wp_value (v := .int .i64 (i : Int)) (w' := W) ?_ ⟨_, rfl, Below.refl _ _, rfl⟩⟩
        go_simp
      · clear hiq
        have e3 : a.eval (.tmp 44) = .slice (some ⟨qb, qo, none⟩) ts.length d := hk 3 (mem_of (by kernel_rfl))
        have f3 := ev e3
        have e4 : a.eval (.tmp 45) = .int .i64 (i : Int) := hk 4 (mem_of (by kernel_rfl))
        have f4 := ev e4
        clear hk
        refine ⟨_, rfl, rfl, rfl, wp_value (v := .pointer (some ⟨qb, qo + i * 2, none⟩)) (w' := W) ?_ ⟨_, rfl, Below.refl _ _, rfl⟩⟩
        go_simp
      · clear hiq
        have e5 : a.eval (.tmp 46) = .pointer (some ⟨qb, qo + i * 2, none⟩) := hk 5 (mem_of (by kernel_rfl))
        have f5 := ev e5
        have k1 := (cell_later hb qbl).trans qc1
        have k2 := (cell_later hb qbl).trans qc2
        clear hk
        refine ⟨_, rfl, rfl, rfl, wp_value (v := .agg #[.slice kp kn kc, .slice kq km kd]) (w' := W) ?_ ⟨_, rfl, Below.refl _ _, rfl⟩⟩
        go_simp
      · clear hiq
        clear hk
        refine ⟨_, rfl, rfl, rfl, wp_value (v := .string low.1) (w' := W) ?_ ⟨_, rfl, Below.refl _ _, rfl⟩⟩
        go_simp
      · clear hiq
        have e6 : a.eval (.tmp 47) = .agg #[.slice kp kn kc, .slice kq km kd] := hk 6 (mem_of (by kernel_rfl))
        have f6 := ev e6
        have e7 : a.eval (.tmp 48) = .string low.1 := hk 7 (mem_of (by kernel_rfl))
        have f7 := ev e7
        clear hk
        refine ⟨_, rfl, rfl, rfl, wp_enter (f := 24) (args := #[.agg #[.slice kp kn kc, .slice kq km kd], .string low.1]) ?_ ((hrc W _ (hkL.later hb)).mono ?_)⟩
        · go_simp
        · rintro e w2 ⟨v2, rfl, hv2, hb2⟩
          exact ⟨_, rfl, _, rfl, hb2, hv2⟩
      · clear hiq
        have e0 : a.eval (.tmp 41) = .agg #[.slice p9 N9 c9, .slice (some ⟨qb, qo, none⟩) ts.length d] := hk 0 (mem_of (by kernel_rfl))
        have f0 := ev e0
        have e1 : a.eval (.tmp 42) = .int .i64 (i : Int) := hk 1 (mem_of (by kernel_rfl))
        have f1 := ev e1
        have e8x : LV h kid2 (a.eval (.tmp 49)) W := hk 8 (mem_of (by kernel_rfl))
        clear hk
        refine ⟨_, rfl, rfl, rfl, wp_enter (f := 36) (args := #[.agg #[.slice p9 N9 c9, .slice (some ⟨qb, qo, none⟩) ts.length d], .int .i64 (i : Int), a.eval (.tmp 49)]) ?_ ((hwc W hb _ e8x).mono ?_)⟩
        · go_simp
        · rintro e w2 ⟨v2, rfl, hv2, hb2⟩
          exact ⟨_, rfl, _, rfl, hb2, hv2⟩
    case post =>
      intro V W hbW hV
      have hv : Lies W (h + 1) r (V 9) := hV 9 (by omega)
      obtain ⟨pz, cz, qz, dz, Lz, ez, -, -⟩ := hv.form
      clear hV hrc hwc
      rw [ez] at hv
      obtain ⟨rn, hrn⟩ : ∃ n, (its (h + 1) r).length = n := ⟨_, rfl⟩
      obtain ⟨rm, hrm⟩ : ∃ n, kdn (h + 1) r = n := ⟨_, rfl⟩
      rw [hrn, hrm] at hv ez
      clear hrn hrm
      simp only [putAll, Nat.reduceAdd]
      rw [ez]
      simp only [Act.put, List.setIfInBounds_toArray, List.set_cons_zero, List.set_cons_succ]
      have z2 := (hbW.block _ (lt_of_row t2)).trans t2
      have x0 := cell_of_row W _ 0 _ _ _ z2
      have x1 := cell_of_row W _ 1 _ _ _ z2
      have f0 := frozen_of_row W _ 0 _ _ z2
      have f1 := frozen_of_row W _ 1 _ _ z2
      have hBW : Below w.heap.size w W := hBu.trans (hbW.mono hBu.size)
      clear t0 t2 ez hbW qc1 qc2
      go_wp2
      refine bodyPost_ret (results_cell_row Try.results24 _ _ (w.heap.size + 1) 59 _ (0, 0) _ rfl (set2_row z2 _ _) Try.underlying59 rfl (by kernel_rfl)) rfl ⟨_, rfl, ?_, ?_⟩
      · exact hv.kept z2 (set2_size _ _ _ _) (set2_other _ _ _ _) HOR.out
      · exact below_set2 hBW (by omega) _ _
end Go.Proofs.Ytiplmlalhmldbaa
