/- The laws' find: where a key stands in a list of pairs. -/
import Derived.Test.YtiplmlalhmldbaaRng
namespace Go.Proofs.Ytiplmlalhmldbaa
open Go.RowKit Go.Shelf
attribute [local go_sem] Oper.semAt_some
set_option maxRecDepth 100000 in
set_option maxHeartbeats 4000000 in
theorem lfind_any (xs : List Im) (hr : Ris xs) (hn : xs.length ≤ 1000) (key : ByteArray) (p : Option Addr) (c : Nat) (w : World) (hS : Sl w p xs.length c (itC xs)) :
    Calls Try.prog 11 #[.slice p xs.length c, .string key] w fun e w' => e = .returned (.tuple #[.int .i64 (posK xs key : Nat), .bool (isK xs key)]) ∧ Below w.heap.size w w' := by
  obtain ⟨cnt, hcnt⟩ : ∃ k, posK xs key = k := ⟨_, rfl⟩
  obtain ⟨fin, hfin⟩ : ∃ k, isK xs key = k := ⟨_, rfl⟩
  rw [hcnt, hfin]
  have CN : Hid (posK xs key = cnt) := hcnt
  have FN : Hid (isK xs key = fin) := hfin
  have HR : Hid (Ris xs) := hr
  clear hcnt hfin hr
  have hcap := hS.cap
  have hmx : maxLen = 9223372036854775807 := rfl
  refine (callsIn_wide (n := 0)).1 ?_
  refine callsIn_of_wp Try.func11 rfl trivial ?_ rfl
  simp only [Try.ntmps11, List.size_toArray, List.length_cons, List.length_nil, Nat.reduceAdd, Nat.reduceSub, Array.replicate_succ, Array.replicate_zero, List.push_toArray, List.append_toArray, List.nil_append, List.cons_append]
  gi_wp2
  gi_loopw [6, 7] (fun s6 s7 wr => ∃ lo hi : Nat, s6 = .int .i64 (lo : Int) ∧ s7 = .int .i64 (hi : Int) ∧ lo ≤ hi ∧ hi ≤ xs.length ∧ Below w.heap.size w wr ∧
    Hid ((∀ t, t < lo → ltB (xs[t]!).1 key = true) ∧ (∀ t, hi ≤ t → t < xs.length → ltB (xs[t]!).1 key = false))) (fun s6 s7 _ => (intOf s7).toNat - (intOf s6).toNat)
  case atStart => exact ⟨0, xs.length, rfl, rfl, Nat.zero_le _, Nat.le_refl _, Below.refl _ _, (⟨fun t ht => absurd ht (Nat.not_lt_zero _), fun t h1 h2 => by omega⟩ : (∀ t, t < 0 → ltB (xs[t]!).1 key = true) ∧ (∀ t, xs.length ≤ t → t < xs.length → ltB (xs[t]!).1 key = false))⟩
  case round =>
    obtain ⟨lo, hi, rfl, rfl, hlh, hin, hB, I⟩ := hrel
    by_cases hlt : lo < hi
    · obtain ⟨b, o, rfl, hb, hc⟩ := hS.lies (by omega)
      obtain ⟨md, hmd⟩ : ∃ md, (lo + hi) / 2 = md := ⟨_, rfl⟩
      have hmi : ((lo : Int) + (hi : Int)).tdiv 2 = (md : Int) := by rw [Int.tdiv_eq_ediv_of_nonneg (by omega)]; omega
      have hmw : IntKind.i64.wrap (md : Int) = (md : Int) := by rw [IntKind.wrap_i64]; omega
      have hml : md < hi := by omega
      have hmg : lo ≤ md := by omega
      obtain ⟨c1, c2⟩ := itC_at xs md (by omega)
      have z1 := (cell_later hB hb).trans (hc _ _ c1)
      obtain ⟨y, hy⟩ : ∃ y, xs[md]! = y := ⟨_, rfl⟩
      rw [hy] at z1
      have HY : Hid (xs[md]! = y) := hy
      have HMD : Hid ((lo + hi) / 2 = md) := hmd
      clear hy c1 c2 hmd
      rw [show o + 2 * md = o + md * 2 by omega] at z1
      obtain ⟨lt, hlt2⟩ : ∃ lt, Op.bytesLess y.1.toList key.toList = lt := ⟨_, rfl⟩
      have HLT : Hid (ltB y.1 key = lt) := hlt2
      cases lt with
      | true =>
        gi_wp2
        go_roundw
        case rel =>
          refine ⟨md + 1, hi, by rw [Int.natCast_succ], rfl, hml, hin, hB, ⟨fun t ht => ?_, I.out.2⟩⟩
          have hy2 : ltB (xs[md]!).1 key = true := by rw [HY.out]; exact HLT.out
          by_cases e : t = md
          · rw [e]; exact hy2
          · exact lt8_trans (HR.out t md (by omega) (by omega)) hy2
        case measure => simp [intOf]; omega
      | false =>
        gi_wp2
        go_roundw
        case rel =>
          refine ⟨lo, md, rfl, rfl, hmg, by omega, hB, ⟨I.out.1, fun t h1 h2 => ?_⟩⟩
          have hy2 : ltB (xs[md]!).1 key = false := by rw [HY.out]; exact HLT.out
          by_cases e : t = md
          · rw [e]; exact hy2
          · cases h : ltB (xs[t]!).1 key
            · rfl
            · have := lt8_trans (HR.out md t (by omega) h2) h
              exact absurd this (by unfold lt8; unfold ltB at hy2; rw [hy2]; simp)
        case measure => simp [intOf]; omega
    · obtain rfl : lo = hi := by omega
      have hlo : posK xs key = lo := count_at _ xs lo hin I.out.1 I.out.2
      obtain rfl : lo = cnt := hlo.symm.trans CN.out
      by_cases hlt2 : lo < xs.length
      · obtain ⟨b, o, rfl, hb, hc⟩ := hS.lies (by omega)
        obtain ⟨c1, c2⟩ := itC_at xs lo hlt2
        have z1 := (cell_later hB hb).trans (hc _ _ c1)
        have hf : isK xs key = decide (cmpK (xs[lo]!).1 key = 0) := by unfold isK; rw [hlo, decide_eq_true hlt2, Bool.true_and]
        obtain ⟨⟨y1, y2⟩, hy⟩ : ∃ y, xs[lo]! = y := ⟨_, rfl⟩
        rw [hy] at z1 hf
        have hE : (y1.toList == key.toList) = fin := by
          rw [← FN.out, hf]
          cases e : (y1.toList == key.toList) with
          | true => exact (decide_eq_true (cmpK_zero.2 (toList_inj (beq_iff_eq.1 e)))).symm
          | false => exact (decide_eq_false (fun h => by have := cmpK_zero.1 h; simp at this; rw [this] at e; simp at e)).symm
        rw [show o + 2 * lo = o + lo * 2 by omega] at z1
        have zk : ∀ V, Below wr.heap.size wr V → V.cell? ⟨b, o + lo * 2, none⟩ = some (.string y1) := fun V h => (cell_later h (Nat.lt_of_lt_of_le hb hB.size)).trans z1
        have hl3 : (lo : Int) < (xs.length : Int) := by omega
        clear hy hf c1 c2 hc z1 hlo I
        gi_wp2
        refine any_tailIn (by kernel_rfl) 16 (by exact Nat.le_of_ble_eq_true rfl) (fun i => if i < 14 then i + 28 else i - 10) (mixR [] [.int .i64 (lo : Int), .int .i64 (lo : Int), .slice (some ⟨b, o, none⟩) xs.length c, .int .i64 (xs.length : Int), .bool true, .bool true, .slice (some ⟨b, o, none⟩) xs.length c, .int .i64 (lo : Int), .pointer (some ⟨b, o + lo * 2, none⟩), .pointer (some ⟨b, o + lo * 2, none⟩), .string y1, .string key, .bool fin, .bool fin, .int .i64 (lo : Int), .bool fin]) (by kernel_rfl) (by kernel_rfl) (by kernel_rfl) (by kernel_rfl) (mixR_later _ _ (stab_nil)) ?step ?post
        case step =>
          intro iq hiq a W hrest hb hk
          have hp0 : a.eval (.tmp 0) = .slice (some ⟨b, o, none⟩) xs.length c := (hrest 0 (by intro iq2 hiq2; (repeat' split) <;> omega)).trans rfl
          have fp0 := ev hp0
          have hp1 : a.eval (.tmp 1) = .string key := (hrest 1 (by intro iq2 hiq2; (repeat' split) <;> omega)).trans rfl
          have fp1 := ev hp1
          have hp6 : a.eval (.tmp 6) = .int .i64 (lo : Int) := (hrest 6 (by intro iq2 hiq2; (repeat' split) <;> omega)).trans rfl
          have fp6 := ev hp6
          clear hrest
          obtain rfl | rfl | rfl | rfl | rfl | rfl | rfl | rfl | rfl | rfl | rfl | rfl | rfl | rfl | rfl | rfl : iq = 0 ∨ iq = 1 ∨ iq = 2 ∨ iq = 3 ∨ iq = 4 ∨ iq = 5 ∨ iq = 6 ∨ iq = 7 ∨ iq = 8 ∨ iq = 9 ∨ iq = 10 ∨ iq = 11 ∨ iq = 12 ∨ iq = 13 ∨ iq = 14 ∨ iq = 15 := by omega
          · clear hiq
            clear hk
            refine ⟨_, rfl, rfl, Or.inl ⟨wanted_none rfl, wpIn_value (v := .int .i64 (lo : Int)) (w' := W) ?_ ⟨_, rfl, Below.refl _ _, rfl⟩⟩⟩
            go_simp
          · clear hiq
            clear hk
            refine ⟨_, rfl, rfl, Or.inl ⟨wanted_none rfl, wpIn_value (v := .int .i64 (lo : Int)) (w' := W) ?_ ⟨_, rfl, Below.refl _ _, rfl⟩⟩⟩
            go_simp
          · clear hiq
            clear hk
            refine ⟨_, rfl, rfl, Or.inl ⟨wanted_none rfl, wpIn_value (v := .slice (some ⟨b, o, none⟩) xs.length c) (w' := W) ?_ ⟨_, rfl, Below.refl _ _, rfl⟩⟩⟩
            go_simp
          · clear hiq
            have e2 : a.eval (.tmp 30) = .slice (some ⟨b, o, none⟩) xs.length c := hk 2 (mem_of (by kernel_rfl))
            have f2 := ev e2
            clear hk
            refine ⟨_, rfl, rfl, Or.inl ⟨wanted_none rfl, wpIn_value (v := .int .i64 (xs.length : Int)) (w' := W) ?_ ⟨_, rfl, Below.refl _ _, rfl⟩⟩⟩
            go_simp
          · clear hiq
            have e1 : a.eval (.tmp 29) = .int .i64 (lo : Int) := hk 1 (mem_of (by kernel_rfl))
            have f1 := ev e1
            have e3 : a.eval (.tmp 31) = .int .i64 (xs.length : Int) := hk 3 (mem_of (by kernel_rfl))
            have f3 := ev e3
            clear hk
            refine ⟨_, rfl, rfl, Or.inl ⟨wanted_none rfl, wpIn_value (v := .bool true) (w' := W) ?_ ⟨_, rfl, Below.refl _ _, rfl⟩⟩⟩
            go_simp
          · clear hiq
            have e4 : a.eval (.tmp 32) = .bool true := hk 4 (mem_of (by kernel_rfl))
            have f4 := ev e4
            clear hk
            refine ⟨_, rfl, rfl, Or.inl ⟨wanted_none rfl, wpIn_value (v := .bool true) (w' := W) ?_ ⟨_, rfl, Below.refl _ _, rfl⟩⟩⟩
            go_simp
          · clear hiq
            have e5 : a.eval (.tmp 33) = .bool true := hk 5 (mem_of (by kernel_rfl))
            have f5 := ev e5
            clear hk
            refine ⟨_, rfl, rfl, Or.inl ⟨wanted_of (k := 5) (b := true) rfl rfl e5, wpIn_value (v := .slice (some ⟨b, o, none⟩) xs.length c) (w' := W) ?_ ⟨_, rfl, Below.refl _ _, rfl⟩⟩⟩
            go_simp
          · clear hiq
            have e5 : a.eval (.tmp 33) = .bool true := hk 5 (mem_of (by kernel_rfl))
            have f5 := ev e5
            clear hk
            refine ⟨_, rfl, rfl, Or.inl ⟨wanted_of (k := 5) (b := true) rfl rfl e5, wpIn_value (v := .int .i64 (lo : Int)) (w' := W) ?_ ⟨_, rfl, Below.refl _ _, rfl⟩⟩⟩
            go_simp
          · clear hiq
            have e5 : a.eval (.tmp 33) = .bool true := hk 5 (mem_of (by kernel_rfl))
            have f5 := ev e5
            have e6 : a.eval (.tmp 34) = .slice (some ⟨b, o, none⟩) xs.length c := hk 6 (mem_of (by kernel_rfl))
            have f6 := ev e6
            have e7 : a.eval (.tmp 35) = .int .i64 (lo : Int) := hk 7 (mem_of (by kernel_rfl))
            have f7 := ev e7
            clear hk
            refine ⟨_, rfl, rfl, Or.inl ⟨wanted_of (k := 5) (b := true) rfl rfl e5, wpIn_value (v := .pointer (some ⟨b, o + lo * 2, none⟩)) (w' := W) ?_ ⟨_, rfl, Below.refl _ _, rfl⟩⟩⟩
            go_simp
          · clear hiq
            have e5 : a.eval (.tmp 33) = .bool true := hk 5 (mem_of (by kernel_rfl))
            have f5 := ev e5
            have e8 : a.eval (.tmp 36) = .pointer (some ⟨b, o + lo * 2, none⟩) := hk 8 (mem_of (by kernel_rfl))
            have f8 := ev e8
            clear hk
            refine ⟨_, rfl, rfl, Or.inl ⟨wanted_of (k := 5) (b := true) rfl rfl e5, wpIn_value (v := .pointer (some ⟨b, o + lo * 2, none⟩)) (w' := W) ?_ ⟨_, rfl, Below.refl _ _, rfl⟩⟩⟩
            go_simp
          · clear hiq
            have e5 : a.eval (.tmp 33) = .bool true := hk 5 (mem_of (by kernel_rfl))
            have f5 := ev e5
            have e9 : a.eval (.tmp 37) = .pointer (some ⟨b, o + lo * 2, none⟩) := hk 9 (mem_of (by kernel_rfl))
            have f9 := ev e9
            have hc := zk W hb
            clear hk
            refine ⟨_, rfl, rfl, Or.inl ⟨wanted_of (k := 5) (b := true) rfl rfl e5, wpIn_value (v := .string y1) (w' := W) ?_ ⟨_, rfl, Below.refl _ _, rfl⟩⟩⟩
            go_simp
          · clear hiq
            have e5 : a.eval (.tmp 33) = .bool true := hk 5 (mem_of (by kernel_rfl))
            have f5 := ev e5
            clear hk
            refine ⟨_, rfl, rfl, Or.inl ⟨wanted_of (k := 5) (b := true) rfl rfl e5, wpIn_value (v := .string key) (w' := W) ?_ ⟨_, rfl, Below.refl _ _, rfl⟩⟩⟩
            go_simp
          · clear hiq
            have e5 : a.eval (.tmp 33) = .bool true := hk 5 (mem_of (by kernel_rfl))
            have f5 := ev e5
            have e10 : a.eval (.tmp 38) = .string y1 := hk 10 (mem_of (by kernel_rfl))
            have f10 := ev e10
            have e11 : a.eval (.tmp 39) = .string key := hk 11 (mem_of (by kernel_rfl))
            have f11 := ev e11
            clear hk
            refine ⟨_, rfl, rfl, Or.inl ⟨wanted_of (k := 5) (b := true) rfl rfl e5, wpIn_value (v := .bool fin) (w' := W) ?_ ⟨_, rfl, Below.refl _ _, rfl⟩⟩⟩
            go_simp
          · clear hiq
            have e5 : a.eval (.tmp 33) = .bool true := hk 5 (mem_of (by kernel_rfl))
            have f5 := ev e5
            have e12 : a.eval (.tmp 40) = .bool fin := hk 12 (mem_of (by kernel_rfl))
            have f12 := ev e12
            clear hk
            refine ⟨_, rfl, rfl, Or.inl ⟨wanted_none rfl, wpIn_value (v := .bool fin) (w' := W) ?_ ⟨_, rfl, Below.refl _ _, rfl⟩⟩⟩
            go_simp
          · clear hiq
            have e0 : a.eval (.tmp 28) = .int .i64 (lo : Int) := hk 0 (mem_of (by kernel_rfl))
            have f0 := ev e0
            clear hk
            refine ⟨_, rfl, rfl, Or.inl ⟨wanted_none rfl, wpIn_value (v := .int .i64 (lo : Int)) (w' := W) ?_ ⟨_, rfl, Below.refl _ _, rfl⟩⟩⟩
            go_simp
          · clear hiq
            have e13 : a.eval (.tmp 41) = .bool fin := hk 13 (mem_of (by kernel_rfl))
            have f13 := ev e13
            clear hk
            refine ⟨_, rfl, rfl, Or.inl ⟨wanted_none rfl, wpIn_value (v := .bool fin) (w' := W) ?_ ⟨_, rfl, Below.refl _ _, rfl⟩⟩⟩
            go_simp
        case post =>
          intro V W hb hV
          have v0 : V 14 = .int .i64 (lo : Int) := hV 14 (by omega)
          have v13 : V 15 = .bool fin := hV 15 (by omega)
          clear hV
          simp only [putAll, Nat.reduceAdd, Nat.reduceSub, Nat.reduceLT, if_true, if_false]
          simp only [Act.put, List.setIfInBounds_toArray, List.set_cons_zero, List.set_cons_succ]
          rw [v0, v13]
          change wpListIn _ _ _ _ _ [] _ _
          gi_wp2
          refine bodyPost_ret (results_tmp2 rfl _ _ _) rfl ⟨rfl, hB.trans (hb.mono hB.size)⟩
      · have hl3 : ¬ (lo : Int) < (xs.length : Int) := by omega
        have hE : fin = false := by rw [← FN.out]; unfold isK; rw [hlo, decide_eq_false hlt2, Bool.false_and]
        subst hE
        clear hlo I
        gi_wp2
        refine any_tailIn (by kernel_rfl) 16 (by exact Nat.le_of_ble_eq_true rfl) (fun i => if i < 14 then i + 28 else i - 10) (mixR [] [.int .i64 (lo : Int), .int .i64 (lo : Int), .slice p xs.length c, .int .i64 (xs.length : Int), .bool false, .bool false, undef, undef, undef, undef, undef, undef, undef, .bool false, .int .i64 (lo : Int), .bool false]) (by kernel_rfl) (by kernel_rfl) (by kernel_rfl) (by kernel_rfl) (mixR_later _ _ (stab_nil)) ?step ?post
        case step =>
          intro iq hiq a W hrest hb hk
          have hp0 : a.eval (.tmp 0) = .slice p xs.length c := (hrest 0 (by intro iq2 hiq2; (repeat' split) <;> omega)).trans rfl
          have fp0 := ev hp0
          have hp1 : a.eval (.tmp 1) = .string key := (hrest 1 (by intro iq2 hiq2; (repeat' split) <;> omega)).trans rfl
          have fp1 := ev hp1
          have hp6 : a.eval (.tmp 6) = .int .i64 (lo : Int) := (hrest 6 (by intro iq2 hiq2; (repeat' split) <;> omega)).trans rfl
          have fp6 := ev hp6
          clear hrest
          obtain rfl | rfl | rfl | rfl | rfl | rfl | rfl | rfl | rfl | rfl | rfl | rfl | rfl | rfl | rfl | rfl : iq = 0 ∨ iq = 1 ∨ iq = 2 ∨ iq = 3 ∨ iq = 4 ∨ iq = 5 ∨ iq = 6 ∨ iq = 7 ∨ iq = 8 ∨ iq = 9 ∨ iq = 10 ∨ iq = 11 ∨ iq = 12 ∨ iq = 13 ∨ iq = 14 ∨ iq = 15 := by omega
          · clear hiq
            clear hk
            refine ⟨_, rfl, rfl, Or.inl ⟨wanted_none rfl, wpIn_value (v := .int .i64 (lo : Int)) (w' := W) ?_ ⟨_, rfl, Below.refl _ _, rfl⟩⟩⟩
            go_simp
          · clear hiq
            clear hk
            refine ⟨_, rfl, rfl, Or.inl ⟨wanted_none rfl, wpIn_value (v := .int .i64 (lo : Int)) (w' := W) ?_ ⟨_, rfl, Below.refl _ _, rfl⟩⟩⟩
            go_simp
          · clear hiq
            clear hk
            refine ⟨_, rfl, rfl, Or.inl ⟨wanted_none rfl, wpIn_value (v := .slice p xs.length c) (w' := W) ?_ ⟨_, rfl, Below.refl _ _, rfl⟩⟩⟩
            go_simp
          · clear hiq
            have e2 : a.eval (.tmp 30) = .slice p xs.length c := hk 2 (mem_of (by kernel_rfl))
            have f2 := ev e2
            clear hk
            refine ⟨_, rfl, rfl, Or.inl ⟨wanted_none rfl, wpIn_value (v := .int .i64 (xs.length : Int)) (w' := W) ?_ ⟨_, rfl, Below.refl _ _, rfl⟩⟩⟩
            go_simp
          · clear hiq
            have e1 : a.eval (.tmp 29) = .int .i64 (lo : Int) := hk 1 (mem_of (by kernel_rfl))
            have f1 := ev e1
            have e3 : a.eval (.tmp 31) = .int .i64 (xs.length : Int) := hk 3 (mem_of (by kernel_rfl))
            have f3 := ev e3
            clear hk
            refine ⟨_, rfl, rfl, Or.inl ⟨wanted_none rfl, wpIn_value (v := .bool false) (w' := W) ?_ ⟨_, rfl, Below.refl _ _, rfl⟩⟩⟩
            go_simp
          · clear hiq
            have e4 : a.eval (.tmp 32) = .bool false := hk 4 (mem_of (by kernel_rfl))
            have f4 := ev e4
            clear hk
            refine ⟨_, rfl, rfl, Or.inl ⟨wanted_none rfl, wpIn_value (v := .bool false) (w' := W) ?_ ⟨_, rfl, Below.refl _ _, rfl⟩⟩⟩
            go_simp
          · clear hiq
            have e5 : a.eval (.tmp 33) = .bool false := hk 5 (mem_of (by kernel_rfl))
            have f5 := ev e5
            exact ⟨_, rfl, rfl, Or.inr ⟨unwanted_of (k := 5) (b := true) (c := false) rfl rfl e5 rfl, rfl⟩⟩
          · clear hiq
            have e5 : a.eval (.tmp 33) = .bool false := hk 5 (mem_of (by kernel_rfl))
            have f5 := ev e5
            exact ⟨_, rfl, rfl, Or.inr ⟨unwanted_of (k := 5) (b := true) (c := false) rfl rfl e5 rfl, rfl⟩⟩
          · clear hiq
            have e5 : a.eval (.tmp 33) = .bool false := hk 5 (mem_of (by kernel_rfl))
            have f5 := ev e5
            exact ⟨_, rfl, rfl, Or.inr ⟨unwanted_of (k := 5) (b := true) (c := false) rfl rfl e5 rfl, rfl⟩⟩
          · clear hiq
            have e5 : a.eval (.tmp 33) = .bool false := hk 5 (mem_of (by kernel_rfl))
            have f5 := ev e5
            exact ⟨_, rfl, rfl, Or.inr ⟨unwanted_of (k := 5) (b := true) (c := false) rfl rfl e5 rfl, rfl⟩⟩
          · clear hiq
            have e5 : a.eval (.tmp 33) = .bool false := hk 5 (mem_of (by kernel_rfl))
            have f5 := ev e5
            exact ⟨_, rfl, rfl, Or.inr ⟨unwanted_of (k := 5) (b := true) (c := false) rfl rfl e5 rfl, rfl⟩⟩
          · clear hiq
            have e5 : a.eval (.tmp 33) = .bool false := hk 5 (mem_of (by kernel_rfl))
            have f5 := ev e5
            exact ⟨_, rfl, rfl, Or.inr ⟨unwanted_of (k := 5) (b := true) (c := false) rfl rfl e5 rfl, rfl⟩⟩
          · clear hiq
            have e5 : a.eval (.tmp 33) = .bool false := hk 5 (mem_of (by kernel_rfl))
            have f5 := ev e5
            exact ⟨_, rfl, rfl, Or.inr ⟨unwanted_of (k := 5) (b := true) (c := false) rfl rfl e5 rfl, rfl⟩⟩
          · clear hiq
            have e5 : a.eval (.tmp 33) = .bool false := hk 5 (mem_of (by kernel_rfl))
            have f5 := ev e5
            have e12 : a.eval (.tmp 40) = undef := hk 12 (mem_of (by kernel_rfl))
            have f12 := ev e12
            clear hk
            refine ⟨_, rfl, rfl, Or.inl ⟨wanted_none rfl, wpIn_value (v := .bool false) (w' := W) ?_ ⟨_, rfl, Below.refl _ _, rfl⟩⟩⟩
            go_simp
          · clear hiq
            have e0 : a.eval (.tmp 28) = .int .i64 (lo : Int) := hk 0 (mem_of (by kernel_rfl))
            have f0 := ev e0
            clear hk
            refine ⟨_, rfl, rfl, Or.inl ⟨wanted_none rfl, wpIn_value (v := .int .i64 (lo : Int)) (w' := W) ?_ ⟨_, rfl, Below.refl _ _, rfl⟩⟩⟩
            go_simp
          · clear hiq
            have e13 : a.eval (.tmp 41) = .bool false := hk 13 (mem_of (by kernel_rfl))
            have f13 := ev e13
            clear hk
            refine ⟨_, rfl, rfl, Or.inl ⟨wanted_none rfl, wpIn_value (v := .bool false) (w' := W) ?_ ⟨_, rfl, Below.refl _ _, rfl⟩⟩⟩
            go_simp
        case post =>
          intro V W hb hV
          have v0 : V 14 = .int .i64 (lo : Int) := hV 14 (by omega)
          have v13 : V 15 = .bool false := hV 15 (by omega)
          clear hV
          simp only [putAll, Nat.reduceAdd, Nat.reduceSub, Nat.reduceLT, if_true, if_false]
          simp only [Act.put, List.setIfInBounds_toArray, List.set_cons_zero, List.set_cons_succ]
          rw [v0, v13]
          change wpListIn _ _ _ _ _ [] _ _
          gi_wp2
          refine bodyPost_ret (results_tmp2 rfl _ _ _) rfl ⟨rfl, hB.trans (hb.mono hB.size)⟩
end Go.Proofs.Ytiplmlalhmldbaa
