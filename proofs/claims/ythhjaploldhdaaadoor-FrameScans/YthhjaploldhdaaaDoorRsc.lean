/- All frames of a text, as the document has them (its Scan): of any text of at most 1048576 bytes; nothing that was there has changed. -/
import Derived.Test.YthhjaploldhdaaaDoorTrn
import Derived.Deep.RegionLaw
import Derived.Deep.AppendLies
import Derived.BigGuardPart
import Derived.Lib.SlicesS
namespace Go.Proofs.YthhjaploldhdaaaDoor
open Go Go.RowKit Go.Lib
theorem info44 : (Tryd.prog.info? 44).map (fun i => (i.zero, i.size, i.bytes)) = some (some (.agg #[.int .i64 0, .string ⟨#[]⟩, .bool false]), 3, 32) := by kernel_rfl
theorem rnum_sub (s : ByteArray) (a : Nat) (h : a + 4 ≤ s.size) (w : World) :
    Calls Tryd.prog 20 #[.string (s.extract a (a + 4))] w fun e w' => e = .returned (.int .i64 (longF s.data.toList a : Nat)) ∧ ∃ n, w' = w.drewN n := by
  unfold longF
  rw [← ext_list]
  exact rnum_any _ (by simp; omega) w
theorem rcheck_sub (s : ByteArray) (a b : Nat) (hs : s.size ≤ 1048576) (w : World) :
    Calls Tryd.prog 10 #[.string (s.extract a b)] w fun e w' => e = .returned (.int .u32 (n32 (checkB (sub s.data.toList a b)))) ∧ w' = w := by
  rw [← ext_list]
  exact rcheck_any _ (by simp; omega) w
theorem str_eq_iff (c : BitVec 32) (s : ByteArray) (a b : Nat) (h1 : b ≤ s.size) (h2 : b = a + 4) : ((⟨(four c).toArray⟩ : ByteArray) = s.extract a b) ↔ c.toNat = numL (sub s.data.toList a b) := by
  have hl : (sub s.data.toList a b).length = 4 := by rw [sub_len _ _ _ (by rw [slen]; exact h1)]; omega
  rw [← four_eq_iff _ _ hl, ← ext_list]
  constructor
  · intro e; rw [← e]
  · intro e
    rw [e]
theorem q_pure {P : Program} {o : Oper} {a : Act} {C : World → Prop} {K : Act → Prop} {v : Value} (hrun : ∀ W, (execOp a.eval o).run P W = .ok (.value v) W) (hk : K (a.put o.dst v)) : o.quiet P a C K :=
  ⟨v, fun W _ => by unfold Oper.quietAt; rw [hrun W]; exact ⟨rfl, rfl⟩, hk⟩
theorem q_call {P : Program} {o : Oper} {a : Act} {C : World → Prop} {K : Act → Prop} {v : Value} {f : FuncId} {args : Array Value} (hrun : ∀ W, (execOp a.eval o).run P W = .ok (.enter f args) W)
    (hc : ∀ W, C W → Calls P f args W fun e w' => e = .returned v ∧ C w') (hk : K (a.put o.dst v)) : o.quiet P a C K :=
  ⟨v, fun W hW => by unfold Oper.quietAt; rw [hrun W]; exact ⟨rfl, hc W hW⟩, hk⟩
theorem quiet_class {P : Program} {C : World → Prop} {id : Nat} {Q : Exit → Act → World → Prop} {a : Act} {w : World} {l : List Oper} (hm : P.follows .mixedOrders = true) (hB : Region.lexB .any l.toArray = true) (hC : C { w with drawn := w.drawn + 1 })
    (h : wpQuiet P l.toArray C (fun a' => ∀ w', C w' → Q .normal a' w') l a) : (Code.region id l.toArray true).wp P Q a w :=
  wp_region_quiet hm hB hC (by simpa using h)
theorem undrewN {n : Nat} {w w' : World} (h : Below (w.drewN n).heap.size (w.drewN n) w') : Below w.heap.size w w' := ⟨h.os, h.tape, h.output, h.size, h.block⟩
set_option maxRecDepth 20000 in
set_option maxHeartbeats 1000000 in
theorem rscan_any (s : ByteArray) (hs : s.size ≤ 1048576) (w : World) :
    Calls Tryd.prog 14 #[.string s] w fun e w' => ∃ v, e = .returned (.tuple #[v, .int .i64 (lastOf (scanL s.data.toList 0) : Nat)]) ∧ w'.ownsRow w.heap.size 44 3 v (scanL s.data.toList 0).length (cellsOf (scanL s.data.toList 0)) ∧ Below w.heap.size w w' := by
  obtain ⟨i0, hi, hz0, hz1, hz2⟩ := info_parts info44
  go_enter Tryd.func14, Tryd.ntmps14
  go_wp2_with fail
  go_loopw [4, 5] (fun vo c5 wr => ∃ (pre : List Fr) (a : Nat), a ≤ s.size ∧ c5 = .int .i64 (a : Nat) ∧ pre ++ scanL s.data.toList a = scanL s.data.toList 0 ∧ lastOf pre = a ∧ wr.ownsRow w.heap.size 44 3 vo pre.length (cellsOf pre) ∧ Below w.heap.size w wr) (fun _ c _ => s.size - (intOf c).toNat)
  case atStart =>
    exact ⟨[], 0, Nat.zero_le _, rfl, rfl, rfl, ⟨rfl, .inr ⟨w.heap.size, 0, #[], rfl, Nat.le_refl _, heap_new _ _, Nat.le_refl _, Nat.zero_le _, rfl, rfl⟩⟩, (Below.refl _ _).alloc (Nat.le_refl _) _⟩
  case round =>
    obtain ⟨pre, a, ha, rfl, hpre, hlast, hown, hb⟩ := hrel
    by_cases h12 : a + 12 ≤ s.size
    · have g1 : (12 : Int) ≤ (s.size : Int) - (a : Int) := by omega
      have HN := rnum_sub s a (by omega) wr
      obtain ⟨lg, hlg⟩ : ∃ x, longF s.data.toList a = x := ⟨_, rfl⟩
      rw [hlg] at HN
      have HLG : Hid (longF s.data.toList a = lg) := hlg
      have HC := rcheck_sub s a (a + 4) hs
      obtain ⟨c, hc⟩ : ∃ x, checkB (sub s.data.toList a (a + 4)) = x := ⟨_, rfl⟩
      rw [hc] at HC
      have HEQ : Hid (((⟨(four c).toArray⟩ : ByteArray) = s.extract (a + 4) (a + 8)) ↔ c.toNat = numL (sub s.data.toList (a + 4) (a + 8))) := str_eq_iff c s (a + 4) (a + 8) (by omega) (by omega)
      have HHD : Hid (headOk s.data.toList a ↔ lg ≤ 65536 ∧ numL (sub s.data.toList (a + 4) (a + 8)) = c.toNat) := by
        show _ ↔ _; unfold headOk; rw [hlg, hc]
      have HPRE : Hid (pre ++ scanL s.data.toList a = scanL s.data.toList 0) := hpre
      have HLAST : Hid (lastOf pre = a) := hlast
      clear hlg hc hpre hlast
      go_wp2_with fail
      refine HN.mono ?_
      rintro e w1 ⟨rfl, n1, hw1⟩
      have hown1 : w1.ownsRow w.heap.size 44 3 u4 pre.length (cellsOf pre) := by rw [hw1]; exact hown
      have hb1 : Below w.heap.size w w1 := by rw [hw1]; exact below_drewN hb n1
      clear hw1 hown hb HN
      have HTH : Hid (there s.data.toList a ↔ (lg ≤ 65536 ∧ numL (sub s.data.toList (a + 4) (a + 8)) = c.toNat) ∧ lg ≤ s.size - (a + 12)) := by
        show _ ↔ _
        unfold there
        rw [HHD.out, HLG.out, slen]
        constructor
        · rintro ⟨_, h2, h3⟩; exact ⟨h2, h3⟩
        · rintro ⟨h2, h3⟩; exact ⟨by omega, h2, h3⟩
      go_upto_region 4 with fail
      go_cut [46] (fun c46 wx => c46 = .bool (!thereB s.data.toList a) ∧ Below w1.heap.size w1 wx)
      case first =>
        have p1 : (a : Int) + 4 ≤ (s.size : Int) := by omega
        have p2 : (a : Int) + 8 ≤ (s.size : Int) := by omega
        have p3 : IntKind.i64.wrap ((a : Int) + 4) = (a : Int) + 4 := by rw [IntKind.wrap_i64]; omega
        have p4 : IntKind.i64.wrap ((a : Int) + 8) = (a : Int) + 8 := by rw [IntKind.wrap_i64]; omega
        have p5 : ((a : Int) + 4).toNat = a + 4 := by omega
        have p6 : ((a : Int) + 8).toNat = a + 8 := by omega
        have p7 : (a : Int) ≤ (a : Int) + 4 := by omega
        have p8 : (a : Int) + 4 ≤ (a : Int) + 8 := by omega
        have p9 : (0 : Int) ≤ (a : Int) + 4 := by omega
        have p10 : IntKind.i64.wrap ((s.size : Int) - (a : Int)) = (s.size : Int) - (a : Int) := by rw [IntKind.wrap_i64]; omega
        have p11 : IntKind.i64.wrap ((s.size : Int) - (a : Int) - 12) = (s.size : Int) - (a : Int) - 12 := by rw [IntKind.wrap_i64]; omega
        by_cases h1 : lg ≤ 65536
        · have q1 : ¬ (65536 : Int) < (lg : Int) := by omega
          by_cases h2 : (⟨(four c).toArray⟩ : ByteArray) = s.extract (a + 4) (a + 8)
          · go_region_held3 (fun _ => True) (trivial)
              (first | (go_at_call 10; refine (HC _).mono ?_; rintro e w2 ⟨rfl, rfl⟩) | (go_at_call 18; refine (rfour_any c _).mono ?_; rintro e w2 ⟨rfl, hb2⟩))
            go_wp2_with fail
            go_meet
            case rel =>
              refine ⟨congrArg Value.bool ?_, undrewN hb2⟩
              have hq := HTH.out
              have he := HEQ.out.1 h2
              by_cases hf : lg ≤ s.size - (a + 12)
              · rw [thereB_yes (hq.2 ⟨⟨h1, he.symm⟩, hf⟩), decide_eq_false (by omega)]; rfl
              · rw [thereB_false (fun h => hf (hq.1 h).2), decide_eq_true (by omega)]; rfl
          · have q2 : ((⟨(four c).toArray⟩ : ByteArray).toList == (s.extract (a + 4) (a + 8)).toList) = false := (bytes_beq_false_iff _ _).2 h2
            have q3 : ¬ four c = (s.extract (a + 4) (a + 8)).toList := by
              intro e
              apply h2
              rw [e, ByteArray.toList_eq]
            refine quiet_class (C := fun W => Below w1.heap.size w1 W) (by kernel_rfl) (by kernel_rfl) (below_drewN (Below.refl _ _) 1) ?_
            go_big_quiet_step (fail)
            refine BigFrame.wpQuiet_want (by rfl) (fun K hK => q_pure (v := .bool false) (fun W => ?_) (hK _ ?_))
            · go_simp
            simp only [Act.put, List.setIfInBounds_toArray, List.set_cons_zero, List.set_cons_succ]
            go_big_quiet_step (fail)
            go_big_quiet_step (fail)
            go_big_quiet_step (fail)
            go_big_quiet_step (fail)
            refine BigFrame.wpQuiet_want (by rfl) (fun K hK => q_pure (v := .int .i64 ((a : Int) + 4)) (fun W => ?_) (hK _ ?_))
            · go_simp
            simp only [Act.put, List.setIfInBounds_toArray, List.set_cons_zero, List.set_cons_succ]
            refine BigFrame.wpQuiet_want (by rfl) (fun K hK => q_pure (v := .string (s.extract a (a + 4))) (fun W => ?_) (hK _ ?_))
            · go_simp
            simp only [Act.put, List.setIfInBounds_toArray, List.set_cons_zero, List.set_cons_succ]
            refine BigFrame.wpQuiet_want (by rfl) (fun K hK => q_call (v := .int .u32 (n32 c)) (f := 10) (args := #[.string (s.extract a (a + 4))]) (fun W => ?_) (fun W hW => ?_) (hK _ ?_))
            · go_simp
            · refine (HC W).mono ?_
              rintro e w' ⟨rfl, rfl⟩
              exact ⟨rfl, hW⟩
            simp only [Act.put, List.setIfInBounds_toArray, List.set_cons_zero, List.set_cons_succ]
            refine BigFrame.wpQuiet_want (by rfl) (fun K hK => q_call (v := .string ⟨(four c).toArray⟩) (f := 18) (args := #[.int .u32 (n32 c)]) (fun W => ?_) (fun W hW => ?_) (hK _ ?_))
            · go_simp
            · refine (rfour_any c W).mono ?_
              rintro e w' ⟨rfl, hb2⟩
              exact ⟨rfl, hW.trans (hb2.mono hW.size)⟩
            simp only [Act.put, List.setIfInBounds_toArray, List.set_cons_zero, List.set_cons_succ]
            go_big_quiet_step (fail)
            go_big_quiet_step (fail)
            refine BigFrame.wpQuiet_want (by rfl) (fun K hK => q_pure (v := .int .i64 ((a : Int) + 4)) (fun W => ?_) (hK _ ?_))
            · go_simp
            simp only [Act.put, List.setIfInBounds_toArray, List.set_cons_zero, List.set_cons_succ]
            go_big_quiet_step (fail)
            refine BigFrame.wpQuiet_want (by rfl) (fun K hK => q_pure (v := .int .i64 ((a : Int) + 8)) (fun W => ?_) (hK _ ?_))
            · go_simp
            simp only [Act.put, List.setIfInBounds_toArray, List.set_cons_zero, List.set_cons_succ]
            refine BigFrame.wpQuiet_want (by rfl) (fun K hK => q_pure (v := .string (s.extract (a + 4) (a + 8))) (fun W => ?_) (hK _ ?_))
            · go_simp
            simp only [Act.put, List.setIfInBounds_toArray, List.set_cons_zero, List.set_cons_succ]
            refine BigFrame.wpQuiet_want (by rfl) (fun K hK => q_pure (v := .bool true) (fun W => ?_) (hK _ ?_))
            · go_simp
            simp only [Act.put, List.setIfInBounds_toArray, List.set_cons_zero, List.set_cons_succ]
            refine BigFrame.wpQuiet_want (by rfl) (fun K hK => q_pure (v := .bool true) (fun W => ?_) (hK _ ?_))
            · go_simp
            simp only [Act.put, List.setIfInBounds_toArray, List.set_cons_zero, List.set_cons_succ]
            go_big_quiet_step (fail)
            go_big_quiet_step (fail)
            go_big_quiet_step (fail)
            go_big_quiet_step (fail)
            go_big_quiet_step (fail)
            go_big_quiet_step (fail)
            go_big_quiet_step (fail)
            go_big_quiet_step (fail)
            refine BigFrame.wpQuiet_want (by rfl) (fun K hK => q_pure (v := .bool true) (fun W => ?_) (hK _ ?_))
            · go_simp
            simp only [Act.put, List.setIfInBounds_toArray, List.set_cons_zero, List.set_cons_succ]
            refine wpQuiet_nil ?_
            intro w2 hb2
            go_wp2_with fail
            go_meet
            case rel =>
              refine ⟨?_, hb2⟩
              rw [thereB_false (fun h => h2 (HEQ.out.2 (HTH.out.1 h).1.2.symm))]; rfl
        · have q1 : (65536 : Int) < (lg : Int) := by omega
          go_quiet (fail)
          go_wp2_with fail
          go_meet
          case rel => exact ⟨by rw [thereB_false (fun h => h1 (HTH.out.1 h).1.1)]; rfl, below_drewN (Below.refl _ _) _⟩
      case rest =>
        obtain ⟨rfl, hb2⟩ := hcut
        have hown2 := ownsRow_below hown1 hb2
        have hb2' : Below w.heap.size w wc := hb1.trans (hb2.mono hb1.size)
        by_cases ht : there s.data.toList a
        · have hlg := (HTH.out.1 ht).2
          have hlg2 := (HTH.out.1 ht).1.1
          have hlen : pre.length + 1 ≤ s.size := by
            have h1 := scan_pre_len (s := s.data.toList) (pre := pre) (x := frF s.data.toList a) ⟨scanL s.data.toList (frF s.data.toList a).stop, by rw [← HPRE.out, scanL_yes _ _ ht]; simp⟩
            rw [slen] at h1; exact h1
          have HPR2 : Hid ((pre ++ [frF s.data.toList a]) ++ scanL s.data.toList (a + 12 + lg) = scanL s.data.toList 0) := by
            show _ = _
            rw [← HPRE.out, scanL_yes _ _ ht, stop_frF _ _ ht, HLG.out]; simp
          have HSTP : Hid ((frF s.data.toList a).stop = a + 12 + lg) := by show _ = _; rw [stop_frF _ _ ht, HLG.out]
          have HCB := rcheck_sub s (a + 12) (a + 12 + lg) hs
          have hbody : sub s.data.toList (a + 12) (a + 12 + lg) = bodyF s.data.toList a := by unfold bodyF; rw [HLG.out]
          obtain ⟨cb, hcb⟩ : ∃ x, checkB (sub s.data.toList (a + 12) (a + 12 + lg)) = x := ⟨_, rfl⟩
          rw [hcb] at HCB
          obtain ⟨gd, hgd⟩ : ∃ g : Bool, decide ((⟨(four cb).toArray⟩ : ByteArray) = s.extract (a + 8) (a + 12)) = g := ⟨_, rfl⟩
          have HGD : Hid ((frF s.data.toList a).good = gd) := by
            show decide _ = _
            rw [← hgd, ← hbody, hcb]
            exact decide_eq_decide.2 (str_eq_iff cb s (a + 8) (a + 12) (by omega) (by omega)).symm
          have HBD : Hid ((⟨(bodyF s.data.toList a).toArray⟩ : ByteArray) = s.extract (a + 12) (a + 12 + lg)) := by
            show _ = _
            rw [← hbody, ← ext_list]
          have hqe : (four cb == (s.extract (a + 8) (a + 12)).toList) = gd := by
            rw [← hgd, Bool.eq_iff_iff, beq_iff_eq, decide_eq_true_iff]
            constructor
            · intro e; rw [e, ByteArray.toList_eq]
            · intro e; rw [← e, ByteArray.toList_eq]
          rw [thereB_yes ht]
          clear hbody hcb hgd ht HTH HPRE HHD HEQ HC
          obtain ⟨T, hT⟩ : ∃ T, s.extract (a + 12) (a + 12 + lg) = T := ⟨_, rfl⟩
          rw [hT] at HBD HCB
          have r1 : IntKind.i64.wrap ((a : Int) + 8) = (a : Int) + 8 := by rw [IntKind.wrap_i64]; omega
          have r2 : IntKind.i64.wrap ((a : Int) + 12) = (a : Int) + 12 := by rw [IntKind.wrap_i64]; omega
          have r3 : (0 : Int) ≤ (a : Int) + 8 := by omega
          have r4 : (a : Int) + 8 ≤ (a : Int) + 12 := by omega
          have r5 : (a : Int) + 12 ≤ (s.size : Int) := by omega
          have r6 : ((a : Int) + 8).toNat = a + 8 := by omega
          have r7 : ((a : Int) + 12).toNat = a + 12 := by omega
          have r8 : a + 12 + lg ≤ s.size := by omega
          have hml : pre.length + 1 ≤ maxLen := Nat.le_trans (show pre.length + 1 ≤ 1048576 by omega) (by decide)
          have hby : (pre.length + 1) * 32 ≤ 140737488355328 := by omega
          have hszw := hb2'.size
          go_wp2_with fail
          go_region_law ((first
            | (go_simp; go_at_call 10; refine (HCB _).mono ?_; rintro e w2 ⟨rfl, rfl⟩; dsimp only)
            | (go_simp; go_at_call 18; refine (rfour_any cb _).mono ?_; rintro e w3 ⟨rfl, hb3⟩; have hb3' := undrew hb3; have hown3 := ownsRow_below hown2 hb3'; have hsz3 := hb3'.size; dsimp only)
            | (refine step_append_lies _ (by rfl) (.tmp 55) (.tmp 70) 33 (by rfl) w.heap.size 44 i0 _ 3 32 Tryd.underlying33 hi hz0 hz1 hz2 (by rfl) (by decide) u4 pre.length (cellsOf pre) (by rfl) (hown3.alloc _) ⟨w3.heap.size, 0, none⟩ 1 1 [.int .i64 ((a : Int) + 12), .string T, .bool gd] (by rfl) (by rfl) (cell3_new _ _ _ _ _) (by simp [Value.oneCell']) (by decide) hml hby (by simp; omega) (w3.heap.size + 1) (by simp) ?_; intro g1 cap1 w4 hown4 hgr4 _ _)))
          simp only [List.getElem_toArray, List.getElem_cons_succ, List.getElem_cons_zero, Act.put, List.setIfInBounds_toArray, List.set_cons_zero, List.set_cons_succ]
          have hb3w : Below w.heap.size w w3 := hb2'.trans (hb3'.mono hszw)
          have hb4 : Below w.heap.size w w4 := (hb3w.alloc hb3w.size _).grown hgr4 (by simp; omega) (fun j ej => by
            rcases hown3.2 with ⟨rfl, _⟩ | ⟨g2, cap2, cur2, rfl, hgb, _, _⟩
            · simp [Value.ownBlock] at ej
            · have : g2 = j := by simpa [Value.ownBlock] using ej
              omega)
          have HX : Hid (cellsOf (pre ++ [frF s.data.toList a]) = cellsOf pre ++ [.int .i64 ((a : Int) + 12), .string T, .bool gd]) := by
            show _ = _
            rw [cellsOf_snoc, HGD.out]
            congr 3
            exact congrArg Value.string HBD.out
          clear hb3 hb3' hb3w hown3 hgr4 hown2 hb2' hb1 hown1 hb2 hsz3 HBD HGD
          go_wp2
          go_roundw
          case rel =>
            refine ⟨pre ++ [frF s.data.toList a], a + 12 + lg, r8, by go_num, HPR2.out, by rw [lastOf_snoc, HSTP.out], ?_, hb4⟩
            rw [HX.out, List.length_append]
            exact hown4
          case measure => simp [intOf]; omega
        · rw [thereB_false ht]
          have HP : Hid (pre = scanL s.data.toList 0) := by
            have h := HPRE.out
            rw [scanL_no _ _ ht, List.append_nil] at h
            exact h
          go_wp2
          refine bodyPost_ret (results_tmp2 Tryd.results14 _ _ _) rfl ⟨u4, ?_, ?_, hb2'⟩
          · rw [← HP.out, HLAST.out]; rfl
          · rw [← HP.out]; exact hown2
    · have g1 : ¬ (12 : Int) ≤ (s.size : Int) - (a : Int) := by omega
      have hno : ¬ there s.data.toList a := fun h => by have := h.1; rw [slen] at this; omega
      have hsc := scanL_no _ _ hno
      rw [hsc, List.append_nil] at hpre
      have HP : Hid (pre = scanL s.data.toList 0 ∧ lastOf pre = a) := ⟨hpre, hlast⟩
      clear hpre hlast hsc
      go_wp2
      refine bodyPost_ret (results_tmp2 Tryd.results14 _ _ _) rfl ⟨u4, ?_, ?_, hb⟩
      · rw [← HP.out.1, HP.out.2]; rfl
      · rw [← HP.out.1]; exact hown
end Go.Proofs.YthhjaploldhdaaaDoor
