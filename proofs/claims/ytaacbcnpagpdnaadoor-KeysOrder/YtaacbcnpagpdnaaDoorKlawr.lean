/- KeysOrder, called: of any two values. -/
import Derived.Test.YtaacbcnpagpdnaaDoorKpair
import Derived.Test.YtaacbcnpagpdnaaDoorKlen
import Derived.Test.YtaacbcnpagpdnaaDoorKawake
import Derived.Test.YtaacbcnpagpdnaaDoorRef
import Derived.Deep.QuietTactic
import Derived.Deep.DrawnRows
import Derived.BigQuiet
namespace Go.Proofs.YtaacbcnpagpdnaaDoor
open Go.RowKit
theorem o_call {P : Program} {o : Oper} {a : Act} {C : World → Prop} {K : Act → Prop} {v : Value} {f : FuncId} {args : Array Value} (hrun : ∀ W, (execOp a.eval o).run P W = .ok (.enter f args) W)
    (hc : ∀ W, C W → Calls P f args W fun e w' => e = .returned v ∧ C w') (hk : K (a.put o.dst v)) : o.quiet P a C K :=
  ⟨v, fun W hW => by unfold Oper.quietAt; rw [hrun W]; exact ⟨rfl, hc W hW⟩, hk⟩
theorem o_at {P : Program} {o : Oper} {a : Act} {C : World → Prop} {K : Act → Prop} {v : Value} (hrun : ∀ W, C W → (execOp a.eval o).run P W = .ok (.value v) W) (hk : K (a.put o.dst v)) : o.quiet P a C K :=
  ⟨v, fun W hW => by unfold Oper.quietAt; rw [hrun W hW]; exact ⟨rfl, rfl⟩, hk⟩
set_option maxRecDepth 100000 in
set_option maxHeartbeats 8000000 in
theorem law_order {t u : Tr} {x y : Ad} (w : World) (hg : Gm w) (hL : Lies w.heap.size w t x) (hM : Lies w.heap.size w u y) :
    Calls Tryd.prog 4 #[t.val x, u.val y] w fun e w' => e = .returned (.bool true) ∧ Below w.heap.size w w' := by
  have hV : t.val x = .agg (t.cs x).toArray := rfl
  have hV' : u.val y = .agg (u.cs y).toArray := rfl
  have hcut := fun (W : World) (hb : Below w.heap.size w W) => cut_all t w.heap.size W x 8 32 (hL.later hb) hb.size (by decide) (by decide)
  have hcut' := fun (W : World) (hb : Below w.heap.size w W) => cut_all u w.heap.size W y 8 32 (hM.later hb) hb.size (by decide) (by decide)
  have hsm := small_cut t 8 32
  have hsl := slim_cut t 8 32 (by decide)
  have hsm' := small_cut u 8 32
  have hsl' := slim_cut u 8 32 (by decide)
  obtain ⟨T, hT⟩ : ∃ T, cutT t 8 32 = T := ⟨_, rfl⟩
  obtain ⟨U, hU⟩ : ∃ U, cutT u 8 32 = U := ⟨_, rfl⟩
  rw [hT] at hcut hsm hsl
  rw [hU] at hcut' hsm' hsl'
  rw [hV] at hcut ⊢
  rw [hV'] at hcut' ⊢
  have hra := cells_size t x
  have hrb := cells_size u y
  obtain ⟨ra, hra'⟩ : ∃ ra : Array Value, (t.cs x).toArray = ra := ⟨_, rfl⟩
  obtain ⟨rb, hrb'⟩ : ∃ rb : Array Value, (u.cs y).toArray = rb := ⟨_, rfl⟩
  rw [hra'] at hcut hra ⊢
  rw [hrb'] at hcut' hrb ⊢
  clear hV hV' hT hU hra' hrb'
  have hbW : Below w.heap.size w ((w.alloc (.cells ra 25)).alloc (.cells rb 25)) := ((Below.refl _ w).alloc (Nat.le_refl _) _).alloc (by simp) _
  have hrow := (Below.heap_alloc (w.alloc (.cells ra 25)) (.cells rb 25) w.heap.size (by simp)).trans (fresh_row w ra 25)
  have hrow' := fresh_row (w.alloc (.cells ra 25)) rb 25
  have hs1 : (w.alloc (.cells ra 25)).heap.size = w.heap.size + 1 := by simp
  have hs2 : ((w.alloc (.cells ra 25)).alloc (.cells rb 25)).heap.size = w.heap.size + 1 + 1 := by simp
  rw [hs1] at hrow'
  have HSM : Hid (small T) := hsm
  have HSL : Hid (slim T) := hsl
  have HSM' : Hid (small U) := hsm'
  have HSL' : Hid (slim U) := hsl'
  have HG : Hid (Gm w) := hg
  have hgp := hg.pos
  clear hsm hsl hsm' hsl' hg hL hM
  go_enter Tryd.func4, Tryd.ntmps4
  go_wp2_with fail
  refine pair_region (ty := 25) (tl := 25) (sx := 2) (sy := 3) (d0 := 13) (d1 := 14) (d2 := 15) (d3 := 16) (s5 := 5) (s6 := 6) (ra := ra) (rb := rb) (zr := #[.int .i64 0, .bool false, .int .i64 0, .string ⟨#[]⟩, .slice none 0 0, .slice none 0 0]) (T := T) (U := U) (B := w.heap.size)
    (f := 8) (f' := 8) (xs := #[.agg ra, .int .i64 8, .int .i64 32]) (xs' := #[.agg rb, .int .i64 8, .int .i64 32]) (bx := w.heap.size) (bx' := w.heap.size + 1)
    (by kernel_rfl) rfl (by kernel_rfl) (by kernel_rfl) ⟨rfl, rfl, rfl, rfl, rfl, rfl, rfl, rfl⟩ ⟨rfl, rfl, rfl, rfl, rfl, rfl, rfl, rfl⟩ rfl rfl rfl rfl
    ?en1 ?en3 ?al4 ?al5 rfl (by decide) ⟨(by decide : (13 : Nat) < 72), (by decide : (14 : Nat) < 72), (by decide : (15 : Nat) < 72), (by decide : (16 : Nat) < 72), (by decide : (5 : Nat) < 72), (by decide : (6 : Nat) < 72)⟩ rfl rfl hrow hrow' Tryd.underlying25 rfl (by rw [hra]; kernel_rfl) (hra.trans hrb.symm) (by kernel_rfl) (by omega) (fun V hv => hcut V (hbW.trans (hv.mono (by omega)))) (fun V hv => hcut' V (hbW.trans (hv.mono (by omega)))) ?post
  case en1 =>
    intro a W h
    have h' : a.eval (.tmp 13) = .agg ra := h
    go_simp
  case en3 =>
    intro a W h
    have h' : a.eval (.tmp 15) = .agg rb := h
    go_simp
  case al4 =>
    intro a W
    go_simp
  case al5 =>
    intro a W
    go_simp
  case post =>
    intro W z5 z6 A C hb r5 r6 hz5 hz6 hLT hLU
    simp only [Act.put, List.setIfInBounds_toArray, List.set_cons_zero, List.set_cons_succ]
    replace r5 : W.heap[z5]? = some (.cells #[.int .i64 T.k, .bool T.b, .int .i64 T.n, .string T.s, .slice A.pa T.m A.pc, .slice A.na T.q A.nc] 25 (0, 0)) := r5
    replace r6 : W.heap[z6]? = some (.cells #[.int .i64 U.k, .bool U.b, .int .i64 U.n, .string U.s, .slice C.pa U.m C.pc, .slice C.na U.q C.nc] 25 (0, 0)) := r6
    have hVT : T.val A = .agg #[.int .i64 T.k, .bool T.b, .int .i64 T.n, .string T.s, .slice A.pa T.m A.pc, .slice A.na T.q A.nc] := rfl
    have hVU : U.val C = .agg #[.int .i64 U.k, .bool U.b, .int .i64 U.n, .string U.s, .slice C.pa U.m C.pc, .slice C.na U.q C.nc] := rfl
    replace hb : Below w.heap.size w W := hbW.trans (hb.mono (by omega))
    clear hrow hrow' hs1 hs2 hbW hcut hcut' hra hrb
    have hckT := fun (V : World) (hv : Below W.heap.size W V) => check_any (hLT.later hv) hv.size HSM.out
    have hckU := fun (V : World) (hv : Below W.heap.size W V) => check_any (hLU.later hv) hv.size HSM'.out
    rw [hVT] at hckT ⊢
    rw [hVU] at hckU ⊢
    obtain ⟨E, hE⟩ : ∃ E, checkT T = E := ⟨_, rfl⟩
    obtain ⟨E', hE'⟩ : ∃ E', checkT U = E' := ⟨_, rfl⟩
    rw [hE] at hckT
    rw [hE'] at hckU
    have HE : Hid (checkT T = E) := hE
    have HE' : Hid (checkT U = E') := hE'
    clear hE hE'
    have hl5 := lt_of_row r5
    have hl6 := lt_of_row r6
    have hszw := hb.size
    have c0 := cell_of_row W _ 0 _ _ _ r5
    have c1 := cell_of_row W _ 1 _ _ _ r5
    have c2 := cell_of_row W _ 2 _ _ _ r5
    have c3 := cell_of_row W _ 3 _ _ _ r5
    have c4 := cell_of_row W _ 4 _ _ _ r5
    have c5 := cell_of_row W _ 5 _ _ _ r5
    go_wp2_with fail
    refine (hckT _ (Below.refl _ W)).mono ?_
    rintro e w1 ⟨rfl, hb1⟩
    clear c0 c1 c2 c3 c4 c5
    by_cases h0 : E = 0
    case neg =>
      have h0' : (E != 0) = true := by simpa using h0
      go_wp2_with fail
      refine (awake_any _).mono ?_
      rintro e w2 ⟨rfl, hb2⟩
      go_wp2
      go_ret
      exact ⟨rfl, (hb.trans (hb1.mono (by omega))).trans (hb2.mono (by have := hb1.size; omega))⟩
    subst h0
    have q6 := (hb1.block _ hl6).trans r6
    have hsz1 := hb1.size
    have c0 := cell_of_row w1 _ 0 _ _ _ q6
    have c1 := cell_of_row w1 _ 1 _ _ _ q6
    have c2 := cell_of_row w1 _ 2 _ _ _ q6
    have c3 := cell_of_row w1 _ 3 _ _ _ q6
    have c4 := cell_of_row w1 _ 4 _ _ _ q6
    have c5 := cell_of_row w1 _ 5 _ _ _ q6
    go_wp2_with fail
    refine (hckU _ hb1).mono ?_
    rintro e w2 ⟨rfl, hb2⟩
    replace hb2 : Below W.heap.size W w2 := hb1.trans (hb2.mono hsz1)
    clear c0 c1 c2 c3 c4 c5 hb1 q6 hsz1
    by_cases h1 : E' = 0
    case neg =>
      have h1' : (E' != 0) = true := by simpa using h1
      go_wp2_with fail
      refine (awake_any _).mono ?_
      rintro e w3 ⟨rfl, hb3⟩
      go_wp2
      go_ret
      exact ⟨rfl, (hb.trans (hb2.mono (by omega))).trans (hb3.mono (by have := hb2.size; omega))⟩
    subst h1
    have hofT := fun (V : World) (hv : Below w2.heap.size w2 V) => of_ok (w := V) HE.out HSM.out (HG.out.later ((hb.trans (hb2.mono (by omega))).trans (hv.mono (by have := hb2.size; omega))) hgp) (hLT.later (hb2.trans (hv.mono hb2.size))) (by have := hb2.size; have := hv.size; omega)
    have hofU := fun (V : World) (hv : Below w2.heap.size w2 V) => of_ok (w := V) HE'.out HSM'.out (HG.out.later ((hb.trans (hb2.mono (by omega))).trans (hv.mono (by have := hb2.size; omega))) hgp) (hLU.later (hb2.trans (hv.mono hb2.size))) (by have := hb2.size; have := hv.size; omega)
    rw [hVT] at hofT
    rw [hVU] at hofU
    obtain ⟨KK, hK⟩ : ∃ K : ByteArray, (⟨(keyT T).toArray⟩ : ByteArray) = K := ⟨_, rfl⟩
    obtain ⟨LL, hL⟩ : ∃ L : ByteArray, (⟨(keyT U).toArray⟩ : ByteArray) = L := ⟨_, rfl⟩
    rw [hK] at hofT
    rw [hL] at hofU
    have HK : Hid (KK.data.toList = keyT T) := by show _ = _; rw [← hK]
    have HL : Hid (LL.data.toList = keyT U) := by show _ = _; rw [← hL]
    clear hK hL hckT hckU
    have p5 := (hb2.block _ hl5).trans r5
    have p6 := (hb2.block _ hl6).trans r6
    have hsz2 := hb2.size
    go_wp2_with fail
    refine wp_region_quiet (C := fun V => Below w2.heap.size w2 V) (by kernel_rfl) (by kernel_rfl) (below_drewN (Below.refl _ w2) 1) ?_
    refine BigFrame.wpQuiet_want (by rfl) (fun K hK => o_at (v := .agg #[.int .i64 T.k, .bool T.b, .int .i64 T.n, .string T.s, .slice A.pa T.m A.pc, .slice A.na T.q A.nc]) (fun V hV => ?_) (hK _ ?_))
    · have hr := (hV.block _ (by omega)).trans p5
      have c0 := cell_of_row V _ 0 _ _ _ hr
      have c1 := cell_of_row V _ 1 _ _ _ hr
      have c2 := cell_of_row V _ 2 _ _ _ hr
      have c3 := cell_of_row V _ 3 _ _ _ hr
      have c4 := cell_of_row V _ 4 _ _ _ hr
      have c5 := cell_of_row V _ 5 _ _ _ hr
      go_simp
    clear hK K
    simp only [Act.put, List.setIfInBounds_toArray, List.set_cons_zero, List.set_cons_succ]
    refine BigFrame.wpQuiet_want (by rfl) (fun K hK => o_call (f := 13) (args := #[.agg #[.int .i64 T.k, .bool T.b, .int .i64 T.n, .string T.s, .slice A.pa T.m A.pc, .slice A.na T.q A.nc]]) (v := .string KK) (fun V => ?_) (fun V hV => (hofT V hV).mono fun e w' ⟨he, hb⟩ => ⟨he, hV.trans (hb.mono hV.size)⟩) (hK _ ?_))
    · go_simp
    clear hK K
    simp only [Act.put, List.setIfInBounds_toArray, List.set_cons_zero, List.set_cons_succ]
    refine BigFrame.wpQuiet_want (by rfl) (fun K hK => o_at (v := .agg #[.int .i64 U.k, .bool U.b, .int .i64 U.n, .string U.s, .slice C.pa U.m C.pc, .slice C.na U.q C.nc]) (fun V hV => ?_) (hK _ ?_))
    · have hr := (hV.block _ (by omega)).trans p6
      have c0 := cell_of_row V _ 0 _ _ _ hr
      have c1 := cell_of_row V _ 1 _ _ _ hr
      have c2 := cell_of_row V _ 2 _ _ _ hr
      have c3 := cell_of_row V _ 3 _ _ _ hr
      have c4 := cell_of_row V _ 4 _ _ _ hr
      have c5 := cell_of_row V _ 5 _ _ _ hr
      go_simp
    clear hK K
    simp only [Act.put, List.setIfInBounds_toArray, List.set_cons_zero, List.set_cons_succ]
    refine BigFrame.wpQuiet_want (by rfl) (fun K hK => o_call (f := 13) (args := #[.agg #[.int .i64 U.k, .bool U.b, .int .i64 U.n, .string U.s, .slice C.pa U.m C.pc, .slice C.na U.q C.nc]]) (v := .string LL) (fun V => ?_) (fun V hV => (hofU V hV).mono fun e w' ⟨he, hb⟩ => ⟨he, hV.trans (hb.mono hV.size)⟩) (hK _ ?_))
    · go_simp
    clear hK K
    simp only [Act.put, List.setIfInBounds_toArray, List.set_cons_zero, List.set_cons_succ]
    go_big_quiet_step (fail)
    go_big_quiet_step (fail)
    refine wpQuiet_nil ?_
    intro w3 hw3
    have p5' := (hw3.block _ (by omega)).trans p5
    have p6' := (hw3.block _ (by omega)).trans p6
    have hsz3 := hw3.size
    have hb3 : Below W.heap.size W w3 := hb2.trans (hw3.mono hsz2)
    have hreT := fun (V : World) (hv : Below w3.heap.size w3 V) => ref_all T HSL.out w3.heap.size V A ((hLT.later (hb3.trans (hv.mono (by omega)))).up (by omega)) hv.size
    have hreU := fun (V : World) (hv : Below w3.heap.size w3 V) => ref_all U HSL'.out w3.heap.size V C ((hLU.later (hb3.trans (hv.mono (by omega)))).up (by omega)) hv.size
    rw [hVT] at hreT
    rw [hVU] at hreU
    clear hofT hofU p5 p6
    go_wp2_with fail
    refine pair_region (ty := 34) (tl := 25) (sx := 5) (sy := 6) (d0 := 30) (d1 := 31) (d2 := 32) (d3 := 33) (s5 := 9) (s6 := 10) (ra := #[.int .i64 T.k, .bool T.b, .int .i64 T.n, .string T.s, .slice A.pa T.m A.pc, .slice A.na T.q A.nc]) (rb := #[.int .i64 U.k, .bool U.b, .int .i64 U.n, .string U.s, .slice C.pa U.m C.pc, .slice C.na U.q C.nc]) (zr := #[.int .i64 0, .bool false, .int .i64 0, .string ⟨#[]⟩, .slice none 0 0, .slice none 0 0]) (T := T) (U := U) (B := w3.heap.size)
      (f := 12) (f' := 12) (xs := #[.agg #[.int .i64 T.k, .bool T.b, .int .i64 T.n, .string T.s, .slice A.pa T.m A.pc, .slice A.na T.q A.nc]]) (xs' := #[.agg #[.int .i64 U.k, .bool U.b, .int .i64 U.n, .string U.s, .slice C.pa U.m C.pc, .slice C.na U.q C.nc]]) (bx := z5) (bx' := z6)
      (by kernel_rfl) rfl (by kernel_rfl) (by kernel_rfl) ⟨rfl, rfl, rfl, rfl, rfl, rfl, rfl, rfl⟩ ⟨rfl, rfl, rfl, rfl, rfl, rfl, rfl, rfl⟩ rfl rfl rfl rfl
      ?en1 ?en3 ?al4 ?al5 rfl (by decide) ⟨(by decide : (30 : Nat) < 72), (by decide : (31 : Nat) < 72), (by decide : (32 : Nat) < 72), (by decide : (33 : Nat) < 72), (by decide : (9 : Nat) < 72), (by decide : (10 : Nat) < 72)⟩ rfl rfl p5' p6' Tryd.underlying25 rfl (by kernel_rfl) rfl (by kernel_rfl) (Nat.le_refl _) hreT hreU ?post
    case en1 =>
      intro a W h
      have h' : a.eval (.tmp 30) = .agg #[.int .i64 T.k, .bool T.b, .int .i64 T.n, .string T.s, .slice A.pa T.m A.pc, .slice A.na T.q A.nc] := h
      go_simp
    case en3 =>
      intro a W h
      have h' : a.eval (.tmp 32) = .agg #[.int .i64 U.k, .bool U.b, .int .i64 U.n, .string U.s, .slice C.pa U.m C.pc, .slice C.na U.q C.nc] := h
      go_simp
    case al4 =>
      intro a W
      go_simp
    case al5 =>
      intro a W
      go_simp
    case post =>
      intro w4 z9 z10 A1 C1 hb4 r9 r10 _ _ hLT1 hLU1
      simp only [Act.put, List.setIfInBounds_toArray, List.set_cons_zero, List.set_cons_succ]
      replace r9 : w4.heap[z9]? = some (.cells #[.int .i64 T.k, .bool T.b, .int .i64 T.n, .string T.s, .slice A1.pa T.m A1.pc, .slice A1.na T.q A1.nc] 34 (0, 0)) := r9
      replace r10 : w4.heap[z10]? = some (.cells #[.int .i64 U.k, .bool U.b, .int .i64 U.n, .string U.s, .slice C1.pa U.m C1.pc, .slice C1.na U.q C1.nc] 34 (0, 0)) := r10
      have hVT1 : T.val A1 = .agg #[.int .i64 T.k, .bool T.b, .int .i64 T.n, .string T.s, .slice A1.pa T.m A1.pc, .slice A1.na T.q A1.nc] := rfl
      have hVU1 : U.val C1 = .agg #[.int .i64 U.k, .bool U.b, .int .i64 U.n, .string U.s, .slice C1.pa U.m C1.pc, .slice C1.na U.q C1.nc] := rfl
      have hsa := fun (V : World) (hv : Below w4.heap.size w4 V) => same_any (check_zero HE.out).1 (check_zero HE'.out).1 (hLT1.later hv) (hLU1.later hv) hv.size
      have hbe := fun (V : World) (hv : Below w4.heap.size w4 V) => (bef_all T U 1 1 (check_zero HE.out).1 (check_zero HE'.out).1).1 w4.heap.size V A1 C1 (hLT1.later hv) (hLU1.later hv) hv.size
      rw [hVT1, hVU1] at hsa hbe ⊢
      have hb4w : Below w.heap.size w w4 := (hb.trans (hb3.mono (by omega))).trans (hb4.mono (by omega))
      have hl9 := lt_of_row r9
      have hl10 := lt_of_row r10
      obtain ⟨X, hX⟩ : ∃ X, lt8 (keyT T) (keyT U) = X := ⟨_, rfl⟩
      obtain ⟨S, hS⟩ : ∃ S, decide (keyT T = keyT U) = S := ⟨_, rfl⟩
      rw [hX] at hbe
      rw [hS] at hsa
      have hlx : Op.bytesLess KK.toList LL.toList = X := by rw [Lib.toList_data, Lib.toList_data, HK.out, HL.out]; exact hX
      have heq : (KK.toList == LL.toList) = S := by rw [Lib.toList_data, Lib.toList_data, HK.out, HL.out, ← hS]; exact Bool.eq_iff_iff.2 (by simp)
      have hbeg : KK.size ≤ LL.size → ((LL.extract 0 KK.size).toList == KK.toList) = S := fun hle => by
        rw [← hS]
        refine Bool.eq_iff_iff.2 ?_
        rw [beq_iff_eq, decide_eq_true_eq]
        constructor
        · intro he
          have hp : keyT T <+: keyT U := by
            rw [← HK.out, ← HL.out, List.prefix_iff_eq_take, ← Lib.size_eq]
            rw [Lib.toList_data, Lib.toList_data, ByteArray.data_extract] at he
            simp at he
            exact he.symm
          exact key_ff T U 1 1 (check_zero HE.out).1 (check_zero HE'.out).1 (Or.inl hp)
        · intro he
          have : KK = LL := by rw [of_list HK.out, of_list HL.out, he]
          have e2 : LL.extract 0 LL.size = LL := ByteArray.ext (by rw [ByteArray.data_extract]; show LL.data.extract 0 LL.data.size = LL.data; simp)
          rw [this, e2]
      have hbeg' : ¬ KK.size ≤ LL.size → S = false := fun hle => by
        rw [← hS]
        refine decide_eq_false (fun he => hle ?_)
        rw [Lib.size_eq, Lib.size_eq, HK.out, HL.out, he]
        exact Nat.le_refl _
      have HBG : Hid (KK.size ≤ LL.size → ((LL.extract 0 KK.size).toList == KK.toList) = S) := hbeg
      have HBG' : Hid (¬ KK.size ≤ LL.size → S = false) := hbeg'
      clear hX hS hbeg hbeg' hreT hreU
      have c0 := cell_of_row w4 _ 0 _ _ _ r9
      have c1 := cell_of_row w4 _ 1 _ _ _ r9
      have c2 := cell_of_row w4 _ 2 _ _ _ r9
      have c3 := cell_of_row w4 _ 3 _ _ _ r9
      have c4 := cell_of_row w4 _ 4 _ _ _ r9
      have c5 := cell_of_row w4 _ 5 _ _ _ r9
      have d0 := cell_of_row w4 _ 0 _ _ _ r10
      have d1 := cell_of_row w4 _ 1 _ _ _ r10
      have d2 := cell_of_row w4 _ 2 _ _ _ r10
      have d3 := cell_of_row w4 _ 3 _ _ _ r10
      have d4 := cell_of_row w4 _ 4 _ _ _ r10
      have d5 := cell_of_row w4 _ 5 _ _ _ r10
      go_wp2_with fail
      refine (hsa _ (Below.refl _ w4)).mono ?_
      rintro e w5 ⟨rfl, hb5⟩
      clear c0 c1 c2 c3 c4 c5 d0 d1 d2 d3 d4 d5
      have hfin : ∀ w6 w7, Below w5.heap.size w5 w6 → Below w6.heap.size w6 w7 → Below w.heap.size w w7 := fun w6 w7 h6 h7 => ((hb4w.trans (hb5.mono hb4w.size)).trans (h6.mono (by have := hb4w.size; have := hb5.size; omega))).trans (h7.mono (by have := hb4w.size; have := hb5.size; have := h6.size; omega))
      by_cases hle : KK.size ≤ LL.size
      · have hle' : (KK.size : Int) ≤ (LL.size : Int) := by omega
        have hbg := HBG.out hle
        go_wp2_with fail
        refine (awake_any _).mono ?_
        rintro e w6 ⟨rfl, hb6⟩
        have hb46 : Below w4.heap.size w4 w6 := hb5.trans (hb6.mono hb5.size)
        have s9 := (hb46.block _ hl9).trans r9
        have s10 := (hb46.block _ hl10).trans r10
        have c0 := cell_of_row w6 _ 0 _ _ _ s9
        have c1 := cell_of_row w6 _ 1 _ _ _ s9
        have c2 := cell_of_row w6 _ 2 _ _ _ s9
        have c3 := cell_of_row w6 _ 3 _ _ _ s9
        have c4 := cell_of_row w6 _ 4 _ _ _ s9
        have c5 := cell_of_row w6 _ 5 _ _ _ s9
        have d0 := cell_of_row w6 _ 0 _ _ _ s10
        have d1 := cell_of_row w6 _ 1 _ _ _ s10
        have d2 := cell_of_row w6 _ 2 _ _ _ s10
        have d3 := cell_of_row w6 _ 3 _ _ _ s10
        have d4 := cell_of_row w6 _ 4 _ _ _ s10
        have d5 := cell_of_row w6 _ 5 _ _ _ s10
        go_wp2_with fail
        refine (hbe _ hb46).mono ?_
        rintro e w7 ⟨rfl, hb7⟩
        clear c0 c1 c2 c3 c4 c5 d0 d1 d2 d3 d4 d5 hbg
        clear HBG HBG'
        cases X <;> cases S
        all_goals
          go_wp2
          go_ret
          exact ⟨rfl, hfin w6 w7 hb6 hb7⟩
      · have hle' : ¬ (KK.size : Int) ≤ (LL.size : Int) := by omega
        have hbg := HBG'.out hle
        subst hbg
        go_wp2_with fail
        refine (awake_any _).mono ?_
        rintro e w6 ⟨rfl, hb6⟩
        have hb46 : Below w4.heap.size w4 w6 := hb5.trans (hb6.mono hb5.size)
        have s9 := (hb46.block _ hl9).trans r9
        have s10 := (hb46.block _ hl10).trans r10
        have c0 := cell_of_row w6 _ 0 _ _ _ s9
        have c1 := cell_of_row w6 _ 1 _ _ _ s9
        have c2 := cell_of_row w6 _ 2 _ _ _ s9
        have c3 := cell_of_row w6 _ 3 _ _ _ s9
        have c4 := cell_of_row w6 _ 4 _ _ _ s9
        have c5 := cell_of_row w6 _ 5 _ _ _ s9
        have d0 := cell_of_row w6 _ 0 _ _ _ s10
        have d1 := cell_of_row w6 _ 1 _ _ _ s10
        have d2 := cell_of_row w6 _ 2 _ _ _ s10
        have d3 := cell_of_row w6 _ 3 _ _ _ s10
        have d4 := cell_of_row w6 _ 4 _ _ _ s10
        have d5 := cell_of_row w6 _ 5 _ _ _ s10
        go_wp2_with fail
        refine (hbe _ hb46).mono ?_
        rintro e w7 ⟨rfl, hb7⟩
        clear c0 c1 c2 c3 c4 c5 d0 d1 d2 d3 d4 d5
        clear HBG HBG'
        cases X
        all_goals
          go_wp2
          go_ret
          exact ⟨rfl, hfin w6 w7 hb6 hb7⟩
end Go.Proofs.YtaacbcnpagpdnaaDoor
