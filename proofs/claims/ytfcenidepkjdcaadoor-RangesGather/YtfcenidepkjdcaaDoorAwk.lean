/- The laws' awake: a document that leaves a span hits a look at it. -/
import Derived.Test.YtfcenidepkjdcaaDoorXas
namespace Go.Proofs.YtfcenidepkjdcaaDoor
open Go.RowKit Go.Shelf
attribute [local go_sem] Oper.semAt_some
def tB : ByteArray := ⟨#[116]⟩
def LyT (t u : V.Tr) (was is : Bool) (v : Value) (W : World) : Prop := ∃ A C, v = .agg (thA tB false t A u C was is) ∧ V.Lies W.heap.size W t A ∧ V.Lies W.heap.size W u C
theorem lies_more {t : V.Tr} {A : V.Ad} {W W' : World} (h : V.Lies W.heap.size W t A) (hb : Below W.heap.size W W') : V.Lies W'.heap.size W' t A := V.LiesS.up (fun _ hk => Nat.lt_of_lt_of_le hk hb.size) (h.later hb)
theorem LyT.later {t u : V.Tr} {was is : Bool} : ∀ v W W', LyT t u was is v W → Below W.heap.size W W' → LyT t u was is v W' := fun _ _ _ ⟨A, C, h1, h2, h3⟩ hb => ⟨A, C, h1, lies_more h2 hb, lies_more h3 hb⟩
def zA : V.Ad := ⟨none, 0, none, 0⟩
def LyN (u : V.Tr) (v : Value) (W : World) : Prop := ∃ C, v = .agg (thA tB false noT zA u C false true) ∧ V.Lies W.heap.size W u C
theorem LyN.later {u : V.Tr} : ∀ v W W', LyN u v W → Below W.heap.size W W' → LyN u v W' := fun _ _ _ ⟨C, h1, h3⟩ hb => ⟨C, h1, lies_more h3 hb⟩
set_option maxRecDepth 100000 in
theorem noT_good : Good noT := ⟨by decide +kernel, ⟨by decide, fun i hi => absurd hi (Nat.not_lt_zero i)⟩, leaf_slim _ _ _ _, ⟨by decide, fun i hi => absurd hi (Nat.not_lt_zero i)⟩⟩
theorem plA_a (tb lo hi : ByteArray) : plA tb aB lo hi = rdA tb aB lo hi := by
  unfold plA
  rw [if_neg (by decide +kernel)]
def oneK (n : Int) : ByteArray := ⟨(V.keyT (V.leafT 2 false n ⟨#[]⟩)).toArray⟩
set_option maxRecDepth 100000 in
theorem hit1 : hitB tB aB (oneK 1) (V.nextB (oneK 1)) tB false (aT 1) (aT 2) true true = true := by decide +kernel
set_option maxRecDepth 100000 in
theorem hit2 : hitB tB aB (oneK 1) (V.nextB (oneK 1)) tB false noT (aT 2) false true = false := by decide +kernel
set_option maxRecDepth 100000 in
theorem hit3 : hitB tB eB eB eB tB false noT (aT 2) false true = true := by decide +kernel
set_option maxRecDepth 100000 in
theorem leaf_check (n : Int) (h : V.checkT (V.leafT 2 false n ⟨#[]⟩) = 0) {w : World} (hn : -9223372036854775808 ≤ n ∧ n < 9223372036854775808) (hg : V.Gm w) :
    Calls Tryd.prog 19 #[.agg #[.int .i64 2, .bool false, .int .i64 n, .string ⟨#[]⟩, .slice none 0 0, .slice none 0 0]] w fun e w' => e = .returned (.agg #[.string (oneK n), .string (V.nextB (oneK n))]) ∧ Below w.heap.size w w' :=
  V.equal_ok (t := V.leafT 2 false n ⟨#[]⟩) (x := zA) (B := w.heap.size) h ⟨by decide, fun i hi => absurd hi (Nat.not_lt_zero i)⟩ hg (V.lies_leaf (by omega) hn (by show (0 : Nat) ≤ maxLen; exact Nat.zero_le _)) (Nat.le_refl _)
set_option maxRecDepth 100000 in
set_option maxHeartbeats 8000000 in
theorem awake_any (w : World) (hg : V.Gm w) : Calls Tryd.prog 8 #[] w fun e w' => e = .returned (.bool true) ∧ Below w.heap.size w w' := by
  have kv : Calls Tryd.prog 17 #[.int .i64 1] w fun r w' => r = .returned (.agg #[.int .i64 2, .bool false, .int .i64 1, .string ⟨#[]⟩, .slice none 0 0, .slice none 0 0]) ∧ Below w.heap.size w w' := V.vint 1 w
  have ke : ∀ W, Below w.heap.size w W → Calls Tryd.prog 19 #[.agg #[.int .i64 2, .bool false, .int .i64 1, .string ⟨#[]⟩, .slice none 0 0, .slice none 0 0]] W fun e w' => e = .returned (.agg #[.string (oneK 1), .string (V.nextB (oneK 1))]) ∧ Below W.heap.size W w' := fun W hb => leaf_check 1 (by decide +kernel) (by omega) (hg.later hb hg.pos)
  have kp : ∀ W, Calls Tryd.prog 18 #[.string ⟨#[116]⟩, .string ⟨#[97]⟩, .agg #[.string (oneK 1), .string (V.nextB (oneK 1))]] W fun e w' => e = .returned (.agg #[.string ⟨#[116]⟩, .string ⟨#[97]⟩, .string (oneK 1), .string (V.nextB (oneK 1))]) ∧ Below W.heap.size W w' := fun W => by
    have := part_any tB aB (oneK 1) (V.nextB (oneK 1)) W
    rw [plA_a] at this
    exact this
  have kh1' : ∀ W A C, Below w.heap.size w W → V.Lies W.heap.size W (aT 1) A → V.Lies W.heap.size W (aT 2) C → Calls Tryd.prog 9 #[.agg (rdA tB aB (oneK 1) (V.nextB (oneK 1))), .agg (thA tB false (aT 1) A (aT 2) C true true)] W fun e w' => e = .returned (.bool true) ∧ Below W.heap.size W w' := fun W A C hb h1 h2 => by
    have := hits_any tB aB (oneK 1) (V.nextB (oneK 1)) tB false (aT 1) A (aT 2) C true true h1 h2 (Nat.le_refl _) (hg.later hb hg.pos) aT_good1 aT_good2
    rw [hit1] at this
    exact this
  have kh2' : ∀ W C, Below w.heap.size w W → V.Lies W.heap.size W (aT 2) C → Calls Tryd.prog 9 #[.agg (rdA tB aB (oneK 1) (V.nextB (oneK 1))), .agg (thA tB false noT zA (aT 2) C false true)] W fun e w' => e = .returned (.bool false) ∧ Below W.heap.size W w' := fun W C hb h2 => by
    have := hits_any (Bd := W.heap.size) tB aB (oneK 1) (V.nextB (oneK 1)) tB false noT zA (aT 2) C false true no_lies h2 (Nat.le_refl _) (hg.later hb hg.pos) noT_good aT_good2
    rw [hit2] at this
    exact this
  have kh3' : ∀ W C, Below w.heap.size w W → V.Lies W.heap.size W (aT 2) C → Calls Tryd.prog 9 #[.agg (rdA tB eB eB eB), .agg (thA tB false noT zA (aT 2) C false true)] W fun e w' => e = .returned (.bool true) ∧ Below W.heap.size W w' := fun W C hb h2 => by
    have := hits_any (Bd := W.heap.size) tB eB eB eB tB false noT zA (aT 2) C false true no_lies h2 (Nat.le_refl _) (hg.later hb hg.pos) noT_good aT_good2
    rw [hit3] at this
    exact this
  have kd1 := fun W => doc_awake 1 (by omega) W
  have kd2 := fun W => doc_awake 2 (by omega) W
  have kw0 : ∀ W, Calls Tryd.prog 20 #[.string ⟨#[116]⟩] W fun e w' => e = .returned (.agg #[.string ⟨#[116]⟩, .string ⟨#[]⟩, .string ⟨#[]⟩, .string ⟨#[]⟩]) ∧ Below W.heap.size W w' := fun W => whole_any tB W
  obtain ⟨K, hK⟩ : ∃ K, oneK 1 = K := ⟨_, rfl⟩
  rw [hK] at ke kp kh1' kh2'
  obtain ⟨M, hM⟩ : ∃ M, V.nextB K = M := ⟨_, rfl⟩
  rw [hM] at ke kp kh1' kh2'
  obtain ⟨T1, hT1⟩ : ∃ T, aT 1 = T := ⟨_, rfl⟩
  rw [hT1] at kd1 kh1'
  obtain ⟨T2, hT2⟩ : ∃ T, aT 2 = T := ⟨_, rfl⟩
  rw [hT2] at kd2 kh1' kh2' kh3'
  clear hK hM hT1 hT2
  go_enter Tryd.func8, Tryd.ntmps8
  go_wp2_with fail
  refine kv.mono ?_
  rintro e w1 ⟨rfl, hb1⟩
  go_wp2_with fail
  refine (ke w1 hb1).mono ?_
  rintro e w2 ⟨rfl, hb2⟩
  have hbw2 : Below w.heap.size w w2 := hb1.trans (hb2.mono hb1.size)
  clear hb1 hb2 kv ke
  go_wp2_with fail
  refine (kp w2).mono ?_
  rintro e w3 ⟨rfl, hb3⟩
  have hbw3 : Below w.heap.size w w3 := hbw2.trans (hb3.mono hbw2.size)
  obtain ⟨w4, hw4⟩ : ∃ w4, w3.alloc (.cells #[.string ⟨#[116]⟩, .string ⟨#[97]⟩, .string K, .string M] 25) = w4 := ⟨_, rfl⟩
  have rz0 : w4.heap[w3.heap.size]? = some (.cells #[.string ⟨#[116]⟩, .string ⟨#[97]⟩, .string K, .string M] 25 (0, 0)) := by rw [← hw4]; exact heap_alloc_new _ _
  have hbw4 : Below w.heap.size w w4 := by rw [← hw4]; exact hbw3.alloc hbw3.size _
  have HX : Hid (w3.alloc (.cells #[.string ⟨#[116]⟩, .string ⟨#[97]⟩, .string K, .string M] 25) = w4) := hw4
  clear hw4 hb3 hbw2 hbw3 kp
  go_wp2_with fail
  rw [HX.out]
  obtain ⟨z, hz⟩ : ∃ z, w3.heap.size = z := ⟨_, rfl⟩
  rw [hz] at rz0 ⊢
  have rz := rz0
  clear hz HX rz0
  have kh1 : ∀ W A C, Below w4.heap.size w4 W → V.Lies W.heap.size W T1 A → V.Lies W.heap.size W T2 C → Calls Tryd.prog 9 #[.agg #[.string ⟨#[116]⟩, .string ⟨#[97]⟩, .string K, .string M], .agg #[.string ⟨#[116]⟩, .bool false, .int .i64 T1.k, .bool T1.b, .int .i64 T1.n, .string T1.s, .slice A.pa T1.m A.pc, .slice A.na T1.q A.nc, .int .i64 T2.k, .bool T2.b, .int .i64 T2.n, .string T2.s, .slice C.pa T2.m C.pc, .slice C.na T2.q C.nc, .bool true, .bool true]] W fun e w' => e = .returned (.bool true) ∧ Below W.heap.size W w' := fun W A C hb => kh1' W A C (hbw4.trans (hb.mono hbw4.size))
  have kh2 : ∀ W C, Below w4.heap.size w4 W → V.Lies W.heap.size W T2 C → Calls Tryd.prog 9 #[.agg #[.string ⟨#[116]⟩, .string ⟨#[97]⟩, .string K, .string M], .agg #[.string ⟨#[116]⟩, .bool false, .int .i64 0, .bool false, .int .i64 0, .string ⟨#[]⟩, .slice none 0 0, .slice none 0 0, .int .i64 T2.k, .bool T2.b, .int .i64 T2.n, .string T2.s, .slice C.pa T2.m C.pc, .slice C.na T2.q C.nc, .bool false, .bool true]] W fun e w' => e = .returned (.bool false) ∧ Below W.heap.size W w' := fun W C hb => kh2' W C (hbw4.trans (hb.mono hbw4.size))
  have kh3 : ∀ W C, Below w4.heap.size w4 W → V.Lies W.heap.size W T2 C → Calls Tryd.prog 9 #[.agg #[.string ⟨#[116]⟩, .string ⟨#[]⟩, .string ⟨#[]⟩, .string ⟨#[]⟩], .agg #[.string ⟨#[116]⟩, .bool false, .int .i64 0, .bool false, .int .i64 0, .string ⟨#[]⟩, .slice none 0 0, .slice none 0 0, .int .i64 T2.k, .bool T2.b, .int .i64 T2.n, .string T2.s, .slice C.pa T2.m C.pc, .slice C.na T2.q C.nc, .bool false, .bool true]] W fun e w' => e = .returned (.bool true) ∧ Below W.heap.size W w' := fun W C hb => kh3' W C (hbw4.trans (hb.mono hbw4.size))
  have kw := kw0
  clear kh1' kh2' kh3' kw0
  refine (wpIn_wide (n := 0)).1 ?_
  refine B.any_tailIn (m := 0) (by kernel_rfl) 22 (by exact Nat.le_of_ble_eq_true rfl) (fun i => i + 6) (B.mixR [(2, LyV T1), (4, LyV T2), (5, LyT T1 T2 true true), (10, LyV T2), (11, LyN T2), (18, LyV T2), (19, LyN T2)] [.agg #[.string ⟨#[116]⟩, .string ⟨#[97]⟩, .string K, .string M], .func (.func 23) #[] #[], undef, .func (.func 23) #[] #[], undef, undef, .bool true, .bool true, .agg #[.string ⟨#[116]⟩, .string ⟨#[97]⟩, .string K, .string M], .func (.func 23) #[] #[], undef, undef, .bool false, .bool true, .bool true, .bool true, .agg #[.string ⟨#[116]⟩, .string ⟨#[]⟩, .string ⟨#[]⟩, .string ⟨#[]⟩], .func (.func 23) #[] #[], undef, undef, .bool true, .bool true]) (by kernel_rfl) (by kernel_rfl) (by kernel_rfl) (by kernel_rfl) (B.mixR_later _ _ (B.stab_cons (LyV.later) (B.stab_cons (LyV.later) (B.stab_cons (LyT.later) (B.stab_cons (LyV.later) (B.stab_cons (LyN.later) (B.stab_cons (LyV.later) (B.stab_cons (LyN.later) (B.stab_nil))))))))) ?step ?post
  case step =>
    intro iq hiq a W hrest hb hk
    have hp2 : a.eval (.tmp 2) = .pointer (some ⟨z, 0, none⟩) := (hrest 2 (by intro iq2 hiq2; (repeat' split) <;> omega)).trans rfl
    have fp2 := B.ev hp2
    have hx2 : W.heap[z]? = some (.cells #[.string ⟨#[116]⟩, .string ⟨#[97]⟩, .string K, .string M] 25 (0, 0)) := (hb.block _ (lt_of_row rz)).trans rz
    have hp1 : a.eval (.tmp 1) = .func (.func 23) #[] #[] := (hrest 1 (by intro iq2 hiq2; (repeat' split) <;> omega)).trans rfl
    have fp1 := B.ev hp1
    clear hrest
    obtain rfl | rfl | rfl | rfl | rfl | rfl | rfl | rfl | rfl | rfl | rfl | rfl | rfl | rfl | rfl | rfl | rfl | rfl | rfl | rfl | rfl | rfl : iq = 0 ∨ iq = 1 ∨ iq = 2 ∨ iq = 3 ∨ iq = 4 ∨ iq = 5 ∨ iq = 6 ∨ iq = 7 ∨ iq = 8 ∨ iq = 9 ∨ iq = 10 ∨ iq = 11 ∨ iq = 12 ∨ iq = 13 ∨ iq = 14 ∨ iq = 15 ∨ iq = 16 ∨ iq = 17 ∨ iq = 18 ∨ iq = 19 ∨ iq = 20 ∨ iq = 21 := by omega
    · clear hiq
      have hc0 := cell_of_row W z 0 _ _ _ hx2
      have hc1 := cell_of_row W z 1 _ _ _ hx2
      have hc2 := cell_of_row W z 2 _ _ _ hx2
      have hc3 := cell_of_row W z 3 _ _ _ hx2
      clear hk
      refine ⟨_, rfl, rfl, Or.inl ⟨B.wanted_none rfl, B.wpIn_value (v := .agg #[.string ⟨#[116]⟩, .string ⟨#[97]⟩, .string K, .string M]) (w' := W) ?_ ⟨_, rfl, Below.refl _ _, rfl⟩⟩⟩
      go_simp
    · clear hiq
      clear hk
      refine ⟨_, rfl, rfl, Or.inl ⟨B.wanted_none rfl, B.wpIn_value (v := .func (.func 23) #[] #[]) (w' := W) ?_ ⟨_, rfl, Below.refl _ _, rfl⟩⟩⟩
      go_simp
    · clear hiq
      have e1 : a.eval (.tmp 7) = .func (.func 23) #[] #[] := hk 1 (B.mem_of (by kernel_rfl))
      have f1 := B.ev e1
      clear hk
      refine ⟨_, rfl, rfl, Or.inl ⟨B.wanted_none rfl, B.wpIn_enter (f := 23) (args := #[.int .i64 1]) ?_ ((kd1 W).mono ?_)⟩⟩
      · go_simp
      · rintro e w2 ⟨⟨u, rfl, hu⟩, hb2⟩
        exact ⟨_, rfl, _, rfl, hb2, hu⟩
    · clear hiq
      clear hk
      refine ⟨_, rfl, rfl, Or.inl ⟨B.wanted_none rfl, B.wpIn_value (v := .func (.func 23) #[] #[]) (w' := W) ?_ ⟨_, rfl, Below.refl _ _, rfl⟩⟩⟩
      go_simp
    · clear hiq
      have e3 : a.eval (.tmp 9) = .func (.func 23) #[] #[] := hk 3 (B.mem_of (by kernel_rfl))
      have f3 := B.ev e3
      clear hk
      refine ⟨_, rfl, rfl, Or.inl ⟨B.wanted_none rfl, B.wpIn_enter (f := 23) (args := #[.int .i64 2]) ?_ ((kd2 W).mono ?_)⟩⟩
      · go_simp
      · rintro e w2 ⟨⟨u, rfl, hu⟩, hb2⟩
        exact ⟨_, rfl, _, rfl, hb2, hu⟩
    · clear hiq
      obtain ⟨A2, e2, hA2⟩ := show LyV T1 (a.eval (.tmp 8)) W from hk 2 (B.mem_of (by kernel_rfl))
      replace e2 : a.eval (.tmp 8) = .agg #[.int .i64 T1.k, .bool T1.b, .int .i64 T1.n, .string T1.s, .slice A2.pa T1.m A2.pc, .slice A2.na T1.q A2.nc] := e2
      have f2 := B.ev e2
      obtain ⟨A4, e4, hA4⟩ := show LyV T2 (a.eval (.tmp 10)) W from hk 4 (B.mem_of (by kernel_rfl))
      replace e4 : a.eval (.tmp 10) = .agg #[.int .i64 T2.k, .bool T2.b, .int .i64 T2.n, .string T2.s, .slice A4.pa T2.m A4.pc, .slice A4.na T2.q A4.nc] := e4
      have f4 := B.ev e4
      clear hk
      refine ⟨_, rfl, rfl, Or.inl ⟨B.wanted_none rfl, B.wpIn_value (v := .agg #[.string ⟨#[116]⟩, .bool false, .int .i64 T1.k, .bool T1.b, .int .i64 T1.n, .string T1.s, .slice A2.pa T1.m A2.pc, .slice A2.na T1.q A2.nc, .int .i64 T2.k, .bool T2.b, .int .i64 T2.n, .string T2.s, .slice A4.pa T2.m A4.pc, .slice A4.na T2.q A4.nc, .bool true, .bool true]) (w' := W) ?_ ⟨_, rfl, Below.refl _ _, A2, A4, rfl, hA2, hA4⟩⟩⟩
      go_simp
    · clear hiq
      have e0 : a.eval (.tmp 6) = .agg #[.string ⟨#[116]⟩, .string ⟨#[97]⟩, .string K, .string M] := hk 0 (B.mem_of (by kernel_rfl))
      have f0 := B.ev e0
      obtain ⟨A5, C5, e5, hA5, hC5⟩ := show LyT T1 T2 true true (a.eval (.tmp 11)) W from hk 5 (B.mem_of (by kernel_rfl))
      replace e5 : a.eval (.tmp 11) = .agg #[.string ⟨#[116]⟩, .bool false, .int .i64 T1.k, .bool T1.b, .int .i64 T1.n, .string T1.s, .slice A5.pa T1.m A5.pc, .slice A5.na T1.q A5.nc, .int .i64 T2.k, .bool T2.b, .int .i64 T2.n, .string T2.s, .slice C5.pa T2.m C5.pc, .slice C5.na T2.q C5.nc, .bool true, .bool true] := e5
      have f5 := B.ev e5
      clear hk
      refine ⟨_, rfl, rfl, Or.inl ⟨B.wanted_none rfl, B.wpIn_enter (f := 9) (args := #[.agg #[.string ⟨#[116]⟩, .string ⟨#[97]⟩, .string K, .string M], .agg #[.string ⟨#[116]⟩, .bool false, .int .i64 T1.k, .bool T1.b, .int .i64 T1.n, .string T1.s, .slice A5.pa T1.m A5.pc, .slice A5.na T1.q A5.nc, .int .i64 T2.k, .bool T2.b, .int .i64 T2.n, .string T2.s, .slice C5.pa T2.m C5.pc, .slice C5.na T2.q C5.nc, .bool true, .bool true]]) ?_ ((kh1 W A5 C5 hb hA5 hC5).mono ?_)⟩⟩
      · go_simp
      · rintro e w2 ⟨rfl, hb2⟩
        exact ⟨_, rfl, _, rfl, hb2, rfl⟩
    · clear hiq
      have e6 : a.eval (.tmp 12) = .bool true := hk 6 (B.mem_of (by kernel_rfl))
      have f6 := B.ev e6
      clear hk
      refine ⟨_, rfl, rfl, Or.inl ⟨B.wanted_none rfl, B.wpIn_value (v := .bool true) (w' := W) ?_ ⟨_, rfl, Below.refl _ _, rfl⟩⟩⟩
      go_simp
    · clear hiq
      have e7 : a.eval (.tmp 13) = .bool true := hk 7 (B.mem_of (by kernel_rfl))
      have f7 := B.ev e7
      have hc0 := cell_of_row W z 0 _ _ _ hx2
      have hc1 := cell_of_row W z 1 _ _ _ hx2
      have hc2 := cell_of_row W z 2 _ _ _ hx2
      have hc3 := cell_of_row W z 3 _ _ _ hx2
      clear hk
      refine ⟨_, rfl, rfl, Or.inl ⟨B.wanted_of (k := 7) (b := true) rfl rfl e7, B.wpIn_value (v := .agg #[.string ⟨#[116]⟩, .string ⟨#[97]⟩, .string K, .string M]) (w' := W) ?_ ⟨_, rfl, Below.refl _ _, rfl⟩⟩⟩
      go_simp
    · clear hiq
      have e7 : a.eval (.tmp 13) = .bool true := hk 7 (B.mem_of (by kernel_rfl))
      have f7 := B.ev e7
      clear hk
      refine ⟨_, rfl, rfl, Or.inl ⟨B.wanted_of (k := 7) (b := true) rfl rfl e7, B.wpIn_value (v := .func (.func 23) #[] #[]) (w' := W) ?_ ⟨_, rfl, Below.refl _ _, rfl⟩⟩⟩
      go_simp
    · clear hiq
      have e7 : a.eval (.tmp 13) = .bool true := hk 7 (B.mem_of (by kernel_rfl))
      have f7 := B.ev e7
      have e9 : a.eval (.tmp 15) = .func (.func 23) #[] #[] := hk 9 (B.mem_of (by kernel_rfl))
      have f9 := B.ev e9
      clear hk
      refine ⟨_, rfl, rfl, Or.inl ⟨B.wanted_of (k := 7) (b := true) rfl rfl e7, B.wpIn_enter (f := 23) (args := #[.int .i64 2]) ?_ ((kd2 W).mono ?_)⟩⟩
      · go_simp
      · rintro e w2 ⟨⟨u, rfl, hu⟩, hb2⟩
        exact ⟨_, rfl, _, rfl, hb2, hu⟩
    · clear hiq
      have e7 : a.eval (.tmp 13) = .bool true := hk 7 (B.mem_of (by kernel_rfl))
      have f7 := B.ev e7
      obtain ⟨A10, e10, hA10⟩ := show LyV T2 (a.eval (.tmp 16)) W from hk 10 (B.mem_of (by kernel_rfl))
      replace e10 : a.eval (.tmp 16) = .agg #[.int .i64 T2.k, .bool T2.b, .int .i64 T2.n, .string T2.s, .slice A10.pa T2.m A10.pc, .slice A10.na T2.q A10.nc] := e10
      have f10 := B.ev e10
      clear hk
      refine ⟨_, rfl, rfl, Or.inl ⟨B.wanted_of (k := 7) (b := true) rfl rfl e7, B.wpIn_value (v := .agg #[.string ⟨#[116]⟩, .bool false, .int .i64 0, .bool false, .int .i64 0, .string ⟨#[]⟩, .slice none 0 0, .slice none 0 0, .int .i64 T2.k, .bool T2.b, .int .i64 T2.n, .string T2.s, .slice A10.pa T2.m A10.pc, .slice A10.na T2.q A10.nc, .bool false, .bool true]) (w' := W) ?_ ⟨_, rfl, Below.refl _ _, A10, rfl, hA10⟩⟩⟩
      go_simp
    · clear hiq
      have e7 : a.eval (.tmp 13) = .bool true := hk 7 (B.mem_of (by kernel_rfl))
      have f7 := B.ev e7
      have e8 : a.eval (.tmp 14) = .agg #[.string ⟨#[116]⟩, .string ⟨#[97]⟩, .string K, .string M] := hk 8 (B.mem_of (by kernel_rfl))
      have f8 := B.ev e8
      obtain ⟨C11, e11, hC11⟩ := show LyN T2 (a.eval (.tmp 17)) W from hk 11 (B.mem_of (by kernel_rfl))
      replace e11 : a.eval (.tmp 17) = .agg #[.string ⟨#[116]⟩, .bool false, .int .i64 0, .bool false, .int .i64 0, .string ⟨#[]⟩, .slice none 0 0, .slice none 0 0, .int .i64 T2.k, .bool T2.b, .int .i64 T2.n, .string T2.s, .slice C11.pa T2.m C11.pc, .slice C11.na T2.q C11.nc, .bool false, .bool true] := e11
      have f11 := B.ev e11
      clear hk
      refine ⟨_, rfl, rfl, Or.inl ⟨B.wanted_of (k := 7) (b := true) rfl rfl e7, B.wpIn_enter (f := 9) (args := #[.agg #[.string ⟨#[116]⟩, .string ⟨#[97]⟩, .string K, .string M], .agg #[.string ⟨#[116]⟩, .bool false, .int .i64 0, .bool false, .int .i64 0, .string ⟨#[]⟩, .slice none 0 0, .slice none 0 0, .int .i64 T2.k, .bool T2.b, .int .i64 T2.n, .string T2.s, .slice C11.pa T2.m C11.pc, .slice C11.na T2.q C11.nc, .bool false, .bool true]]) ?_ ((kh2 W C11 hb hC11).mono ?_)⟩⟩
      · go_simp
      · rintro e w2 ⟨rfl, hb2⟩
        exact ⟨_, rfl, _, rfl, hb2, rfl⟩
    · clear hiq
      have e7 : a.eval (.tmp 13) = .bool true := hk 7 (B.mem_of (by kernel_rfl))
      have f7 := B.ev e7
      have e12 : a.eval (.tmp 18) = .bool false := hk 12 (B.mem_of (by kernel_rfl))
      have f12 := B.ev e12
      clear hk
      refine ⟨_, rfl, rfl, Or.inl ⟨B.wanted_of (k := 7) (b := true) rfl rfl e7, B.wpIn_value (v := .bool true) (w' := W) ?_ ⟨_, rfl, Below.refl _ _, rfl⟩⟩⟩
      go_simp
    · clear hiq
      have e7 : a.eval (.tmp 13) = .bool true := hk 7 (B.mem_of (by kernel_rfl))
      have f7 := B.ev e7
      have e13 : a.eval (.tmp 19) = .bool true := hk 13 (B.mem_of (by kernel_rfl))
      have f13 := B.ev e13
      clear hk
      refine ⟨_, rfl, rfl, Or.inl ⟨B.wanted_none rfl, B.wpIn_value (v := .bool true) (w' := W) ?_ ⟨_, rfl, Below.refl _ _, rfl⟩⟩⟩
      go_simp
    · clear hiq
      have e14 : a.eval (.tmp 20) = .bool true := hk 14 (B.mem_of (by kernel_rfl))
      have f14 := B.ev e14
      clear hk
      refine ⟨_, rfl, rfl, Or.inl ⟨B.wanted_none rfl, B.wpIn_value (v := .bool true) (w' := W) ?_ ⟨_, rfl, Below.refl _ _, rfl⟩⟩⟩
      go_simp
    · clear hiq
      have e15 : a.eval (.tmp 21) = .bool true := hk 15 (B.mem_of (by kernel_rfl))
      have f15 := B.ev e15
      clear hk
      refine ⟨_, rfl, rfl, Or.inl ⟨B.wanted_of (k := 15) (b := true) rfl rfl e15, B.wpIn_enter (f := 20) (args := #[.string ⟨#[116]⟩]) ?_ ((kw W).mono ?_)⟩⟩
      · go_simp
      · rintro e w2 ⟨rfl, hb2⟩
        exact ⟨_, rfl, _, rfl, hb2, rfl⟩
    · clear hiq
      have e15 : a.eval (.tmp 21) = .bool true := hk 15 (B.mem_of (by kernel_rfl))
      have f15 := B.ev e15
      clear hk
      refine ⟨_, rfl, rfl, Or.inl ⟨B.wanted_of (k := 15) (b := true) rfl rfl e15, B.wpIn_value (v := .func (.func 23) #[] #[]) (w' := W) ?_ ⟨_, rfl, Below.refl _ _, rfl⟩⟩⟩
      go_simp
    · clear hiq
      have e15 : a.eval (.tmp 21) = .bool true := hk 15 (B.mem_of (by kernel_rfl))
      have f15 := B.ev e15
      have e17 : a.eval (.tmp 23) = .func (.func 23) #[] #[] := hk 17 (B.mem_of (by kernel_rfl))
      have f17 := B.ev e17
      clear hk
      refine ⟨_, rfl, rfl, Or.inl ⟨B.wanted_of (k := 15) (b := true) rfl rfl e15, B.wpIn_enter (f := 23) (args := #[.int .i64 2]) ?_ ((kd2 W).mono ?_)⟩⟩
      · go_simp
      · rintro e w2 ⟨⟨u, rfl, hu⟩, hb2⟩
        exact ⟨_, rfl, _, rfl, hb2, hu⟩
    · clear hiq
      have e15 : a.eval (.tmp 21) = .bool true := hk 15 (B.mem_of (by kernel_rfl))
      have f15 := B.ev e15
      obtain ⟨A18, e18, hA18⟩ := show LyV T2 (a.eval (.tmp 24)) W from hk 18 (B.mem_of (by kernel_rfl))
      replace e18 : a.eval (.tmp 24) = .agg #[.int .i64 T2.k, .bool T2.b, .int .i64 T2.n, .string T2.s, .slice A18.pa T2.m A18.pc, .slice A18.na T2.q A18.nc] := e18
      have f18 := B.ev e18
      clear hk
      refine ⟨_, rfl, rfl, Or.inl ⟨B.wanted_of (k := 15) (b := true) rfl rfl e15, B.wpIn_value (v := .agg #[.string ⟨#[116]⟩, .bool false, .int .i64 0, .bool false, .int .i64 0, .string ⟨#[]⟩, .slice none 0 0, .slice none 0 0, .int .i64 T2.k, .bool T2.b, .int .i64 T2.n, .string T2.s, .slice A18.pa T2.m A18.pc, .slice A18.na T2.q A18.nc, .bool false, .bool true]) (w' := W) ?_ ⟨_, rfl, Below.refl _ _, A18, rfl, hA18⟩⟩⟩
      go_simp
    · clear hiq
      have e15 : a.eval (.tmp 21) = .bool true := hk 15 (B.mem_of (by kernel_rfl))
      have f15 := B.ev e15
      have e16 : a.eval (.tmp 22) = .agg #[.string ⟨#[116]⟩, .string ⟨#[]⟩, .string ⟨#[]⟩, .string ⟨#[]⟩] := hk 16 (B.mem_of (by kernel_rfl))
      have f16 := B.ev e16
      obtain ⟨C19, e19, hC19⟩ := show LyN T2 (a.eval (.tmp 25)) W from hk 19 (B.mem_of (by kernel_rfl))
      replace e19 : a.eval (.tmp 25) = .agg #[.string ⟨#[116]⟩, .bool false, .int .i64 0, .bool false, .int .i64 0, .string ⟨#[]⟩, .slice none 0 0, .slice none 0 0, .int .i64 T2.k, .bool T2.b, .int .i64 T2.n, .string T2.s, .slice C19.pa T2.m C19.pc, .slice C19.na T2.q C19.nc, .bool false, .bool true] := e19
      have f19 := B.ev e19
      clear hk
      refine ⟨_, rfl, rfl, Or.inl ⟨B.wanted_of (k := 15) (b := true) rfl rfl e15, B.wpIn_enter (f := 9) (args := #[.agg #[.string ⟨#[116]⟩, .string ⟨#[]⟩, .string ⟨#[]⟩, .string ⟨#[]⟩], .agg #[.string ⟨#[116]⟩, .bool false, .int .i64 0, .bool false, .int .i64 0, .string ⟨#[]⟩, .slice none 0 0, .slice none 0 0, .int .i64 T2.k, .bool T2.b, .int .i64 T2.n, .string T2.s, .slice C19.pa T2.m C19.pc, .slice C19.na T2.q C19.nc, .bool false, .bool true]]) ?_ ((kh3 W C19 hb hC19).mono ?_)⟩⟩
      · go_simp
      · rintro e w2 ⟨rfl, hb2⟩
        exact ⟨_, rfl, _, rfl, hb2, rfl⟩
    · clear hiq
      have e15 : a.eval (.tmp 21) = .bool true := hk 15 (B.mem_of (by kernel_rfl))
      have f15 := B.ev e15
      have e20 : a.eval (.tmp 26) = .bool true := hk 20 (B.mem_of (by kernel_rfl))
      have f20 := B.ev e20
      clear hk
      refine ⟨_, rfl, rfl, Or.inl ⟨B.wanted_none rfl, B.wpIn_value (v := .bool true) (w' := W) ?_ ⟨_, rfl, Below.refl _ _, rfl⟩⟩⟩
      go_simp
  case post =>
    intro V1 W hbW hV
    have v21 : V1 21 = .bool true := hV 21 (by omega)
    clear hV kh1 kh2 kh3 kd1 kd2 kw
    have hBW : Below w.heap.size w W := hbw4.trans (hbW.mono hbw4.size)
    simp only [B.putAll, Nat.reduceAdd]
    rw [v21]
    simp only [Act.put, List.setIfInBounds_toArray, List.set_cons_zero, List.set_cons_succ]
    change wpListIn _ _ _ _ _ [_] _ _
    gi_wp2
    go_wp2
    go_ret
    exact ⟨rfl, hBW⟩
end Go.Proofs.YtfcenidepkjdcaaDoor
