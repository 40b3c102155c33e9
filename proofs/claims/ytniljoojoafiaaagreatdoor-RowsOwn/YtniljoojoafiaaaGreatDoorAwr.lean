/- The laws' awake: a document is found by its field. -/
import Derived.Test.YtniljoojoafiaaaGreatDoorXaw
import Derived.Test.YtniljoojoafiaaaGreatDoorVStr
import Derived.Test.YtniljoojoafiaaaGreatDoorXan
namespace Go.Proofs.YtniljoojoafiaaaGreatDoor
open Go.RowKit Go.Shelf
attribute [local go_sem] Oper.semAt_some
set_option maxRecDepth 100000 in
theorem len_one {w : World} (b m : Nat) (kl : Lit) (u x y : Value) (hr : w.heap[b]? = some (.cells #[.map (some m), x, y] 75 (0, 0))) (hm : M1 31 w m kl u) :
    Calls Tryz.prog 26 #[.pointer (some ⟨b, 0, none⟩)] w fun e w' => e = .returned (.int .i64 1) ∧ w' = w := by
  have c0 := cell_of_row w _ 0 _ _ _ hr
  have hlen : ∀ ty, (Builtin.len_ #[72] ty #[.map (some m)]).run Tryz.prog w = .ok (.int .i64 1) w := fun ty => hm.len Tryz.underlying72 ty
  go_enter Tryz.func26, Tryz.ntmps26
  go_wp2
  go_ret
  exact ⟨rfl, rfl⟩
def aB : ByteArray := ⟨#[97]⟩
def aT (n : Int) : V.Tr := V.structT (fun _ => aB) (fun _ => V.leafT 2 false n ⟨#[]⟩) (V.osF (fun _ => aB) 0) 1
theorem aT_check : V.checkT (aT 1) = 0 := by decide +kernel
theorem aT_small (n : Int) : V.small (aT n) := ⟨by decide, fun _ _ => ⟨by decide, fun i hi => absurd hi (Nat.not_lt_zero i)⟩⟩
theorem leaf_slim (k n : Int) (b : Bool) (s : ByteArray) : V.slimq (V.leafT k b n s) := ⟨by omega, by omega, fun i hi => absurd hi (Nat.not_lt_zero i)⟩
theorem less_nil (l : List UInt8) : Op.bytesLess l [] = false := by cases l <;> rfl
theorem sp_all (x : B.Im) : B.spanL [x] ⟨#[]⟩ ⟨#[]⟩ (B.posK [x] ⟨#[]⟩) = [x] := by
  have e : (⟨#[]⟩ : ByteArray).toList = [] := by decide +kernel
  have h1 : B.ltB x.1 ⟨#[]⟩ = false := by unfold B.ltB; rw [e]; exact less_nil _
  have h2 : B.posK [x] ⟨#[]⟩ = 0 := by simp [B.posK, h1]
  have h3 : B.hasB ⟨#[]⟩ ⟨#[]⟩ x.1 = true := B.hasB_open (by rw [e]; exact less_nil _) (by rw [e]; rfl)
  rw [h2]
  simp [B.spanL, h3]
/- A struct with one number, made of lists of its own. -/
set_option maxRecDepth 100000 in
theorem struct_one {w : World} (nb pb : Nat) (n : Int) (hn : w.heap[nb]? = some (.cells #[.string aB] 9 (0, 0))) (hp : w.heap[pb]? = some (.cells #[.int .i64 2, .bool false, .int .i64 n, .string ⟨#[]⟩, .slice none 0 0, .slice none 0 0] 34 (0, 0))) (hn1 : -9223372036854775808 ≤ n ∧ n < 9223372036854775808) :
    Calls Tryz.prog 14 #[.slice (some ⟨nb, 0, none⟩) 1 1, .slice (some ⟨pb, 0, none⟩) 1 1] w fun e w' => ∃ A', e = .returned ((aT n).val A') ∧ V.LiesS (fun k => w.heap.size ≤ k ∧ k < w'.heap.size) w' (aT n) A' ∧ Below w.heap.size w w' := by
  refine V.struct_any (B := w.heap.size) (g := fun _ => aB) (f := fun _ => V.leafT 2 false n ⟨#[]⟩) (A := fun _ => ⟨none, 0, none, 0⟩) 0 (by omega) (by decide) (Nat.le_refl _) (lt_of_row hn) (fun i hi => ?_) (fun i _ => by decide) (lt_of_row hp) (fun i hi => ?_) (fun i hi => ?_) (fun i hi => leaf_slim _ _ _ _)
  · obtain rfl : i = 0 := by omega
    exact cell_of_row w nb 0 _ _ _ hn
  · obtain rfl : i = 0 := by omega
    exact ⟨cell_of_row w pb 0 _ _ _ hp, cell_of_row w pb 1 _ _ _ hp, cell_of_row w pb 2 _ _ _ hp, cell_of_row w pb 3 _ _ _ hp, cell_of_row w pb 4 _ _ _ hp, cell_of_row w pb 5 _ _ _ hp⟩
  · refine .mk (fun _ => ⟨none, 0, none, 0⟩) ⟨by omega, by omega⟩ hn1 (by decide) ⟨Nat.le_refl _, Nat.zero_le _⟩ (fun h => absurd h (by omega)) (fun i hi => absurd hi (Nat.not_lt_zero i)) ⟨Nat.le_refl _, Nat.zero_le _, fun i hi => absurd hi (Nat.not_lt_zero i), fun h => absurd h (by omega)⟩
set_option maxRecDepth 100000 in
set_option maxHeartbeats 8000000 in
theorem awake_any (w : World) (hg : V.Gm w) : Calls Tryz.prog 21 #[] w fun e w' => e = .returned (.bool true) ∧ Below w.heap.size w w' := by
  have kn := new_table w
  refine (callsIn_wide (n := 0)).1 ?_
  refine callsIn_of_wp_marks Tryz.func21 rfl trivial ?_ rfl
  simp only [Tryz.ntmps21, List.size_toArray, List.length_nil, Nat.reduceSub, Array.replicate_succ, Array.replicate_zero, List.push_toArray, List.append_toArray, List.nil_append, List.cons_append]
  gi_wp2_with fail
  refine ⟨trivial, rfl, (callsIn_wide.2 kn).mono ?_⟩
  rintro e w1 ⟨rfl, r1, hb1⟩
  obtain ⟨w2, hw2⟩ : ∃ w2, w1.alloc (.cells #[.string aB] 9) = w2 := ⟨_, rfl⟩
  have hb2 : Below w1.heap.size w1 w2 := by rw [← hw2]; exact (Below.refl _ w1).alloc (Nat.le_refl _) _
  have a2 : w2.heap[w1.heap.size]? = some (.cells #[.string aB] 9 (0, 0)) := by rw [← hw2]; exact heap_alloc_new _ _
  have HX : Hid (w1.alloc (.cells #[.string ⟨#[97]⟩] 9) = w2) := hw2
  have kv : Calls Tryz.prog 22 #[.int .i64 1] w2 fun r w' => r = .returned (.agg #[.int .i64 2, .bool false, .int .i64 1, .string ⟨#[]⟩, .slice none 0 0, .slice none 0 0]) ∧ Below w2.heap.size w2 w' := V.vint 1 w2
  clear hw2
  gi_wp2_with (first | rw [HX.out] | fail)
  refine ⟨trivial, rfl, (callsIn_wide.2 kv).mono ?_⟩
  rintro e w3 ⟨rfl, hb3⟩
  obtain ⟨w4, hw4⟩ : ∃ w4, w3.alloc (.cells #[.int .i64 2, .bool false, .int .i64 1, .string ⟨#[]⟩, .slice none 0 0, .slice none 0 0] 34) = w4 := ⟨_, rfl⟩
  have hb4 : Below w3.heap.size w3 w4 := by rw [← hw4]; exact (Below.refl _ w3).alloc (Nat.le_refl _) _
  have p4 : w4.heap[w3.heap.size]? = some (.cells #[.int .i64 2, .bool false, .int .i64 1, .string ⟨#[]⟩, .slice none 0 0, .slice none 0 0] 34 (0, 0)) := by rw [← hw4]; exact heap_alloc_new _ _
  have hb14 : Below w1.heap.size w1 w4 := (hb2.trans (hb3.mono hb2.size)).trans (hb4.mono (Nat.le_trans hb2.size hb3.size))
  have a4 := (hb4.block _ (by have := lt_of_row a2; have := hb3.size; omega)).trans ((hb3.block _ (lt_of_row a2)).trans a2)
  have kst := struct_one w1.heap.size w3.heap.size 1 a4 p4 ⟨by omega, by omega⟩
  have HX4 : Hid (w3.alloc (.cells #[.int .i64 2, .bool false, .int .i64 1, .string ⟨#[]⟩, .slice none 0 0, .slice none 0 0] 34) = w4) := hw4
  clear hw4
  gi_wp2_with (first | rw [HX4.out] | fail)
  refine ⟨trivial, rfl, (callsIn_wide.2 kst).mono ?_⟩
  rintro e w5 ⟨A5, rfl, L5, hb5⟩
  have hb15 : Below w1.heap.size w1 w5 := hb14.trans (hb5.mono hb14.size)
  have r5 := (hb15.block _ (lt_of_row r1)).trans r1
  have lt1 := lt_of_row r1
  have sz14 := hb14.size
  have sz15 := hb15.size
  have kput := put_new w.heap.size 3 0 (aT 1) A5 r5 ⟨by omega, by omega⟩ (V.LiesS.up (fun k hk => ⟨hk.2, by omega⟩) L5) (check_slim _ 1 (V.check_zero aT_check).1)
  have kput2 : Calls Tryz.prog 13 #[.pointer (some ⟨w.heap.size, 0, none⟩), .agg #[.int .u64 3, .int .u64 0, .int .i64 (aT 1).k, .bool (aT 1).b, .int .i64 (aT 1).n, .string (aT 1).s, .slice A5.pa (aT 1).m A5.pc, .slice A5.na (aT 1).q A5.nc]] w5 _ := kput
  clear kput
  unfold V.Tr.val
  gi_wp2_with fail
  refine ⟨trivial, rfl, (callsIn_wide.2 kput2).mono ?_⟩
  rintro e w6 ⟨rfl, m, A, r6, m6, hm6, L6, o6⟩
  have hB1 : Below w.heap.size w w1 := hb1
  have hB5 : Below w.heap.size w w5 := hb1.trans (hb15.mono hb1.size)
  have hB6 : Below w.heap.size w w6 := hB5.trans (o6.below (Nat.le_refl _) hB5.size)
  obtain ⟨w7, hw7⟩ : ∃ w7, w6.alloc (.cells #[.int .i64 0] 3) = w7 := ⟨_, rfl⟩
  have hb7 : Below w6.heap.size w6 w7 := by rw [← hw7]; exact (Below.refl _ w6).alloc (Nat.le_refl _) _
  have n7 : w7.heap[w6.heap.size]? = some (.cells #[.int .i64 0] 3 (0, 0)) := by rw [← hw7]; exact heap_alloc_new _ _
  have hB7 : Below w.heap.size w w7 := hB6.trans (hb7.mono hB6.size)
  have r7 := (hb7.block _ (lt_of_row r6)).trans r6
  have m7 := m6.later hb7
  have L7 := lies_later (lies_lt L6) hb7
  have ka := addIndex_one w.heap.size m 3 0 (aT 1) A _ aB (by decide) (by omega) r7 m7 L7 aT_check (aT_small 1) (hg.later hB7 hg.pos)
  have HX7 : Hid (w6.alloc (.cells #[.int .i64 0] 3) = w7) := hw7
  have sz7 := hb7.size
  have sz6 := o6.size
  clear hw7 kput2 kst kv kn
  gi_wp2_with fail
  rw [HX7.out]
  refine ⟨trivial, rfl, (callsIn_wide.2 ka).mono ?_⟩
  rintro e w8 ⟨rfl, x, tr, hx8, ht8, r8, x8, T8, o8⟩
  have hB8 : Below w.heap.size w w8 := hB7.trans (o8.below (Nat.le_refl _) hB7.size)
  have ltn := lt_of_row n7
  have n8 := (o8.block _ ltn (by omega)).trans n7
  have m8 : M1 31 w8 m (.int .u64 3) (.agg (rwA 3 0 (aT 1) A)) := m7.same (o8.block _ m7.lt (by omega))
  have L8 := lies_keep L7 (w' := w8) (fun k hk hlt => o8.block k hlt (by omega))
  have kb := addIndex_again w.heap.size x tr aB (by decide) (some m) r8 x8
  gi_wp2_with fail
  refine ⟨trivial, rfl, (callsIn_wide.2 kb).mono ?_⟩
  rintro e w9 ⟨rfl, hb9⟩
  have hB9 : Below w.heap.size w w9 := hB8.trans (hb9.mono hB8.size)
  have r9 := (hb9.block _ (lt_of_row r8)).trans r8
  have n9 := (hb9.block _ (lt_of_row n8)).trans n8
  have m9 := m8.later hb9
  have L9 := lies_later L8 hb9
  have kr := rrange_one w.heap.size m 3 x tr 0 (aT 1) (getT (aT 1) aB) A aB ⟨#[]⟩ ⟨#[]⟩ (by decide) (by omega) r9 m9 (x8.later hb9) (T8.later hb9) (get_check _ _ aT_check) (sp_all _)
  clear ka kb
  gi_wp2_with fail
  refine ⟨trivial, rfl, (callsIn_wide.2 kr).mono ?_⟩
  rintro e w10 ⟨⟨g, l, rfl, hg1, hl1, rg, rl⟩, hb10⟩
  have hB10 : Below w.heap.size w w10 := hB9.trans (hb10.mono hB9.size)
  have r10 := (hb10.block _ (lt_of_row r9)).trans r9
  have n10 := (hb10.block _ (lt_of_row n9)).trans n9
  have m10 := m9.later hb10
  have L10 := lies_later L9 hb10
  have hsq := these_seq g l 3 0 (aT 1) A _ rg rl L10 (check_slim _ 1 (V.check_zero aT_check).1)
  gi_wp2
  have szA := hb10.size
  have szB := hb9.size
  have szC := o8.size
  have lt10 := lt_of_row n10
  have ltm := m6.lt
  refine range_v (gf := 67) (lb := #[.pointer (some ⟨g, 0, none⟩)]) rfl (enters_of Tryz.func67 (by kernel_rfl) rfl) hsq (fun D x ar U h => by obtain ⟨A', h, _⟩ := h; rw [h]; rfl)
    (fun D x ar U U' h hk => by obtain ⟨A', h1, h2⟩ := h; exact ⟨A', h1, lies_keep h2 (fun k hk2 hlt => hk.block k hlt hk2)⟩) (fun k => k = w6.heap.size)
    (fun k hk => by
      rcases hk with rfl | rfl | ⟨⟨⟨hk, _⟩, hk3⟩, hk2⟩
      · exact ⟨lt_of_row rg, by omega⟩
      · exact ⟨lt_of_row rl, by omega⟩
      · exact ⟨hk2, by omega⟩) (fun k hk => by omega)
    (fun pre U => ∃ n : Int, U.heap[w6.heap.size]? = some (.cells #[.int .i64 n] 3 (0, 0)) ∧ (pre = [] → n = 0) ∧ (pre = [3] → n = 3))
    (fun _ _ _ => False)
    (fun s U U' h hb => by obtain ⟨n, h1, h2⟩ := h; exact ⟨n, hb.row h1, h2⟩)
    (fun _ _ _ _ h _ => h) ⟨0, n10, fun _ => rfl, fun h => by cases h⟩
    (fun ar a' U => ∃ nb cs, ar = #[.agg cs] ∧ a' = { tmps := #[.bool false, .pointer (some ⟨w.heap.size, 0, none⟩), .pointer (some ⟨w6.heap.size, 0, none⟩), .pointer (some ⟨nb, 0, none⟩), .pointer (some ⟨w.heap.size, 0, none⟩), .pointer (some ⟨w.heap.size, 0, none⟩), .slice (some ⟨w1.heap.size, 0, none⟩) 1 1, .agg #[.int .i64 2, .bool false, .int .i64 1, .string ⟨#[]⟩, .slice none 0 0, .slice none 0 0], .slice (some ⟨w3.heap.size, 0, none⟩) 1 1, .agg #[.int .i64 (aT 1).k, .bool (aT 1).b, .int .i64 (aT 1).n, .string (aT 1).s, .slice A5.pa (aT 1).m A5.pc, .slice A5.na (aT 1).q A5.nc], .agg #[.int .u64 3, .int .u64 0, .int .i64 (aT 1).k, .bool (aT 1).b, .int .i64 (aT 1).n, .string (aT 1).s, .slice A5.pa (aT 1).m A5.pc, .slice A5.na (aT 1).q A5.nc], .tuple #[], .pointer (some ⟨w.heap.size, 0, none⟩), .bool true, .bool false, .bool false, .pointer (some ⟨w.heap.size, 0, none⟩), .bool false, .bool false, .pointer (some ⟨w.heap.size, 0, none⟩), .agg #[.string ⟨#[]⟩, .string ⟨#[]⟩], .func (.func 67) #[] #[.pointer (some ⟨g, 0, none⟩)], .agg cs, undef, undef, undef, undef, undef, undef, undef, undef, undef, undef, undef, undef], defers := [] } ∧ U.heap[nb]? = some (.cells cs 45 (0, 0)))
    (fun ar a' U U' h hb => by obtain ⟨nb, cs, h1, h2, h3⟩ := h; exact ⟨nb, cs, h1, h2, hb.row h3⟩) ?assign ?body ?done ?stop
  case assign =>
    rintro ly D y ar U KK ⟨A', rfl, -⟩ hK
    unfold rwA at hK ⊢
    gi_wp2
    exact hK _ _ ⟨U.heap.size, _, rfl, rfl, heap_alloc_new _ _⟩ ((Below.refl _ U).alloc (Nat.le_refl _) _)
  case body =>
    rintro ly D pre y ar a' U hCD ⟨A', rfl, hA'⟩ ⟨nb, cs, hcs, rfl, rn⟩ ⟨n, h1, h2, h3⟩ hp hsz
    obtain ⟨rfl, rfl⟩ := pfx_one hp
    injection hcs with hcs
    injection hcs with hcs
    injection hcs with hcs
    subst hcs
    obtain rfl := h2 rfl
    have c0 : U.cell? ⟨nb, 0, none⟩ = some (.int .u64 3) := cell_of_row U nb 0 _ _ _ rn
    have c1 := cell_of_row U _ 0 _ _ _ h1
    have f1 := frozen_of_row U _ 0 _ _ h1
    dsimp only
    gi_wp2
    exact ⟨B.KC.setCell (C := fun k => k = w6.heap.size) (B.KC.of (Below.refl _ U)) (b := w6.heap.size) (o := 0) rfl _, 3, heap_setCell_same U _ 0 _ _ _ h1, (fun h => by cases h), fun _ => rfl⟩
  case done =>
    rintro U ⟨n, h1, h2, h3⟩ hkc hD
    obtain rfl := h3 rfl
    have c1 := cell_of_row U _ 0 _ _ _ h1
    have szU := hkc.size
    have ltD := (Array.getElem?_eq_some_iff.1 hD).1
    have l10 := lt_of_row r10
    have kl := len_one w.heap.size m _ _ _ _ ((hkc.block _ l10 (by omega)).trans r10) (m10.same (hkc.block _ m10.lt (by omega)))
    have HD : Hid (U.heap[w10.heap.size]? = some (.deferred (some []))) := hD
    have hBU : Below w.heap.size w U := ⟨hkc.os.trans hB10.os, hkc.tape.trans hB10.tape, hkc.output.trans hB10.output, Nat.le_trans hB10.size hkc.size, fun k hk => (hkc.block k (by omega) (by omega)).trans (hB10.block k hk)⟩
    clear hD
    gi_wp2_with fail
    refine ⟨trivial, rfl, (callsIn_wide.2 kl).mono ?_⟩
    rintro e U2 ⟨rfl, rfl⟩
    gi_wp2
    refine ⟨by simp, .inl ⟨_, _, rfl, run_takeDeferred HD.out, ?_⟩⟩
    refine ⟨.bool true, by simp [results, Tryz.results21, go_sem], rfl, ?_⟩
    exact hBU.trans (B.putObj_below _ _ (by omega))
  case stop => exact fun _ _ _ _ h => h.elim
end Go.Proofs.YtniljoojoafiaaaGreatDoor
