/- The laws' drop: a list of pairs without a key. -/
import Derived.Test.YtiplmlalhmldbaaLpu
namespace Go.Proofs.Ytiplmlalhmldbaa
open Go.RowKit Go.Shelf
attribute [local go_sem] Oper.semAt_some
set_option maxRecDepth 100000 in
set_option maxHeartbeats 4000000 in
theorem ldrop_no (xs : List Im) (hr : Ris xs) (hn : xs.length ≤ 900) (key : ByteArray) (hno : isK xs key = false) (p : Option Addr) (c : Nat) (w : World) (hS : Sl w p xs.length c (itC xs)) :
    Calls Try.prog 9 #[.slice p xs.length c, .string key] w fun e w' => e = .returned (.tuple #[.slice p xs.length c, .bool false]) ∧ Below w.heap.size w w' := by
  have hfi := lfind_any xs hr (by omega) key p c w hS
  rw [hno] at hfi
  clear hno hr
  go_enter Try.func9, Try.ntmps9
  go_wp2_with fail
  refine hfi.mono ?_
  rintro e w1 ⟨rfl, hb1⟩
  go_wp2
  exact bodyPost_ret (results_tmp2 rfl _ _ _) rfl ⟨rfl, hb1⟩
set_option maxRecDepth 100000 in
set_option maxHeartbeats 4000000 in
theorem ldrop_yes (xs : List Im) (hr : Ris xs) (hn : xs.length ≤ 900) (key : ByteArray) (hyes : isK xs key = true) (p : Option Addr) (c : Nat) (w : World) (hS : Sl w p xs.length c (itC xs)) :
    Calls Try.prog 9 #[.slice p xs.length c, .string key] w fun e w' => ∃ q d, e = .returned (.tuple #[.slice q (delK xs key).length d, .bool true]) ∧ Sl w' q (delK xs key).length d (itC (delK xs key)) ∧ Below w.heap.size w w' := by
  have hfi := lfind_any xs hr (by omega) key p c w hS
  obtain ⟨hlt, -⟩ := isK_at hyes
  have hin : itC (delK xs key) = [] ++ (itC xs).take (posK xs key * 2) ++ (itC xs).drop ((posK xs key + 1) * 2) := by
    unfold delK
    rw [itC_app, itC_take, itC_drop, List.nil_append]
  rw [hyes] at hfi
  have hNx : 0 + posK xs key + (xs.length - (posK xs key + 1)) = (delK xs key).length := by unfold delK; simp; omega
  rw [hin, ← hNx]
  clear hin hNx
  generalize posK xs key = i0 at hfi hlt ⊢
  obtain ⟨j1, hj1⟩ : ∃ j1, i0 + 1 = j1 := ⟨_, rfl⟩
  rw [hj1]
  have HJ : Hid (i0 + 1 = j1) := hj1
  obtain ⟨LL, hLL⟩ : ∃ LL, [] ++ (itC xs).take (i0 * 2) ++ (itC xs).drop (j1 * 2) = LL := ⟨_, rfl⟩
  obtain ⟨NN, hNN⟩ : ∃ NN, 0 + i0 + (xs.length - j1) = NN := ⟨_, rfl⟩
  rw [hLL, hNN]
  have HL : Hid ([] ++ (itC xs).take (i0 * 2) ++ (itC xs).drop (j1 * 2) = LL) := hLL
  have HN : Hid (0 + i0 + (xs.length - j1) = NN) := hNN
  clear hLL hNN
  have hcap := hS.cap
  have hcm : (c : Int) ≤ 9223372036854775807 := by have := hcap.2; unfold maxLen at this; omega
  have hic : (i0 : Int) ≤ (c : Int) := by omega
  have hic2 : (j1 : Int) ≤ (xs.length : Int) := by omega
  have hic3 : (j1 : Int) ≤ (c : Int) := by omega
  have hjl : j1 ≤ xs.length := by omega
  clear hj1
  have hmx : maxLen = 9223372036854775807 := rfl
  clear hyes hr
  go_enter Try.func9, Try.ntmps9
  go_wp2_with fail
  refine hfi.mono ?_
  rintro e w1 ⟨rfl, hb1⟩
  have hS1 := hS.later hb1
  go_wp2_with fail
  obtain ⟨B, hBd⟩ : ∃ B, B = w1.heap.size := ⟨_, rfl⟩
  refine any_tail3 (by kernel_rfl) 10 (by exact Nat.le_of_ble_eq_true rfl) (fun i => i + 17) (RO B [(0, 0, []), (4, (0 + i0), ([] ++ (itC xs).take (i0 * 2))), (9, (0 + i0 + (xs.length - j1)), ([] ++ (itC xs).take (i0 * 2) ++ (itC xs).drop (j1 * 2)))] [undef, .slice p xs.length c, .int .i64 (i0 : Int), .slice p i0 c, undef, .slice p xs.length c, .int .i64 (i0 : Int), .int .i64 (j1 : Int), .slice (if c = j1 then p else Option.map (fun x => x.add (j1 * 2)) p) (xs.length - j1) (c - j1), undef]) (bxO [(0, 0, []), (4, (0 + i0), ([] ++ (itC xs).take (i0 * 2))), (9, (0 + i0 + (xs.length - j1)), ([] ++ (itC xs).take (i0 * 2) ++ (itC xs).drop (j1 * 2)))]) (fun j => if j = 4 then some 0 else if j = 9 then some 4 else none) (by kernel_rfl) (by kernel_rfl) (by kernel_rfl) (by kernel_rfl) (by kernel_rfl) (fun i u W W' row h1 h2 h3 _ _ => RO.r0 i u W W' row h1 h2 h3) (fun i u W W' row h1 h2 h3 h4 => RO.r1 i u W W' row h1 h2 h3 h4) ?step ?post
  case step =>
    intro iq hiq a W hrest hb hk
    have hp0 : a.eval (.tmp 0) = .slice p xs.length c := (hrest 0 (by intro iq2 hiq2; (repeat' split) <;> omega)).trans rfl
    have fp0 := ev hp0
    have hp6 : a.eval (.tmp 6) = .int .i64 (i0 : Int) := (hrest 6 (by intro iq2 hiq2; (repeat' split) <;> omega)).trans rfl
    have fp6 := ev hp6
    clear hrest
    have hBW : B ≤ W.heap.size := by have := hb.size; omega
    obtain rfl | rfl | rfl | rfl | rfl | rfl | rfl | rfl | rfl | rfl : iq = 0 ∨ iq = 1 ∨ iq = 2 ∨ iq = 3 ∨ iq = 4 ∨ iq = 5 ∨ iq = 6 ∨ iq = 7 ∨ iq = 8 ∨ iq = 9 := by omega
    · clear hiq
      clear hk
      refine ⟨_, rfl, rfl, rfl, wp_value (v := .slice (some ⟨W.heap.size, 0, none⟩) 0 0) (w' := W.alloc (.cells #[] 39)) ?_ ⟨_, none, rfl, World.grownBy_alloc _ _ _, (fun _ h => by cases h), (World.ownsRow_lit W #[] 0 hBW (by decide) rfl : (W.alloc (.cells #[] 39)).ownsRow B 39 2 (.slice (some ⟨W.heap.size, 0, none⟩) 0 0) 0 []), fun _ g hg => ?_⟩⟩
      · go_simp
      · have : g = W.heap.size := by simpa [Value.ownBlock] using hg.symm
        subst this
        exact ⟨lt_of_row (heap_alloc_new W _), Or.inl (Nat.le_refl _)⟩
    · clear hiq
      clear hk
      refine ⟨_, rfl, rfl, rfl, wp_value (v := .slice p xs.length c) (w' := W) ?_ ⟨_, none, rfl, World.grownBy.refl _ _, (fun _ h => by cases h), rfl, fun h => nomatch (show false = true from h)⟩⟩
      go_simp
    · clear hiq
      clear hk
      refine ⟨_, rfl, rfl, rfl, wp_value (v := .int .i64 (i0 : Int)) (w' := W) ?_ ⟨_, none, rfl, World.grownBy.refl _ _, (fun _ h => by cases h), rfl, fun h => nomatch (show false = true from h)⟩⟩
      go_simp
    · clear hiq
      have e1 : a.eval (.tmp 18) = .slice p xs.length c := hk 1 (mem_of (by kernel_rfl))
      have f1 := ev e1
      have e2 : a.eval (.tmp 19) = .int .i64 (i0 : Int) := hk 2 (mem_of (by kernel_rfl))
      have f2 := ev e2
      clear hk
      refine ⟨_, rfl, rfl, rfl, wp_value (v := .slice p i0 c) (w' := W) ?_ ⟨_, none, rfl, World.grownBy.refl _ _, (fun _ h => by cases h), rfl, fun h => nomatch (show false = true from h)⟩⟩
      go_simp
    · clear hiq
      have e0 : W.ownsRow B 39 2 (a.eval (.tmp 17)) 0 [] := hk 0 (mem_of (by kernel_rfl))
      have e3 : a.eval (.tmp 20) = .slice p i0 c := hk 3 (mem_of (by kernel_rfl))
      have f3 := ev e3
      clear hk
      obtain ⟨v', W', hr, ho, hg, hbk⟩ := app27 e0 hBW ((hS1.later hb).first (by omega : i0 ≤ xs.length)) (by omega)
      refine ⟨_, rfl, rfl, rfl, wp_app27 (.tmp 17) (.tmp 20) rfl rfl rfl e3 hr ⟨_, _, rfl, hg, fun g h => ⟨0, rfl, h⟩, ho, fun _ g h => ⟨own_blk ho g h, ?_⟩⟩⟩
      rcases hbk with hbk | hbk
      · exact Or.inr ⟨0, rfl, hbk.symm.trans h⟩
      · exact Or.inl (by rw [hbk] at h; cases h; exact Nat.le_refl _)
    · clear hiq
      clear hk
      refine ⟨_, rfl, rfl, rfl, wp_value (v := .slice p xs.length c) (w' := W) ?_ ⟨_, none, rfl, World.grownBy.refl _ _, (fun _ h => by cases h), rfl, fun h => nomatch (show false = true from h)⟩⟩
      go_simp
    · clear hiq
      clear hk
      refine ⟨_, rfl, rfl, rfl, wp_value (v := .int .i64 (i0 : Int)) (w' := W) ?_ ⟨_, none, rfl, World.grownBy.refl _ _, (fun _ h => by cases h), rfl, fun h => nomatch (show false = true from h)⟩⟩
      go_simp
    · clear hiq
      have e6 : a.eval (.tmp 23) = .int .i64 (i0 : Int) := hk 6 (mem_of (by kernel_rfl))
      have f6 := ev e6
      clear hk
      refine ⟨_, rfl, rfl, rfl, wp_value (v := .int .i64 (j1 : Int)) (w' := W) ?_ ⟨_, none, rfl, World.grownBy.refl _ _, (fun _ h => by cases h), rfl, fun h => nomatch (show false = true from h)⟩⟩
      go_simp
      rw [IntKind.wrap_i64]; have := HJ.out; omega
    · clear hiq
      have e5 : a.eval (.tmp 22) = .slice p xs.length c := hk 5 (mem_of (by kernel_rfl))
      have f5 := ev e5
      have e7 : a.eval (.tmp 24) = .int .i64 (j1 : Int) := hk 7 (mem_of (by kernel_rfl))
      have f7 := ev e7
      clear hk
      refine ⟨_, rfl, rfl, rfl, wp_value (v := .slice (if c = j1 then p else Option.map (fun x => x.add (j1 * 2)) p) (xs.length - j1) (c - j1)) (w' := W) ?_ ⟨_, none, rfl, World.grownBy.refl _ _, (fun _ h => by cases h), rfl, fun h => nomatch (show false = true from h)⟩⟩
      go_simp
    · clear hiq
      have e4 : W.ownsRow B 39 2 (a.eval (.tmp 21)) (0 + i0) ([] ++ (itC xs).take (i0 * 2)) := hk 4 (mem_of (by kernel_rfl))
      have e8 : a.eval (.tmp 25) = .slice (if c = j1 then p else Option.map (fun x => x.add (j1 * 2)) p) (xs.length - j1) (c - j1) := hk 8 (mem_of (by kernel_rfl))
      have f8 := ev e8
      clear hk
      obtain ⟨v', W', hr, ho, hg, hbk⟩ := app27 e4 hBW ((hS1.later hb).last (by omega : j1 ≤ xs.length)) (by omega)
      refine ⟨_, rfl, rfl, rfl, wp_app27 (.tmp 21) (.tmp 25) rfl rfl rfl e8 hr ⟨_, _, rfl, hg, fun g h => ⟨4, rfl, h⟩, ho, fun _ g h => ⟨own_blk ho g h, ?_⟩⟩⟩
      rcases hbk with hbk | hbk
      · exact Or.inr ⟨4, rfl, hbk.symm.trans h⟩
      · exact Or.inl (by rw [hbk] at h; cases h; exact Nat.le_refl _)
  case post =>
    intro V W hb hV
    have h9 : W.ownsRow B 39 2 (V 9) (0 + i0 + (xs.length - j1)) ([] ++ (itC xs).take (i0 * 2) ++ (itC xs).drop (j1 * 2)) := hV 9 (by decide) (by decide)
    have hone : ∀ u ∈ ([] ++ (itC xs).take (i0 * 2) ++ (itC xs).drop (j1 * 2) : List Value), u.oneCell' = true := by
      intro u hu
      simp only [List.nil_append, List.mem_append] at hu
      rcases hu with hu | hu
      · exact hS.one u (List.mem_of_mem_take hu)
      · exact hS.one u (List.mem_of_mem_drop hu)
    obtain ⟨q, d, hq, hSq⟩ := Sl.of_own h9 hone
    rw [HL.out, HN.out] at hSq
    rw [HN.out] at hq
    have hbz : Below w.heap.size w W := hb1.trans (hb.mono hb1.size)
    clear h9 hone hV hb
    simp only [putAll, hq]
    go_wp2
    exact bodyPost_ret (results_tmp2 rfl _ _ _) rfl ⟨_, _, rfl, hSq, hbz⟩
end Go.Proofs.Ytiplmlalhmldbaa
