/- AddIndex of a table with one document, and no index. -/
import Derived.Test.YtniljoojoafiaaaGreatDoorXat
import Derived.Test.YtniljoojoafiaaaGreatDoorXau
import Derived.Test.YtniljoojoafiaaaGreatDoorXav
namespace Go.Proofs.YtniljoojoafiaaaGreatDoor
open Go.RowKit Go.Shelf
attribute [local go_sem] Oper.semAt_some
theorem sl_kept0 {w w' : World} {p : Option Addr} {n c : Nat} {xs : List B.Im} (h : B.Sl w p n c (B.itC xs)) (hs : w.heap.size ≤ w'.heap.size) (hc : ∀ k o s, w.cell? ⟨k, o, none⟩ = some (.string s) → w'.heap[k]? = w.heap[k]?) : B.Sl w' p n c (B.itC xs) := by
  refine ⟨h.cap, h.len, h.one, fun h0 => ?_⟩
  obtain ⟨b, o, h1, h2, h3⟩ := h.lies h0
  have hl := h.len
  have hu : (B.itC xs)[0]? = some (B.itC xs)[0] := List.getElem?_eq_getElem (by omega)
  obtain ⟨s, hs'⟩ := B.itC_head hu
  have h4 := h3 0 _ hu
  rw [hs'] at h4
  exact ⟨b, o, h1, by omega, fun j u hj => (World.cell?_of_block (a := ⟨b, o + j, none⟩) (hc _ _ _ h4)).trans (h3 j u hj)⟩
theorem tr_kept0 {w w' : World} {b n : Nat} {xs : List B.Im} (T : B.Tr w b 0 xs n) (hs : w.heap.size ≤ w'.heap.size) (hb : w'.heap[b]? = w.heap[b]?) (hc : ∀ k o s, w.cell? ⟨k, o, none⟩ = some (.string s) → w'.heap[k]? = w.heap[k]?) : B.Tr w' b 0 xs n := by
  obtain ⟨p, c, q, d, h1, p2, c2, q2, d2, e, h2, h3⟩ := T.ex
  exact ⟨p, c, q, d, hb.trans h1, p2, c2, q2, d2, e, sl_kept0 h2 hs hc, sl_kept0 (xs := []) h3 hs hc⟩
theorem cell_str {w : World} {k o : Nat} {v : Value} (h : w.cell? ⟨k, o, none⟩ = some v) : k < w.heap.size ∧ ∀ ob, w.heap[k]? = some ob → walkO ob = false := by
  refine ⟨V.block_lt h, fun ob ho => ?_⟩
  unfold World.cell? at h
  rw [ho] at h
  cases ob <;> first | rfl | cases h
theorem tr_st {m : Nat} {U V : World} {b n : Nat} {xs : List B.Im} (T : B.Tr U b 0 xs n) (h : StW m U V) : B.Tr V b 0 xs n := by
  refine tr_kept0 T h.size ?_ (fun k o s hc => h.block k (cell_str hc).1 (Or.inr (cell_str hc).2))
  obtain ⟨p, c, q, d, h1, -⟩ := T.ex
  exact (h.row h1).trans h1.symm
theorem gm_st {m : Nat} {w w' : World} (h : V.Gm w) (hs : StW m w w') : V.Gm w' := by
  obtain ⟨x, hx⟩ := h
  exact ⟨x, hs.cell hx⟩
theorem insK_nil (x : B.Im) : B.insK [] x = [x] := by
  simp [B.insK, B.posK, B.isK]
theorem tr_map {w w' : World} {b n x : Nat} {xs : List B.Im} {K : TypeId} {c : Nat} {D : DataW Value} (T : B.Tr w b 0 xs n) (ho : w.ownsMap Tryz.prog K heldR x c D) (hg : w.grownBy w' (some x)) : B.Tr w' b 0 xs n := by
  obtain ⟨es, clock, hx, -⟩ := ho
  have h0 : ∀ k o v, w.cell? ⟨k, o, none⟩ = some v → w'.heap[k]? = w.heap[k]? := fun k o v hc => hg.block k (V.block_lt hc) (fun e => by
    injection e with e
    subst e
    unfold World.cell? at hc
    rw [hx] at hc
    cases hc)
  refine tr_kept0 T hg.size ?_ (fun k o s hc => h0 k o _ hc)
  obtain ⟨p, c, q, d, h1, -⟩ := T.ex
  exact h0 b 0 _ (cell_of_row w b 0 _ _ _ h1)
theorem tr_set {w : World} {b n z o : Nat} {x y u v : Value} {xs : List B.Im} (T : B.Tr w b 0 xs n) (hz : w.heap[z]? = some (.cells #[x, y, u] 75 (0, 0))) (hn : ∀ s, .string s ≠ x ∧ .string s ≠ y ∧ .string s ≠ u) (hbz : b ≠ z) : B.Tr (w.setCell ⟨z, o, none⟩ v) b 0 xs n := by
  refine tr_kept0 T (by simp [World.setCell]) (heap_setCell_other _ _ _ _ hbz) (fun k j s hc => heap_setCell_other _ _ _ _ (fun e => ?_))
  subst e
  rw [cell_of_row w k j _ _ _ hz] at hc
  have hm := Array.mem_of_getElem? hc
  have := hn s
  simp_all
theorem eql73 (m : Option Nat) (w : World) : (binOp .eql 73 (.map m) (.map none)).run Tryz.prog w = .ok (.bool m.isNone) w := by
  cases m <;> kernel_rfl
theorem make73 (w : World) : (Instr.makeMap 73 none).run Tryz.prog w = .ok (.map (some w.heap.size)) (w.alloc (.map #[] 0)) := by kernel_rfl
set_option maxRecDepth 100000 in
set_option maxHeartbeats 8000000 in
theorem addIndex_one {w : World} (b m d : Nat) (v : Int) (t : V.Tr) (A : V.Ad) (S : Nat → Prop) (f : ByteArray) (hf : f.size ≤ maxLen) (hd : d < 18446744073709551616) (hr : w.heap[b]? = some (.cells #[.map (some m), .map none, .bool false] 75 (0, 0))) (hm : M1 31 w m (.int .u64 d) (.agg (rwA d v t A)))
    (hL : V.LiesS S w t A) (hc : V.checkT t = 0) (hsm : V.small t) (hg : V.Gm w) :
    Calls Tryz.prog 11 #[.pointer (some ⟨b, 0, none⟩), .string f] w fun e w' => e = .returned (.bool true) ∧ ∃ x tr, w.heap.size ≤ x ∧ w.heap.size ≤ tr ∧ w'.heap[b]? = some (.cells #[.map (some m), .map (some x), .bool false] 75 (0, 0)) ∧
      M1 9 w' x (.string f.data.toList) (.pointer (some ⟨tr, 0, none⟩)) ∧ B.Tr w' tr 0 [(pairS (getT t f) d, ⟨#[]⟩)] 1 ∧ B.Onl b w w' := by
  obtain ⟨w1, hw1⟩ : ∃ w1, w.alloc (.cells #[.string f] 9) = w1 := ⟨_, rfl⟩
  have hb1 : Below w.heap.size w w1 := by rw [← hw1]; exact (Below.refl _ w).alloc (Nat.le_refl _) _
  have s1 : w1.heap.size = w.heap.size + 1 := by rw [← hw1]; simp
  have r1 : w1.heap[w.heap.size]? = some (.cells #[.string f] 9 (0, 0)) := by rw [← hw1]; exact heap_alloc_new _ _
  have q1 := (hb1.block _ (lt_of_row hr)).trans hr
  have HW : Hid (w.alloc (.cells #[.string f] 9) = w1) := hw1
  clear hw1
  refine (callsIn_wide (n := 0)).1 ?_
  refine callsIn_of_wp_marks Tryz.func11 rfl trivial ?_ rfl
  simp only [Tryz.ntmps11, List.size_toArray, List.length_cons, List.length_nil, Nat.reduceAdd, Nat.reduceSub, Array.replicate_succ, Array.replicate_zero, List.push_toArray, List.append_toArray, List.nil_append, List.cons_append]
  gi_wp2
  rw [HW.out]
  refine B.any_tailIn (by kernel_rfl) 11 (by exact Nat.le_of_ble_eq_true rfl) (fun i => i + 7) (B.mixR [] [.pointer (some ⟨b, 0, none⟩), .bool false, .bool false, .pointer (some ⟨b, 0, none⟩), .pointer (some ⟨b, 0, none⟩), .pointer (some ⟨b, 1, none⟩), .map none, .string f, .pointer none, .bool false, .bool false]) (by kernel_rfl) (by kernel_rfl) (by kernel_rfl) (by kernel_rfl) (B.mixR_later _ _ (B.stab_nil)) ?step ?post
  case step =>
    intro iq hiq a W hrest hb hk
    have hp0 : a.eval (.tmp 0) = .pointer (some ⟨b, 0, none⟩) := (hrest 0 (by intro iq2 hiq2; (repeat' split) <;> omega)).trans rfl
    have fp0 := B.ev hp0
    have hx0 : W.heap[b]? = some (.cells #[.map (some m), .map none, .bool false] 75 (0, 0)) := (hb.block _ (lt_of_row q1)).trans q1
    have hp3 : a.eval (.tmp 3) = .pointer (some ⟨w.heap.size, 0, none⟩) := (hrest 3 (by intro iq2 hiq2; (repeat' split) <;> omega)).trans rfl
    have fp3 := B.ev hp3
    have hx3 : W.heap[w.heap.size]? = some (.cells #[.string f] 9 (0, 0)) := (hb.block _ (lt_of_row r1)).trans r1
    clear hrest
    obtain rfl | rfl | rfl | rfl | rfl | rfl | rfl | rfl | rfl | rfl | rfl : iq = 0 ∨ iq = 1 ∨ iq = 2 ∨ iq = 3 ∨ iq = 4 ∨ iq = 5 ∨ iq = 6 ∨ iq = 7 ∨ iq = 8 ∨ iq = 9 ∨ iq = 10 := by omega
    · clear hiq
      clear hk
      refine ⟨_, rfl, rfl, Or.inl ⟨B.wanted_none rfl, B.wpIn_value (v := .pointer (some ⟨b, 0, none⟩)) (w' := W) ?_ ⟨_, rfl, Below.refl _ _, rfl⟩⟩⟩
      go_simp
    · clear hiq
      have e0 : a.eval (.tmp 7) = .pointer (some ⟨b, 0, none⟩) := hk 0 (B.mem_of (by kernel_rfl))
      have f0 := B.ev e0
      clear hk
      refine ⟨_, rfl, rfl, Or.inl ⟨B.wanted_none rfl, B.wpIn_value (v := .bool false) (w' := W) ?_ ⟨_, rfl, Below.refl _ _, rfl⟩⟩⟩
      go_simp
    · clear hiq
      have e1 : a.eval (.tmp 8) = .bool false := hk 1 (B.mem_of (by kernel_rfl))
      have f1 := B.ev e1
      clear hk
      refine ⟨_, rfl, rfl, Or.inl ⟨B.wanted_none rfl, B.wpIn_value (v := .bool false) (w' := W) ?_ ⟨_, rfl, Below.refl _ _, rfl⟩⟩⟩
      go_simp
    · clear hiq
      have e2 : a.eval (.tmp 9) = .bool false := hk 2 (B.mem_of (by kernel_rfl))
      have f2 := B.ev e2
      clear hk
      refine ⟨_, rfl, rfl, Or.inl ⟨B.wanted_of (k := 2) (b := false) rfl rfl e2, B.wpIn_value (v := .pointer (some ⟨b, 0, none⟩)) (w' := W) ?_ ⟨_, rfl, Below.refl _ _, rfl⟩⟩⟩
      go_simp
    · clear hiq
      have e2 : a.eval (.tmp 9) = .bool false := hk 2 (B.mem_of (by kernel_rfl))
      have f2 := B.ev e2
      have e3 : a.eval (.tmp 10) = .pointer (some ⟨b, 0, none⟩) := hk 3 (B.mem_of (by kernel_rfl))
      have f3 := B.ev e3
      clear hk
      refine ⟨_, rfl, rfl, Or.inl ⟨B.wanted_of (k := 2) (b := false) rfl rfl e2, B.wpIn_value (v := .pointer (some ⟨b, 0, none⟩)) (w' := W) ?_ ⟨_, rfl, Below.refl _ _, rfl⟩⟩⟩
      go_simp
    · clear hiq
      have e2 : a.eval (.tmp 9) = .bool false := hk 2 (B.mem_of (by kernel_rfl))
      have f2 := B.ev e2
      have e4 : a.eval (.tmp 11) = .pointer (some ⟨b, 0, none⟩) := hk 4 (B.mem_of (by kernel_rfl))
      have f4 := B.ev e4
      clear hk
      refine ⟨_, rfl, rfl, Or.inl ⟨B.wanted_of (k := 2) (b := false) rfl rfl e2, B.wpIn_value (v := .pointer (some ⟨b, 1, none⟩)) (w' := W) ?_ ⟨_, rfl, Below.refl _ _, rfl⟩⟩⟩
      go_simp
    · clear hiq
      have e2 : a.eval (.tmp 9) = .bool false := hk 2 (B.mem_of (by kernel_rfl))
      have f2 := B.ev e2
      have e5 : a.eval (.tmp 12) = .pointer (some ⟨b, 1, none⟩) := hk 5 (B.mem_of (by kernel_rfl))
      have f5 := B.ev e5
      have hc : W.cell? ⟨b, 1, none⟩ = some (.map none) := cell_of_row W _ 1 _ _ _ hx0
      clear hk
      refine ⟨_, rfl, rfl, Or.inl ⟨B.wanted_of (k := 2) (b := false) rfl rfl e2, B.wpIn_value (v := .map none) (w' := W) ?_ ⟨_, rfl, Below.refl _ _, rfl⟩⟩⟩
      go_simp
    · clear hiq
      have e2 : a.eval (.tmp 9) = .bool false := hk 2 (B.mem_of (by kernel_rfl))
      have f2 := B.ev e2
      have hc : W.cell? ⟨w.heap.size, 0, none⟩ = some (.string f) := cell_of_row W _ 0 _ _ _ hx3
      clear hk
      refine ⟨_, rfl, rfl, Or.inl ⟨B.wanted_of (k := 2) (b := false) rfl rfl e2, B.wpIn_value (v := .string f) (w' := W) ?_ ⟨_, rfl, Below.refl _ _, rfl⟩⟩⟩
      go_simp
    · clear hiq
      have e2 : a.eval (.tmp 9) = .bool false := hk 2 (B.mem_of (by kernel_rfl))
      have f2 := B.ev e2
      have e6 : a.eval (.tmp 13) = .map none := hk 6 (B.mem_of (by kernel_rfl))
      have f6 := B.ev e6
      have e7 : a.eval (.tmp 14) = .string f := hk 7 (B.mem_of (by kernel_rfl))
      have f7 := B.ev e7
      have hlk := look9_none hf W
      clear hk
      refine ⟨_, rfl, rfl, Or.inl ⟨B.wanted_of (k := 2) (b := false) rfl rfl e2, B.wpIn_value (v := .pointer none) (w' := W) ?_ ⟨_, rfl, Below.refl _ _, rfl⟩⟩⟩
      go_simp
    · clear hiq
      have e2 : a.eval (.tmp 9) = .bool false := hk 2 (B.mem_of (by kernel_rfl))
      have f2 := B.ev e2
      have e8 : a.eval (.tmp 15) = .pointer none := hk 8 (B.mem_of (by kernel_rfl))
      have f8 := B.ev e8
      clear hk
      refine ⟨_, rfl, rfl, Or.inl ⟨B.wanted_of (k := 2) (b := false) rfl rfl e2, B.wpIn_value (v := .bool false) (w' := W) ?_ ⟨_, rfl, Below.refl _ _, rfl⟩⟩⟩
      go_simp
    · clear hiq
      have e2 : a.eval (.tmp 9) = .bool false := hk 2 (B.mem_of (by kernel_rfl))
      have f2 := B.ev e2
      have e9 : a.eval (.tmp 16) = .bool false := hk 9 (B.mem_of (by kernel_rfl))
      have f9 := B.ev e9
      clear hk
      refine ⟨_, rfl, rfl, Or.inl ⟨B.wanted_none rfl, B.wpIn_value (v := .bool false) (w' := W) ?_ ⟨_, rfl, Below.refl _ _, rfl⟩⟩⟩
      go_simp
  case post =>
    intro VV W hbW hV
    have e10 : VV 10 = .bool false := hV 10 (by omega)
    have hBW : Below w.heap.size w W := hb1.trans (hbW.mono hb1.size)
    clear hV
    simp only [B.putAll, Nat.reduceAdd]
    rw [e10]
    simp only [Act.put, List.setIfInBounds_toArray, List.set_cons_zero, List.set_cons_succ]
    change wpListIn _ _ _ _ _ [] _ _
    have qW := (hbW.block _ (lt_of_row q1)).trans q1
    have rW := (hbW.block _ (lt_of_row r1)).trans r1
    have kp := part_no b _ _ qW
    have kn := B.new_any W
    gi_wp2_with fail
    refine ⟨trivial, rfl, (callsIn_wide.2 kp).mono ?_⟩
    rintro e Wq ⟨rfl, hq⟩
    rw [hq]
    clear hq
    gi_wp2_with fail
    refine ⟨trivial, rfl, (callsIn_wide.2 kn).mono ?_⟩
    rintro e w2 ⟨rfl, T2, hb2⟩
    obtain ⟨w3, hw3⟩ : ∃ w3, w2.alloc (.cells #[.pointer (some ⟨W.heap.size, 0, none⟩)] 76) = w3 := ⟨_, rfl⟩
    have hb3 : Below w2.heap.size w2 w3 := by rw [← hw3]; exact (Below.refl _ w2).alloc (Nat.le_refl _) _
    have r3 : w3.heap[w2.heap.size]? = some (.cells #[.pointer (some ⟨W.heap.size, 0, none⟩)] 76 (0, 0)) := by rw [← hw3]; exact heap_alloc_new _ _
    have hB3 : Below w.heap.size w w3 := (hBW.trans (hb2.mono hBW.size)).trans (hb3.mono (Nat.le_trans hBW.size hb2.size))
    have hB3' : Below W.heap.size W w3 := hb2.trans (hb3.mono hb2.size)
    have q3 := (hB3.block _ (lt_of_row hr)).trans hr
    have p3 := (hB3'.block _ (lt_of_row rW)).trans rW
    have T3 := T2.later hb3
    have ka := all_one b m d v t A _ _ ⟨by omega, by omega⟩ q3 (hm.later hB3)
    have HX : Hid (w2.alloc (.cells #[.pointer (some ⟨W.heap.size, 0, none⟩)] 76) = w3) := hw3
    clear hw3 kn kp
    gi_wp2_with (first | rw [HX.out] | fail)
    refine ⟨trivial, rfl, (callsIn_wide.2 ka).mono ?_⟩
    rintro e w4 ⟨⟨g, l, rfl, hgg, hll, rg, rl⟩, hb4⟩
    gi_wp2
    have hB4 : Below w.heap.size w w4 := hB3.trans (hb4.mono hB3.size)
    have p4 := (hb4.block _ (lt_of_row p3)).trans p3
    have r4 := (hb4.block _ (lt_of_row r3)).trans r3
    have T4 := T3.later hb4
    have g4 : V.Gm w4 := hg.later hB4 hg.pos
    have hsl := check_slim t 1 (V.check_zero hc).1
    have hsq := these_seq g l d v t A (fun k => S k ∧ k < w.heap.size) rg rl (lies_later (lies_lt hL) hB4) hsl
    have szW := hBW.size
    have sz1 := hbW.size
    have sz2 := hb2.size
    have sz3 := hb3.size
    have sz4 := hb4.size
    have ltT := T2.lt
    have lt3 := lt_of_row r3
    obtain ⟨K, hKK⟩ : ∃ K, pairS (getT t f) d = K := ⟨_, rfl⟩
    refine range_v (gf := 67) (lb := #[.pointer (some ⟨g, 0, none⟩)]) rfl (enters_of Tryz.func67 (by kernel_rfl) rfl) hsq (fun D x ar U h => by obtain ⟨A', h, _⟩ := h; rw [h]; rfl)
      (fun D x ar U U' h hk => by obtain ⟨A', h1, h2⟩ := h; exact ⟨A', h1, lies_keep h2 (fun k hk2 hlt => hk.block k hlt hk2)⟩) (fun k => k = W.heap.size)
      (fun k hk => by
        rcases hk with rfl | rfl | ⟨⟨_, hk⟩, _⟩
        · exact ⟨lt_of_row rg, by omega⟩
        · exact ⟨lt_of_row rl, by omega⟩
        · exact ⟨by omega, by omega⟩) (fun k hk => by omega)
      (fun pre U => B.Tr U W.heap.size 0 (pre.map fun _ => (K, ⟨#[]⟩)) pre.length ∧ U.heap[w.heap.size]? = some (.cells #[.string f] 9 (0, 0)) ∧ U.heap[w2.heap.size]? = some (.cells #[.pointer (some ⟨W.heap.size, 0, none⟩)] 76 (0, 0)) ∧ V.Gm U)
      (fun _ _ _ => False)
      (fun s U U' h hb => ⟨tr_st h.1 hb, hb.row h.2.1, hb.row h.2.2.1, gm_st h.2.2.2 hb⟩)
      (fun _ _ _ _ h _ => h) ⟨T4, p4, r4, g4⟩
      (fun ar a' U => ∃ nb cs, ar = #[.agg cs] ∧ a' = { tmps := #[.pointer (some ⟨b, 0, none⟩), .string f, undef, .pointer (some ⟨w.heap.size, 0, none⟩), .bool false, .pointer (some ⟨w2.heap.size, 0, none⟩), .pointer (some ⟨nb, 0, none⟩), VV 0, VV 1, VV 2, VV 3, VV 4, VV 5, VV 6, VV 7, VV 8, VV 9, .bool false, .pointer (some ⟨b, 0, none⟩), .tuple #[], .pointer (some ⟨W.heap.size, 0, none⟩), .pointer (some ⟨b, 0, none⟩), .func (.func 67) #[] #[.pointer (some ⟨g, 0, none⟩)], .agg cs, undef, undef, undef, undef, undef, undef, undef, undef, undef, undef, undef, undef, undef, undef, undef, undef, undef, undef, undef, undef], defers := [] } ∧ U.heap[nb]? = some (.cells cs 45 (0, 0)))
      (fun ar a' U U' h hb => by obtain ⟨nb, cs, h1, h2, h3⟩ := h; exact ⟨nb, cs, h1, h2, hb.row h3⟩) ?assign ?body ?done ?stop
    case assign =>
      rintro ly D x ar U KK ⟨A', rfl, -⟩ hK
      unfold rwA at hK ⊢
      gi_wp2
      exact hK _ _ ⟨U.heap.size, _, rfl, rfl, heap_alloc_new _ _⟩ ((Below.refl _ U).alloc (Nat.le_refl _) _)
    case body =>
      rintro ly D pre x ar a' U hCD ⟨A', rfl, hA'⟩ ⟨nb, cs, hcs, rfl, rn⟩ ⟨TU, pU, rU, gU⟩ hp hsz
      obtain ⟨rfl, rfl⟩ := pfx_one hp
      injection hcs with hcs
      injection hcs with hcs
      injection hcs with hcs
      subst hcs
      unfold rwA at rn ⊢
      dsimp only
      have kpr : ∀ W2, Below U.heap.size U W2 → Calls Tryz.prog 30 #[.agg #[.int .u64 (d : Int), .int .u64 v, .int .i64 t.k, .bool t.b, .int .i64 t.n, .string t.s, .slice A'.pa t.m A'.pc, .slice A'.na t.q A'.nc], .string f] W2 fun e w' => e = .returned (.string K) ∧ Below W2.heap.size W2 w' := fun W2 hb => by
        rw [← hKK]
        exact pair_doc d v t A' f hd (V.LiesS.up (fun k h => h.2) (lies_lt (lies_later hA' hb))) (Nat.le_refl _) hc hsm (gU.later hb gU.pos)
      gi_wp2
      refine B.any_tailInR (by kernel_rfl) 4 (by exact Nat.le_of_ble_eq_true rfl) (fun i => i + 24) (B.mixR [] [.pointer (some ⟨W.heap.size, 0, none⟩), .agg #[.int .u64 (d : Int), .int .u64 v, .int .i64 t.k, .bool t.b, .int .i64 t.n, .string t.s, .slice A'.pa t.m A'.pc, .slice A'.na t.q A'.nc], .string f, .string K]) (by kernel_rfl) (by kernel_rfl) (by kernel_rfl) (by kernel_rfl) (B.mixR_later _ _ (B.stab_nil)) ?step ?post
      case step =>
        intro iq hiq a W2 hrest hb hk
        have hp5 : a.eval (.tmp 5) = .pointer (some ⟨w2.heap.size, 0, none⟩) := (hrest 5 (by intro iq2 hiq2; (repeat' split) <;> omega)).trans rfl
        have fp5 := B.ev hp5
        have hx5 : W2.heap[w2.heap.size]? = some (.cells #[.pointer (some ⟨W.heap.size, 0, none⟩)] 76 (0, 0)) := (hb.block _ (lt_of_row rU)).trans rU
        have hp6 : a.eval (.tmp 6) = .pointer (some ⟨nb, 0, none⟩) := (hrest 6 (by intro iq2 hiq2; (repeat' split) <;> omega)).trans rfl
        have fp6 := B.ev hp6
        have hx6 : W2.heap[nb]? = some (.cells #[.int .u64 (d : Int), .int .u64 v, .int .i64 t.k, .bool t.b, .int .i64 t.n, .string t.s, .slice A'.pa t.m A'.pc, .slice A'.na t.q A'.nc] 45 (0, 0)) := (hb.block _ (lt_of_row rn)).trans rn
        have hp3 : a.eval (.tmp 3) = .pointer (some ⟨w.heap.size, 0, none⟩) := (hrest 3 (by intro iq2 hiq2; (repeat' split) <;> omega)).trans rfl
        have fp3 := B.ev hp3
        have hx3 : W2.heap[w.heap.size]? = some (.cells #[.string f] 9 (0, 0)) := (hb.block _ (lt_of_row pU)).trans pU
        clear hrest
        obtain rfl | rfl | rfl | rfl : iq = 0 ∨ iq = 1 ∨ iq = 2 ∨ iq = 3 := by omega
        · clear hiq
          have hc : W2.cell? ⟨w2.heap.size, 0, none⟩ = some (.pointer (some ⟨W.heap.size, 0, none⟩)) := cell_of_row W2 _ 0 _ _ _ hx5
          clear hk
          refine ⟨_, rfl, rfl, Or.inl ⟨B.wanted_none rfl, B.wpIn_valueR (v := .pointer (some ⟨W.heap.size, 0, none⟩)) (w' := W2) ?_ (fun _ h => by cases h) ⟨_, rfl, Below.refl _ _, rfl⟩⟩⟩
          go_simp
        · clear hiq
          have hc0 := cell_of_row W2 _ 0 _ _ _ hx6
          have hc1 := cell_of_row W2 _ 1 _ _ _ hx6
          have hc2 := cell_of_row W2 _ 2 _ _ _ hx6
          have hc3 := cell_of_row W2 _ 3 _ _ _ hx6
          have hc4 := cell_of_row W2 _ 4 _ _ _ hx6
          have hc5 := cell_of_row W2 _ 5 _ _ _ hx6
          have hc6 := cell_of_row W2 _ 6 _ _ _ hx6
          have hc7 := cell_of_row W2 _ 7 _ _ _ hx6
          clear hk
          refine ⟨_, rfl, rfl, Or.inl ⟨B.wanted_none rfl, B.wpIn_valueR (v := .agg #[.int .u64 (d : Int), .int .u64 v, .int .i64 t.k, .bool t.b, .int .i64 t.n, .string t.s, .slice A'.pa t.m A'.pc, .slice A'.na t.q A'.nc]) (w' := W2) ?_ (fun _ h => by cases h) ⟨_, rfl, Below.refl _ _, rfl⟩⟩⟩
          go_simp
        · clear hiq
          have hc : W2.cell? ⟨w.heap.size, 0, none⟩ = some (.string f) := cell_of_row W2 _ 0 _ _ _ hx3
          clear hk
          refine ⟨_, rfl, rfl, Or.inl ⟨B.wanted_none rfl, B.wpIn_valueR (v := .string f) (w' := W2) ?_ (fun _ h => by cases h) ⟨_, rfl, Below.refl _ _, rfl⟩⟩⟩
          go_simp
        · clear hiq
          have e1 : a.eval (.tmp 25) = .agg #[.int .u64 (d : Int), .int .u64 v, .int .i64 t.k, .bool t.b, .int .i64 t.n, .string t.s, .slice A'.pa t.m A'.pc, .slice A'.na t.q A'.nc] := hk 1 (B.mem_of (by kernel_rfl))
          have f1 := B.ev e1
          have e2 : a.eval (.tmp 26) = .string f := hk 2 (B.mem_of (by kernel_rfl))
          have f2 := B.ev e2
          clear hk
          refine ⟨_, rfl, rfl, Or.inl ⟨B.wanted_none rfl, B.wpIn_enterR (f := 30) (args := #[.agg #[.int .u64 (d : Int), .int .u64 v, .int .i64 t.k, .bool t.b, .int .i64 t.n, .string t.s, .slice A'.pa t.m A'.pc, .slice A'.na t.q A'.nc], .string f]) ?_ (fun _ h => by cases h) ((kpr W2 hb).mono ?_)⟩⟩
          · go_simp
          · rintro e w7 ⟨rfl, hb7⟩
            exact ⟨_, rfl, _, rfl, hb7, rfl⟩
      case post =>
        intro V2 W2 hbW2 hV2
        have e0 : V2 0 = .pointer (some ⟨W.heap.size, 0, none⟩) := hV2 0 (by omega)
        have e3 : V2 3 = .string K := hV2 3 (by omega)
        clear hV2
        simp only [B.putAll, Nat.reduceAdd]
        rw [e0, e3]
        simp only [Act.put, List.setIfInBounds_toArray, List.set_cons_zero, List.set_cons_succ]
        change wpListIn _ _ _ _ _ [_] _ _
        have TW := TU.later hbW2
        have kput := B.put0 [] B.ris0 (by decide) (K, ⟨#[]⟩) (by rw [insK_nil]; exact B.ris1 _) (by rw [insK_nil]; simp) W.heap.size 0 (by omega) W2 TW
        rw [insK_nil] at kput
        have hgp := hg.pos
        gi_wp2_with fail
        refine ⟨trivial, rfl, (callsIn_wide.2 kput).mono ?_⟩
        rintro e w5 ⟨rfl, T5, ho⟩
        have szb := hbW2.size
        have hk5 : B.KC (fun k => k = W.heap.size) U w5 := ⟨ho.os.trans hbW2.os, ho.tape.trans hbW2.tape, ho.output.trans hbW2.output, Nat.le_trans hbW2.size ho.size, fun k hk hne => (ho.block k (by omega) hne).trans (hbW2.block k hk)⟩
        have p5 := (hk5.block _ (lt_of_row pU) (by omega)).trans pU
        have r5 := (hk5.block _ (lt_of_row rU) (by omega)).trans rU
        have g5 : V.Gm w5 := by
          obtain ⟨y, hy⟩ := gU
          exact ⟨y, (World.cell?_of_block (a := ⟨0, 0, none⟩) (hk5.block 0 (V.block_lt hy) (by omega))).trans hy⟩
        gi_wp2
        exact ⟨hk5, T5, p5, r5, g5⟩
    case done =>
      rintro U ⟨TU, pU, rU, gU⟩ hkc hD
      have szU := hkc.size
      have ltD := (Array.getElem?_eq_some_iff.1 hD).1
      have qU : U.heap[b]? = some (.cells #[.map (some m), .map none, .bool false] 75 (0, 0)) := by
        have l0 := lt_of_row hr
        exact (hkc.block b (by omega) (by omega)).trans ((hB4.block b l0).trans hr)
      have c1 := cell_of_row U b 1 _ _ _ qU
      have heq := eql73 none U
      have hmk := make73 U
      obtain ⟨U1, hU1⟩ : ∃ U1, U.alloc (.map #[] 0) = U1 := ⟨_, rfl⟩
      rw [hU1] at hmk
      have hbU1 : Below U.heap.size U U1 := by rw [← hU1]; exact (Below.refl _ U).alloc (Nat.le_refl _) _
      have sU1 : U1.heap.size = U.heap.size + 1 := by rw [← hU1]; simp
      have oU1 : U1.ownsMap Tryz.prog 9 heldR U.heap.size 0 (.map []) := by rw [← hU1]; exact World.ownsMap_made U _ _ _
      have qU1 := (hbU1.block _ (lt_of_row qU)).trans qU
      have pU1 := (hbU1.block _ (lt_of_row pU)).trans pU
      have rU1 := (hbU1.block _ (lt_of_row rU)).trans rU
      have lU := lt_of_row qU
      have hTb : W.heap.size ≠ b := by have l0 := lt_of_row hr; omega
      have dU1 : U1.heap[w4.heap.size]? = some (.deferred (some [])) := (hbU1.block _ (by have := (Array.getElem?_eq_some_iff.1 hD).1; omega)).trans hD
      obtain ⟨U2, hU2⟩ : ∃ U2, U1.setCell ⟨b, 1, none⟩ (.map (some U.heap.size)) = U2 := ⟨_, rfl⟩
      have q6 : U2.heap[b]? = some (.cells #[.map (some m), .map (some U.heap.size), .bool false] 75 (0, 0)) := by
        rw [← hU2]
        exact heap_setCell_same _ b 1 _ 75 _ qU1
      have n6 : ∀ k, k ≠ b → U2.heap[k]? = U1.heap[k]? := fun k hk => by rw [← hU2]; exact heap_setCell_other _ _ _ _ hk
      have s6 : U2.heap.size = U1.heap.size := by rw [← hU2]; simp [World.setCell]
      have hnb : w.heap.size ≠ b := by have l0 := lt_of_row hr; omega
      have hnb2 : w2.heap.size ≠ b := by have l0 := lt_of_row hr; omega
      have p6 := (n6 _ hnb).trans pU1
      have r6 := (n6 _ hnb2).trans rU1
      have f1 := frozen_of_row U1 _ 1 _ _ qU1
      have c1b := cell_of_row U1 b 1 _ _ _ qU1
      have T6 : B.Tr U2 W.heap.size 0 [(K, ⟨#[]⟩)] 1 := by
        rw [← hU2]
        exact tr_set (TU.later hbU1) qU1 (fun s => ⟨by simp, by simp, by simp⟩) hTb
      have d6 : U2.heap[w4.heap.size]? = some (.deferred (some [])) := (n6 _ (by have l0 := lt_of_row hr; omega)).trans dU1
      have o6 : U2.ownsMap Tryz.prog 9 heldR U.heap.size 0 (.map []) := by
        obtain ⟨es, clock, h1, F, h2, hD⟩ := oU1
        exact ⟨es, clock, (n6 _ (by omega)).trans h1, F, h2, hD⟩
      have hO6 : B.Onl b w U2 := by
        have l4 := hB4.size
        have a1 : B.Onl b w U := ⟨hkc.os.trans hB4.os, hkc.tape.trans hB4.tape, hkc.output.trans hB4.output, Nat.le_trans hB4.size hkc.size, fun k hk _ => (hkc.block k (by omega) (by omega)).trans (hB4.block k hk)⟩
        have a2 : B.Onl b w U1 := a1.trans (B.Onl.of hbU1)
        rw [← hU2]
        exact a2.setCell 1 _
      have HQ : Hid (U1.setCell ⟨b, 1, none⟩ (.map (some U.heap.size)) = U2) := hU2
      clear hU1 hU2 hkc hD
      gi_wp2_with (first | rw [HQ.out] | fail)
      refine B.any_tailIn (by kernel_rfl) 6 (by exact Nat.le_of_ble_eq_true rfl) (fun i => i + 38) (B.mixR [] [.pointer (some ⟨b, 0, none⟩), .pointer (some ⟨b, 0, none⟩), .pointer (some ⟨b, 1, none⟩), .map (some U.heap.size), .string f, .pointer (some ⟨W.heap.size, 0, none⟩)]) (by kernel_rfl) (by kernel_rfl) (by kernel_rfl) (by kernel_rfl) (B.mixR_later _ _ (B.stab_nil)) ?step ?post
      case step =>
        intro iq hiq a W2 hrest hb hk
        have hp0 : a.eval (.tmp 0) = .pointer (some ⟨b, 0, none⟩) := (hrest 0 (by intro iq2 hiq2; (repeat' split) <;> omega)).trans rfl
        have fp0 := B.ev hp0
        have hx0 : W2.heap[b]? = some (.cells #[.map (some m), .map (some U.heap.size), .bool false] 75 (0, 0)) := (hb.block _ (lt_of_row q6)).trans q6
        have hp3 : a.eval (.tmp 3) = .pointer (some ⟨w.heap.size, 0, none⟩) := (hrest 3 (by intro iq2 hiq2; (repeat' split) <;> omega)).trans rfl
        have fp3 := B.ev hp3
        have hx3 : W2.heap[w.heap.size]? = some (.cells #[.string f] 9 (0, 0)) := (hb.block _ (lt_of_row p6)).trans p6
        have hp5 : a.eval (.tmp 5) = .pointer (some ⟨w2.heap.size, 0, none⟩) := (hrest 5 (by intro iq2 hiq2; (repeat' split) <;> omega)).trans rfl
        have fp5 := B.ev hp5
        have hx5 : W2.heap[w2.heap.size]? = some (.cells #[.pointer (some ⟨W.heap.size, 0, none⟩)] 76 (0, 0)) := (hb.block _ (lt_of_row r6)).trans r6
        clear hrest
        obtain rfl | rfl | rfl | rfl | rfl | rfl : iq = 0 ∨ iq = 1 ∨ iq = 2 ∨ iq = 3 ∨ iq = 4 ∨ iq = 5 := by omega
        · clear hiq
          clear hk
          refine ⟨_, rfl, rfl, Or.inl ⟨B.wanted_none rfl, B.wpIn_value (v := .pointer (some ⟨b, 0, none⟩)) (w' := W2) ?_ ⟨_, rfl, Below.refl _ _, rfl⟩⟩⟩
          go_simp
        · clear hiq
          have e0 : a.eval (.tmp 38) = .pointer (some ⟨b, 0, none⟩) := hk 0 (B.mem_of (by kernel_rfl))
          have f0 := B.ev e0
          clear hk
          refine ⟨_, rfl, rfl, Or.inl ⟨B.wanted_none rfl, B.wpIn_value (v := .pointer (some ⟨b, 0, none⟩)) (w' := W2) ?_ ⟨_, rfl, Below.refl _ _, rfl⟩⟩⟩
          go_simp
        · clear hiq
          have e1 : a.eval (.tmp 39) = .pointer (some ⟨b, 0, none⟩) := hk 1 (B.mem_of (by kernel_rfl))
          have f1 := B.ev e1
          clear hk
          refine ⟨_, rfl, rfl, Or.inl ⟨B.wanted_none rfl, B.wpIn_value (v := .pointer (some ⟨b, 1, none⟩)) (w' := W2) ?_ ⟨_, rfl, Below.refl _ _, rfl⟩⟩⟩
          go_simp
        · clear hiq
          have e2 : a.eval (.tmp 40) = .pointer (some ⟨b, 1, none⟩) := hk 2 (B.mem_of (by kernel_rfl))
          have f2 := B.ev e2
          have hc : W2.cell? ⟨b, 1, none⟩ = some (.map (some U.heap.size)) := cell_of_row W2 _ 1 _ _ _ hx0
          clear hk
          refine ⟨_, rfl, rfl, Or.inl ⟨B.wanted_none rfl, B.wpIn_value (v := .map (some U.heap.size)) (w' := W2) ?_ ⟨_, rfl, Below.refl _ _, rfl⟩⟩⟩
          go_simp
        · clear hiq
          have hc : W2.cell? ⟨w.heap.size, 0, none⟩ = some (.string f) := cell_of_row W2 _ 0 _ _ _ hx3
          clear hk
          refine ⟨_, rfl, rfl, Or.inl ⟨B.wanted_none rfl, B.wpIn_value (v := .string f) (w' := W2) ?_ ⟨_, rfl, Below.refl _ _, rfl⟩⟩⟩
          go_simp
        · clear hiq
          have hc : W2.cell? ⟨w2.heap.size, 0, none⟩ = some (.pointer (some ⟨W.heap.size, 0, none⟩)) := cell_of_row W2 _ 0 _ _ _ hx5
          clear hk
          refine ⟨_, rfl, rfl, Or.inl ⟨B.wanted_none rfl, B.wpIn_value (v := .pointer (some ⟨W.heap.size, 0, none⟩)) (w' := W2) ?_ ⟨_, rfl, Below.refl _ _, rfl⟩⟩⟩
          go_simp
      case post =>
        intro V2 W2 hbW2 hV2
        have e3 : V2 3 = .map (some U.heap.size) := hV2 3 (by omega)
        have e4 : V2 4 = .string f := hV2 4 (by omega)
        have e5 : V2 5 = .pointer (some ⟨W.heap.size, 0, none⟩) := hV2 5 (by omega)
        clear hV2
        simp only [B.putAll, Nat.reduceAdd]
        rw [e3, e4, e5]
        simp only [Act.put, List.setIfInBounds_toArray, List.set_cons_zero, List.set_cons_succ]
        change wpListIn _ _ _ _ _ [_] _ _
        have oW : W2.ownsMap Tryz.prog 9 heldR U.heap.size 0 (.map []) := World.ownsMap.kept o6 (row := none) ⟨hbW2.os, hbW2.tape, hbW2.output, hbW2.size, fun k hk _ => hbW2.block k hk⟩ (by simp)
        obtain ⟨w5, hup, m5, hg5⟩ := M1.make (t := 73) oW keyed9 Tryz.underlying73 (key9 hf) (.pointer (some ⟨W.heap.size, 0, none⟩))
        have T7 := tr_map (T6.later hbW2) oW hg5
        have szW2 := hbW2.size
        have q7 := ((hg5.block b (by omega) (fun e => by injection e with e; omega)).trans (hbW2.block b (by omega))).trans q6
        have d7 : w5.heap[w4.heap.size]? = some (.deferred (some [])) := ((hg5.block _ (by omega) (fun e => by injection e with e; omega)).trans (hbW2.block _ (by omega))).trans d6
        have hO7 : B.Onl b w w5 := by
          have a2 := hO6.trans (B.Onl.of hbW2)
          have l4 := hB4.size
          exact ⟨hg5.os.trans a2.os, hg5.tape.trans a2.tape, hg5.output.trans a2.output, Nat.le_trans a2.size hg5.size, fun k hk hkb => (hg5.block k (Nat.lt_of_lt_of_le hk a2.size) (fun e => by injection e with e; omega)).trans (a2.block k hk hkb)⟩
        have HD : Hid (w5.heap[w4.heap.size]? = some (.deferred (some []))) := d7
        clear d7
        gi_wp2
        refine ⟨by simp, .inl ⟨_, _, rfl, run_takeDeferred HD.out, ?_⟩⟩
        refine ⟨.bool true, by simp [results, Tryz.results11, go_sem], rfl, U.heap.size, W.heap.size, by have := hB4.size; omega, by omega, ?_, ?_, ?_, ?_⟩
        · exact (World.putObj_heap_other (by have := lt_of_row hr; omega)).trans q7
        · exact m5.same (World.putObj_heap_other (by omega))
        · rw [hKK]
          exact tr_st T7 (putObj_st (n := 0) _ _ HD.out rfl (Nat.zero_le _))
        · have hg8 := grownBy_putObj' w5 w4.heap.size (.deferred none)
          have l4 := hB4.size
          exact ⟨hg8.os.trans hO7.os, hg8.tape.trans hO7.tape, hg8.output.trans hO7.output, Nat.le_trans hO7.size hg8.size, fun k hk hkb => (World.putObj_heap_other (by omega)).trans (hO7.block k hk hkb)⟩
    case stop => exact fun _ _ _ _ h => h.elim
end Go.Proofs.YtniljoojoafiaaaGreatDoor
