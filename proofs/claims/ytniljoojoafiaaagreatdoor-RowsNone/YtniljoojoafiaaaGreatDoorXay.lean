/- RowsNone: a nil table answers as the document says. How a value that is handed in is read: as a tree, with its memory. The frame of a tied row's proof that keeps the world's shape beside what is laid; a variable of the library's that holds some number. -/
import Derived.Test.YtniljoojoafiaaaGreatDoorAwr
import Derived.Test.YtniljoojoafiaaaGreatDoorXae
import Derived.Test.YtniljoojoafiaaaGreatDoorRows
import Derived.WalkKit
import Derived.ProofKit
import Derived.OpenShut
import Derived.ShutString
import Derived.Deep.Strs
import Derived.Deep.Fields
import Derived.Test.YtniljoojoafiaaaGreatDoorXaq
import Derived.HandedShaped
import Derived.Handed
import Derived.Shelf.Vars
namespace Go.Proofs.YtniljoojoafiaaaGreatDoor
open Go.RowKit Go.Shelf
attribute [local go_sem] Oper.semAt_some
theorem none_seq {w : World} (g : Nat) (l : Option Addr) (hg : w.heap[g]? = some (.cells #[.slice l 0 0] 130 (0, 0))) : SeqW Tryz.prog 67 #[.pointer (some ⟨g, 0, none⟩)] (fun _ (_ : Unit) _ _ => False) [] (fun k => k = g) w := by
  intro C yl J Jx W hbW hA hCW hJ hJx hY h0
  refine (callsIn_wide.2 (over_none _ g l W ((hbW.block _ (lt_of_row hg)).trans hg))).mono ?_
  rintro e w' ⟨rfl, rfl⟩
  exact ⟨⟨_, rfl⟩, Or.inl h0, B.KC.of (Below.refl _ _)⟩
set_option maxRecDepth 100000 in
set_option maxHeartbeats 4000000 in
theorem none_walk (d : Int) (f : ByteArray) (w : World) (hg : V.Gm w) : Calls Tryz.prog 5 #[.int .u64 d, .string f] w fun e w' => e = .returned (.bool true) ∧ Below w.heap.size w w' := by
  have ka := awake_any w hg
  refine (callsIn_wide (n := 0)).1 ?_
  refine callsIn_of_wp_marks Tryz.func5 rfl trivial ?_ rfl
  simp only [Tryz.ntmps5, List.size_toArray, List.length_cons, List.length_nil, Nat.reduceAdd, Nat.reduceSub, Array.replicate_succ, Array.replicate_zero, List.push_toArray, List.append_toArray, List.nil_append, List.cons_append]
  gi_wp2_with fail
  refine ⟨trivial, rfl, (callsIn_wide.2 ka).mono ?_⟩
  rintro e w1 ⟨rfl, hb1⟩
  have kp := tput_nil d 0 0 false 0 ⟨#[]⟩ none none 0 0 0 0 w1
  gi_wp2_with fail
  refine ⟨trivial, rfl, (callsIn_wide.2 kp).mono ?_⟩
  rintro e w2 ⟨rfl, hb2⟩
  have kg := tget_nil d w2
  unfold zeroW at kg
  gi_wp2_with fail
  refine ⟨trivial, rfl, (callsIn_wide.2 kg).mono ?_⟩
  rintro e w3 ⟨rfl, hb3⟩
  obtain ⟨w4, hw4⟩ : ∃ w4, (w3.alloc (.cells #[.int .u64 0, .int .u64 0, .int .i64 0, .bool false, .int .i64 0, .string ⟨#[]⟩, .slice none 0 0, .slice none 0 0] 45)).alloc (.cells #[.int .i64 0] 3) = w4 := ⟨_, rfl⟩
  have hb4 : Below w3.heap.size w3 w4 := by rw [← hw4]; exact ((Below.refl _ w3).alloc (Nat.le_refl _) _).alloc (by simp) _
  have n4 : w4.heap[w3.heap.size + 1]? = some (.cells #[.int .i64 0] 3 (0, 0)) := by
    rw [← hw4]
    exact (B.span_rows w3 #[.int .u64 0, .int .u64 0, .int .i64 0, .bool false, .int .i64 0, .string ⟨#[]⟩, .slice none 0 0, .slice none 0 0] #[.int .i64 0] 45 3).2
  have HX : Hid ((w3.alloc (.cells #[.int .u64 0, .int .u64 0, .int .i64 0, .bool false, .int .i64 0, .string ⟨#[]⟩, .slice none 0 0, .slice none 0 0] 45)).alloc (.cells #[.int .i64 0] 3) = w4) := hw4
  clear hw4
  gi_wp2_with fail
  rw [HX.out]
  refine ⟨trivial, rfl, (callsIn_wide.2 (all_nil _)).mono ?_⟩
  rintro e w5 ⟨v, rfl, ⟨g, l, rfl, rg⟩, hb5⟩
  have n5 := (hb5.block _ (lt_of_row n4)).trans n4
  have hB3 : Below w.heap.size w w3 := (hb1.trans (hb2.mono hb1.size)).trans (hb3.mono (Nat.le_trans hb1.size hb2.size))
  have hB5 : Below w.heap.size w w5 := (hB3.trans (hb4.mono hB3.size)).trans (hb5.mono (Nat.le_trans hB3.size hb4.size))
  have sz3 := hB3.size
  have sz5 := hB5.size
  clear kp kg ka hb1 hb2 hb3
  gi_wp2
  refine range_w (gf := 67) (lb := #[.pointer (some ⟨g, 0, none⟩)]) rfl (enters_of Tryz.func67 (by kernel_rfl) rfl) (none_seq g l rg) (fun _ _ _ _ h => h.elim) (fun _ _ _ _ _ h _ => h.elim) (fun _ => False) (fun k hk => ⟨by subst hk; exact lt_of_row rg, id⟩) (fun k hk => hk.elim)
    (fun _ U => U.heap[w3.heap.size + 1]? = some (.cells #[.int .i64 0] 3 (0, 0))) (fun _ _ _ => False) (fun s U V h hb => hb.row h) (fun _ _ _ _ h _ => h) n5 (fun _ => ⟨#[], []⟩) (fun _ _ _ _ _ _ h => h.elim) (fun _ _ _ _ _ _ _ h => h.elim) ?done (fun _ _ _ _ h => h.elim)
  rintro U n6 hkc hD
  have hBU : Below w.heap.size w U := ⟨hkc.os.trans hB5.os, hkc.tape.trans hB5.tape, hkc.output.trans hB5.output, Nat.le_trans hB5.size hkc.size, fun k hk => (hkc.block k (by omega) (by simp; omega)).trans (hB5.block k hk)⟩
  have ltD := (Array.getElem?_eq_some_iff.1 hD).1
  have HD : Hid (U.heap[w5.heap.size]? = some (.deferred (some []))) := hD
  have kr := trange_nil f ⟨#[]⟩ ⟨#[]⟩ U
  clear hD
  gi_wp2_with fail
  refine ⟨trivial, rfl, (callsIn_wide.2 kr).mono ?_⟩
  rintro e w7 ⟨v, rfl, ⟨g2, l2, rfl, rg2⟩, hb7⟩
  have n7 := (hb7.block _ (lt_of_row n6)).trans n6
  have hB7 : Below w.heap.size w w7 := hBU.trans (hb7.mono hBU.size)
  have sz7 := hb7.size
  have HD7 : Hid (w7.heap[w5.heap.size]? = some (.deferred (some []))) := (hb7.block _ ltD).trans HD.out
  clear kr HD
  gi_wp2
  refine range_w (gf := 67) (lb := #[.pointer (some ⟨g2, 0, none⟩)]) rfl (enters_of Tryz.func67 (by kernel_rfl) rfl) (none_seq g2 l2 rg2) (fun _ _ _ _ h => h.elim) (fun _ _ _ _ _ h _ => h.elim) (fun _ => False) (fun k hk => ⟨by subst hk; exact lt_of_row rg2, id⟩) (fun k hk => hk.elim)
    (fun _ U => U.heap[w3.heap.size + 1]? = some (.cells #[.int .i64 0] 3 (0, 0))) (fun _ _ _ => False) (fun s U V h hb => hb.row h) (fun _ _ _ _ h _ => h) n7 (fun _ => ⟨#[], []⟩) (fun _ _ _ _ _ _ h => h.elim) (fun _ _ _ _ _ _ _ h => h.elim) ?done2 (fun _ _ _ _ h => h.elim)
  rintro X n8 hkc2 hD2
  have hBX : Below w.heap.size w X := ⟨hkc2.os.trans hB7.os, hkc2.tape.trans hB7.tape, hkc2.output.trans hB7.output, Nat.le_trans hB7.size hkc2.size, fun k hk => (hkc2.block k (by omega) (by simp; omega)).trans (hB7.block k hk)⟩
  have szX := hkc2.size
  have HX1 : Hid (X.heap[w5.heap.size]? = some (.deferred (some []))) := (hkc2.block _ (by omega) (by simp; omega)).trans HD7.out
  have HX2 : Hid (X.heap[w7.heap.size]? = some (.deferred (some []))) := hD2
  have c8 := cell_of_row X _ 0 _ _ _ n8
  clear hD2 HD7
  gi_wp2_with fail
  refine ⟨trivial, rfl, (callsIn_wide.2 (drop_nil d X)).mono ?_⟩
  rintro e X1 ⟨rfl, rfl⟩
  gi_wp2_with fail
  refine ⟨trivial, rfl, (callsIn_wide.2 (len_nil X1)).mono ?_⟩
  rintro e X2 ⟨rfl, rfl⟩
  gi_wp2_with fail
  refine ⟨trivial, rfl, (callsIn_wide.2 (addIndex_nil f X2)).mono ?_⟩
  rintro e X3 ⟨rfl, hbX3⟩
  gi_wp2_with fail
  refine ⟨trivial, rfl, (callsIn_wide.2 (indexes_nil X3)).mono ?_⟩
  rintro e X4 ⟨rfl, rfl⟩
  gi_wp2_with fail
  refine ⟨trivial, rfl, (callsIn_wide.2 (tclone_nil X4)).mono ?_⟩
  rintro e X5 ⟨rfl, rfl⟩
  gi_wp2
  have HY2 := (hbX3.block _ (Array.getElem?_eq_some_iff.1 HX2.out).1).trans HX2.out
  have HY1 := (hbX3.block _ (Array.getElem?_eq_some_iff.1 HX1.out).1).trans HX1.out
  refine ⟨by simp, .inl ⟨_, _, rfl, run_takeDeferred HY2, ?_⟩⟩
  refine ⟨by simp, .inl ⟨_, _, rfl, run_takeDeferred ((World.putObj_heap_other (by omega)).trans HY1), ?_⟩⟩
  refine ⟨.bool true, by simp [results, Tryz.results5, go_sem], rfl, ?_⟩
  exact ((hBX.trans (hbX3.mono hBX.size)).trans (B.putObj_below _ _ (by omega))).trans (B.putObj_below _ _ (by omega))
theorem none_walkN (n : Nat) (_ : n < 18446744073709551616) (f : ByteArray) (w : World) (hg : V.Gm w) : Calls Tryz.prog 5 #[.int .u64 (n : Int), .string f] w fun e w' => e = .returned (.bool true) ∧ Below w.heap.size w w' := none_walk n f w hg
end Go.Proofs.YtniljoojoafiaaaGreatDoor
namespace Go.Proofs.YtniljoojoafiaaaGreatDoor.V
open Go.ChangeShapes Go.WideShapes Go.ChangeAt Go.RowKit Go.Deep
theorem laidOut : laidOutB Tryz.prog = true := by kernel_rfl
theorem add_at (g q n : Nat) : (⟨g, q, none⟩ : Addr).add n = ⟨g, q + n, none⟩ := by unfold Addr.add; split <;> simp_all
theorem six_of {l : List Value} (h : l.length = 6) : ∃ a b c d e f, l = [a, b, c, d, e, f] := by
  match l, h with
  | [a, b, c, d, e, f], _ => exact ⟨a, b, c, d, e, f, rfl⟩
theorem some_of {α : Type} {l : List α} {i : Nat} (h : i < l.length) : ∃ x, l[i]? = some x := ⟨l[i], List.getElem?_eq_getElem h⟩
theorem open_names {H : Type} {enc : TypeId × Value → H} {W : World} {fuel : Nat} {cs : List Value} {x : DataW H × List MemPlace}
    (h : DataW.trod enc Tryz.prog W 0 (fun _ => true) true fuel 28 cs = some x) :
    ∃ (na : Option Addr) (q nc : Nat) (g : Nat → ByteArray), cs = [.slice na q nc] ∧ Names W.heap.size W q g na nc := by
  rcases open_strs (P := Tryz.prog) Tryz.underlying28 Tryz.underlying9 (by kernel_rfl) h with ⟨rfl, _⟩ | ⟨a, len, cap, m, S, rfl, _, hl, hm, hmm, _, hall⟩
  · exact ⟨none, 0, 0, fun _ => ⟨#[]⟩, rfl, Nat.le_refl _, Nat.zero_le _, fun i hi => absurd hi (Nat.not_lt_zero _), fun h0 => absurd h0 (Nat.lt_irrefl _)⟩
  · simp only [if_true] at hmm
    subst hmm
    refine ⟨some a, len, m, S, rfl, hl, hm, fun i hi => (hall i (by omega)).2, fun h0 => ?_⟩
    obtain ⟨g, q, spot⟩ := a
    have hspot : spot = none := by simpa [Addr.add] using World.cell?_spot (hall 0 (by omega)).1
    subst hspot
    refine ⟨g, q, rfl, ?_, fun i hi => ?_⟩
    · have := block_lt (hall 0 (by omega)).1
      rw [add_at] at this
      exact this
    · have := (hall i (by omega)).1
      rw [add_at] at this
      exact this
set_option maxRecDepth 100000 in
theorem open_tree {H : Type} {enc : TypeId × Value → H} {W : World} (fuel : Nat) : ∀ {cs : List Value} {x : DataW H × List MemPlace},
    DataW.trod enc Tryz.prog W 0 (fun _ => true) true fuel 34 cs = some x → ∃ t A, cs = Tr.cs t A ∧ Lies W.heap.size W t A := by
  induction fuel using Nat.strongRecOn with
  | _ fuel ih =>
    intro cs x h
    obtain ⟨xs, n, rfl, _, hl, hxl, hf⟩ := DataW.trod_struct Tryz.underlying34 h
    have hc34 : Tryz.prog.cellsOf 34 = 6 := by kernel_rfl
    rw [hc34] at hl
    obtain ⟨c0, c1, c2, c3, c4, c5, rfl⟩ := six_of hl
    have hxl' : xs.length = 6 := hxl
    have hc3 : Tryz.prog.cellsOf 3 = 1 := by kernel_rfl
    have hc4 : Tryz.prog.cellsOf 4 = 1 := by kernel_rfl
    have hc2 : Tryz.prog.cellsOf 2 = 1 := by kernel_rfl
    have hc9 : Tryz.prog.cellsOf 9 = 1 := by kernel_rfl
    have hc32 : Tryz.prog.cellsOf 32 = 1 := by kernel_rfl
    have hc28 : Tryz.prog.cellsOf 28 = 1 := by kernel_rfl
    obtain ⟨y0, e0⟩ := some_of (l := xs) (i := 0) (by omega)
    obtain ⟨y1, e1⟩ := some_of (l := xs) (i := 1) (by omega)
    obtain ⟨y2, e2⟩ := some_of (l := xs) (i := 2) (by omega)
    obtain ⟨y3, e3⟩ := some_of (l := xs) (i := 3) (by omega)
    obtain ⟨y4, e4⟩ := some_of (l := xs) (i := 4) (by omega)
    obtain ⟨y5, e5⟩ := some_of (l := xs) (i := 5) (by omega)
    have f0 : DataW.trod enc Tryz.prog W 0 (fun _ => true) true n 3 [c0] = some y0 := by
      have g : (List.take (Tryz.prog.cellsOf 3) (List.drop 0 [c0, c1, c2, c3, c4, c5])) = [c0] := by rw [hc3]; rfl
      rw [← g, ← e0]
      exact hf 0 _ rfl
    have f1 : DataW.trod enc Tryz.prog W 0 (fun _ => true) true n 4 [c1] = some y1 := by
      have g : (List.take (Tryz.prog.cellsOf 4) (List.drop 1 [c0, c1, c2, c3, c4, c5])) = [c1] := by rw [hc4]; rfl
      rw [← g, ← e1]
      exact hf 1 _ rfl
    have f2 : DataW.trod enc Tryz.prog W 0 (fun _ => true) true n 2 [c2] = some y2 := by
      have g : (List.take (Tryz.prog.cellsOf 2) (List.drop 2 [c0, c1, c2, c3, c4, c5])) = [c2] := by rw [hc2]; rfl
      rw [← g, ← e2]
      exact hf 2 _ rfl
    have f3 : DataW.trod enc Tryz.prog W 0 (fun _ => true) true n 9 [c3] = some y3 := by
      have g : (List.take (Tryz.prog.cellsOf 9) (List.drop 3 [c0, c1, c2, c3, c4, c5])) = [c3] := by rw [hc9]; rfl
      rw [← g, ← e3]
      exact hf 3 _ rfl
    have f4 : DataW.trod enc Tryz.prog W 0 (fun _ => true) true n 32 [c4] = some y4 := by
      have g : (List.take (Tryz.prog.cellsOf 32) (List.drop 4 [c0, c1, c2, c3, c4, c5])) = [c4] := by rw [hc32]; rfl
      rw [← g, ← e4]
      exact hf 4 _ rfl
    have f5 : DataW.trod enc Tryz.prog W 0 (fun _ => true) true n 28 [c5] = some y5 := by
      have g : (List.take (Tryz.prog.cellsOf 28) (List.drop 5 [c0, c1, c2, c3, c4, c5])) = [c5] := by rw [hc28]; rfl
      rw [← g, ← e5]
      exact hf 5 _ rfl
    obtain ⟨k, hk, _, hkw⟩ := DataW.trod_int Tryz.underlying3 f0
    obtain ⟨b, hb, _⟩ := DataW.trod_bool Tryz.underlying4 f1
    obtain ⟨z, hz, _, hzw⟩ := DataW.trod_int Tryz.underlying2 f2
    obtain ⟨s, hs, _, hsw⟩ := DataW.trod_string Tryz.underlying9 f3
    obtain ⟨na, q, nc, g, hn, hnn⟩ := open_names f5
    simp only [List.cons.injEq, and_true] at hk hb hz hs hn
    subst hk hb hz hs hn
    have bk := bounds_i64 hkw
    have bz := bounds_i64 hzw
    rcases DataW.trod_slice Tryz.underlying32 f4 with ⟨hp, _⟩ | ⟨a, len, cap, elems, rest, n', rfl, hp, _, _, hle, hcap, hel, hall, _, _⟩
    · simp only [List.cons.injEq, and_true] at hp
      subst hp
      exact ⟨.mk k b z s 0 (fun _ => .no) q g, ⟨none, 0, na, nc⟩, rfl, .mk (fun _ => ⟨none, 0, none, 0⟩) (by omega) (by omega) hsw ⟨Nat.le_refl _, Nat.zero_le _⟩ (fun h0 => absurd h0 (Nat.lt_irrefl _)) (fun i hi => absurd hi (Nat.not_lt_zero _)) hnn⟩
    · simp only [List.cons.injEq, and_true] at hp
      subst hp
      rw [hc34] at hall
      have each : ∀ i, i < len → ∃ y : Tr × Ad, W.cells? 0 (a.add (i * 6)) 6 = some (y.1.cs y.2) ∧ Lies W.heap.size W y.1 y.2 := by
        intro i hi
        have hi' := hall i hi
        rw [List.getElem?_eq_getElem (by omega)] at hi'
        obtain ⟨cs', h1, h2⟩ := Option.bind_eq_some_iff.1 hi'
        obtain ⟨t, A, rfl, hL⟩ := ih n' (by omega) h2
        exact ⟨(t, A), h1, hL⟩
      haveI : Inhabited (Tr × Ad) := ⟨(.no, ⟨none, 0, none, 0⟩)⟩
      obtain ⟨F, hF⟩ := choose_lt each
      refine ⟨.mk k b z s len (fun i => (F i).1) q g, ⟨some a, cap, na, nc⟩, rfl, .mk (fun i => (F i).2) (by omega) (by omega) hsw ⟨hle, hcap⟩ (fun h0 => ?_) (fun i hi => (hF i hi).2) hnn⟩
      obtain ⟨gb, go, spot⟩ := a
      have hce := fun i hi => World.cells?_some (hF i hi).1
      have hspot : spot = none := by
        have := (hce 0 h0).2.2 0 (by omega)
        simpa [Addr.add] using World.cell?_spot this
      subst hspot
      have hcell : ∀ i, i < len → ∀ j, j < 6 → W.cell? ⟨gb, go + i * 6 + j, none⟩ = ((F i).1.cs (F i).2)[j]? := fun i hi j hj => by
        have := (hce i hi).2.2 j hj
        rw [add_at, add_at] at this
        exact this
      refine ⟨gb, go, rfl, ?_, fun i hi => ⟨hcell i hi 0 (by omega), hcell i hi 1 (by omega), hcell i hi 2 (by omega), hcell i hi 3 (by omega), hcell i hi 4 (by omega), hcell i hi 5 (by omega)⟩⟩
      exact block_lt ((hcell 0 h0 0 (by omega)).trans rfl)
set_option maxRecDepth 100000 in
theorem open_value {H : Type} {enc : TypeId × Value → H} {W : World} {r : Reach} {b0 : Nat} {v : Value} {d : DataW H} {p : List MemPlace}
    (hv : Value.okWide Tryz.prog W r b0 34 v) (h : DataW.Trod enc Tryz.prog W 0 (fun _ => true) true 34 v d p) : ∃ t A, v = Tr.val t A ∧ Lies W.heap.size W t A := by
  obtain ⟨fuel, hf⟩ := h
  obtain ⟨t, A, hc, hL⟩ := open_tree fuel hf
  refine ⟨t, A, ?_, hL⟩
  simp only [Value.okWide, Tryz.underlying34] at hv
  obtain ⟨cs, rfl, _, _⟩ := hv
  have hc' : cs.toList = t.cs A := hc
  show Value.agg cs = Value.agg (t.cs A).toArray
  rw [← hc']
end Go.Proofs.YtniljoojoafiaaaGreatDoor.V
namespace Go.Proofs.YtniljoojoafiaaaGreatDoor
open Go.RowKit
theorem wrap_shaped {H : Type} {enc : TypeId × Value → H} {a : Assume} {C : Checked} {os : Os} {f : FuncId} {fn : Func} {s : ChangeSpec} {conds : List PathCond} {apart fresh handsOn again : Bool} {X : World → Array Value → Prop}
    (hX : ∀ (w w' : World) (args : Array Value), w.heap = w'.heap → X w args → X w' args)
    (own : ownKnob C.prog.godebug = none) (started : os.Started) (noInit : C.prog.inits.idxOf? f = none) (hfn : C.prog.funcs[f]? = some fn)
    (witness : ∃ (w : World) (tape : Tape) (i : Input), w.os = os ∧ (w.forCall tape i).Shaped C.prog ∧ i.vars = [] ∧ Input.okWide C.prog (w.forCall tape i) .any w.heap.size f i ∧
      ((s.pre enc C.prog fn conds apart (w.forCall tape i).memory i.args ∧ X (w.forCall tape i).memory i.args) ∧ sizedMet enc C.prog fn (OpenSpec.ofChange s) apart (w.forCall tape i).memory i.args) ∧ a.holds C.prog (lone (Frame.enter C.prog f i.args .normal) [] (w.forCall tape i)))
    (contract : ∀ (W : World) (base : Nat) (args : Array Value) (ds gs : List (DataW H)) (before : List MemPlace),
      (∀ (j : Nat) t v, fn.params[j]? = some t → args[j]? = some v → Value.okWide C.prog W .any base t v) →
      DataW.Whole enc C.prog fn.params.toList s.vars apart W args.toList ds gs before → W.ShapedOpen C.prog →
      Calls C.prog f args W fun e W' => ∃ v, e = .returned v ∧ s.post enc C.prog fn apart fresh handsOn again W args v W') :
    ReturnsInHanded a C os f .any (fun w args => (s.pre enc C.prog fn conds apart w args ∧ X w args) ∧ sizedMet enc C.prog fn (OpenSpec.ofChange s) apart w args) (s.post enc C.prog fn apart fresh handsOn again) := by
  have _ := hX
  refine returnsInHanded_of_calls own started noInit witness ?_
  intro w tape i _ hsh _ hok hpre _
  obtain ⟨_, _, _, fn', hfn', _, _, _, _, hval⟩ := hok
  have e : fn' = fn := Option.some.inj (hfn'.symm.trans hfn)
  subst e
  obtain ⟨⟨⟨ds, gs, before, hw, _⟩, _⟩, _⟩ := hpre
  have hw' := DataW.Whole.of_heap (w' := w.forCall tape i) (by rfl) hw
  refine (contract (w.forCall tape i) w.heap.size i.args ds gs before hval hw' hsh).mono fun e W' ⟨v, he, hp⟩ => ?_
  subst he
  exact ChangeSpec.post_blind hp
theorem gm_of {W : World} (h : W.ShapedOpen Tryz.prog) : V.Gm W :=
  cell_of_shapedOpen_int (P := Tryz.prog) (g := 0) (t := 3) (zero := #[.int .i64 0]) h (of_decide_eq_true (by kernel_rfl)) (by kernel_rfl) rfl (by kernel_rfl) (by kernel_rfl) Tryz.underlying3
end Go.Proofs.YtniljoojoafiaaaGreatDoor
