/- What a walk over a function with one number collects (slices.AppendSeq, Collect, Sorted). Whether a text may be a name (Name, letter, digit). -/
import Derived.Test.YtniljoojoafiaaaGreatDoorXaj
import Derived.Test.YtniljoojoafiaaaGreatDoorXak
import Derived.RangeFuncBox
import Derived.OwnWalkIn
import Derived.OwnWalk
import Derived.Test.YtniljoojoafiaaaGreatDoorXae
import Derived.Test.YtniljoojoafiaaaGreatDoorXaf
import Derived.BigGuardPart
namespace Go.Proofs.YtniljoojoafiaaaGreatDoor
open Go.RowKit Go.Shelf
attribute [local go_sem] Oper.semAt_some
theorem info31 : (Tryz.prog.info? 31).map (fun i => (i.zero, i.size, i.bytes)) = some (some (.int .u64 0), 1, 8) := by kernel_rfl
theorem pfx_one {d x : Int} {pre : List Int} (h : pre ++ [x] <+: [d]) : pre = [] ∧ x = d := by
  obtain ⟨r, hr⟩ := h
  cases pre with
  | nil => simp at hr; exact ⟨rfl, hr.1⟩
  | cons y ys => simp at hr
/- A list with these numbers in a box. -/
def Bx (n0 b : Nat) (pre : List Int) (W : World) : Prop := ∃ v, Boxed W b 71 v ∧ W.ownsRow n0 31 1 v pre.length (pre.map (Value.int .u64)) ∧ (pre = [] → v = .slice none 0 0)
theorem Bx.st {n0 b m : Nat} {pre : List Int} {U V : World} (h : Bx n0 b pre U) (hs : StW m U V) : Bx n0 b pre V := by
  obtain ⟨v, h1, h2, h3⟩ := h
  refine ⟨v, hs.row h1, ⟨h2.1, ?_⟩, h3⟩
  rcases h2.2 with h | ⟨g, cap, cur, e, hb, hg, r⟩
  · exact Or.inl h
  · exact Or.inr ⟨g, cap, cur, e, hb, hs.row hg, r⟩
set_option maxRecDepth 100000 in
set_option maxHeartbeats 4000000 in
theorem aseq_one {w : World} (g gf : Nat) (d : Int) (A : Nat → Prop) (eg : ∀ args W, (callFunc gf args).run Tryz.prog W = .ok (.enter gf args) W) (hA : ∀ k, A k → k < w.heap.size) (hseq : ∀ W, Below w.heap.size w W → SeqW Tryz.prog gf #[.pointer (some ⟨g, 0, none⟩)] (fun _ (x : Int) ar _ => ar = #[.int .u64 x]) [d] A W) :
    Calls Tryz.prog 100 #[.slice none 0 0, .func (.func gf) #[] #[.pointer (some ⟨g, 0, none⟩)]] w fun e w' => ∃ q c, e = .returned (.slice (some ⟨q, 0, none⟩) 1 c) ∧ w.heap.size ≤ q ∧ w'.cell? ⟨q, 0, none⟩ = some (.int .u64 d) ∧ 1 ≤ c ∧ c ≤ maxLen ∧ Below w.heap.size w w' := by
  obtain ⟨w1, hw1⟩ : ∃ w1, w.alloc (.cells #[.slice none 0 0] 71) = w1 := ⟨_, rfl⟩
  have hb1 : Below w.heap.size w w1 := by rw [← hw1]; exact (Below.refl _ w).alloc (Nat.le_refl _) _
  have s1 : w1.heap.size = w.heap.size + 1 := by rw [← hw1]; simp
  have bx : Boxed w1 w.heap.size 71 (.slice none 0 0) := by rw [← hw1]; exact Boxed.new w 71 _
  have hsq := hseq w1 hb1
  have HW : Hid (w.alloc (.cells #[.slice none 0 0] 71) = w1) := hw1
  clear hw1 hseq
  refine (callsIn_wide (n := 0)).1 ?_
  refine callsIn_of_wp_marks Tryz.func100 rfl trivial ?_ rfl
  simp only [Tryz.ntmps100, List.size_toArray, List.length_cons, List.length_nil, Nat.reduceAdd, Nat.reduceSub, Array.replicate_succ, Array.replicate_zero, List.push_toArray, List.append_toArray, List.nil_append, List.cons_append]
  gi_wp2
  rw [HW.out]
  obtain ⟨i0, hi, hz0, hz1, hz2⟩ := info_parts info31
  refine range_w (gf := gf) (lb := #[.pointer (some ⟨g, 0, none⟩)]) rfl eg hsq (fun _ _ _ _ h => by rw [h]; rfl) (fun _ _ _ _ _ h _ => h) (fun k => k = w.heap.size)
    (fun k hk => ⟨by have := hA k hk; omega, by have := hA k hk; omega⟩) (fun k hk => by omega)
    (fun pre W => Bx w.heap.size w.heap.size pre W ∧ Below w.heap.size w W)
    (fun _ _ _ => False)
    (fun s U V ⟨h0, h3⟩ hb => ⟨h0.st hb, h3.trans ⟨hb.os, hb.tape, hb.output, hb.size, fun k hk => hb.block k (Nat.lt_of_lt_of_le hk h3.size) (Or.inl (by omega))⟩⟩)
    (fun _ _ _ _ h _ => h) ⟨⟨_, bx, ⟨rfl, Or.inl ⟨rfl, rfl⟩⟩, fun _ => rfl⟩, hb1⟩
    (fun ar => { tmps := #[.slice none 0 0, .func (.func gf) #[] #[.pointer (some ⟨g, 0, none⟩)], .pointer (some ⟨w.heap.size, 0, none⟩), undef, .slice none 0 0, ar.getD 0 undef, .func (.func gf) #[] #[.pointer (some ⟨g, 0, none⟩)], ar.getD 0 undef, undef, undef, undef, undef, undef], defers := [] }) ?assign ?body ?done ?stop
  case assign =>
    intro l D x ar W K he hK
    subst he
    have e : (#[Value.int .u64 x] : Array Value).getD 0 undef = .int .u64 x := rfl
    simp only [e] at hK
    gi_wp2
    exact hK
  case body =>
    rintro l D pre x ar W hCD he ⟨⟨v, h1, h2, h3⟩, h4⟩ hp hsz
    obtain ⟨rfl, rfl⟩ := pfx_one hp
    obtain rfl := h3 rfl
    subst he
    have e : (#[Value.int .u64 x] : Array Value).getD 0 undef = .int .u64 x := rfl
    simp only [e]
    have c0 := h1.cell
    gi_wp2_with (first
      | (gi_at_builtin; refine wpListIn_append_own _ rfl _ _ 71 rfl w.heap.size 31 i0 (.int .u64 0) 1 8 Tryz.underlying71 hi hz0 hz1 hz2 rfl (by decide) _ _ _ rfl (h2.alloc _) ⟨W.heap.size, 0, none⟩ 1 1 [.int .u64 x] rfl rfl (cell_one_new _ _ _) (by simp [Value.oneCell']) (by decide) (by decide) (by have := h4.size; simp; omega) ?_; intro v' w3 hown' hg3 hnil3; obtain ⟨q, c, rfl⟩ := ownsRow_succ hown'; obtain ⟨k1, k2, k3, k4, k5⟩ := Boxed.appended h1 (by decide) h2 h4.size (Nat.le_refl _) hown' hg3; have c3 := k1.cell; have f3 := k1.frozen)
      | gi_in)
    have hkc : B.KC (fun k => k = w.heap.size) W (w3.setCell ⟨w.heap.size, 0, none⟩ (.slice (some ⟨q, 0, none⟩) (([] : List Int).length + 1) c)) := by
      refine B.KC.setCell (C := fun k => k = w.heap.size) ?_ (b := w.heap.size) (o := 0) rfl _
      have a1 := World.grownBy_alloc W (.cells #[.int .u64 x] 31) none
      have hg4 : (W.alloc (.cells #[.int .u64 x] 31)).grownBy w3 none := hg3
      exact ⟨hg4.os.trans a1.os, hg4.tape.trans a1.tape, hg4.output.trans a1.output, Nat.le_trans a1.size hg4.size, fun k hk hc => (hg4.block k (by simp; omega) (by simp)).trans (a1.block k hk (by simp))⟩
    exact ⟨hkc, ⟨_, k2, k3, fun h => by cases h⟩, h4.trans k5⟩
  case done =>
    rintro W ⟨⟨v, h1, h2, h3⟩, h4⟩ hkc hD
    obtain ⟨q, c, rfl⟩ := ownsRow_succ h2
    have c0 := h1.cell
    have HD : Hid (W.heap[w1.heap.size]? = some (.deferred (some []))) := hD
    clear hD
    gi_wp2
    refine ⟨by simp, .inl ⟨_, _, rfl, run_takeDeferred HD.out, ?_⟩⟩
    refine ⟨.slice (some ⟨q, 0, none⟩) 1 c, by simp [results, Tryz.results100, go_sem], ?_⟩
    have hbp : Below w.heap.size w (W.putObj w1.heap.size (.deferred none)) := h4.trans (B.putObj_below _ _ (by omega))
    rcases h2.2 with ⟨h, _⟩ | ⟨g', cap, cur, e, hq, hg, r1, r2, r3, r4⟩
    · cases h
    · injection e with e1 _ e3
      injection e1 with e1
      injection e1 with e1
      subst e1 e3
      refine ⟨q, c, rfl, hq, ?_, r1, r2, hbp⟩
      have hne : q ≠ w1.heap.size := fun e => by
        rw [e, HD.out] at hg
        cases hg
      have hg2 := (World.putObj_heap_other (o := .deferred none) hne).trans hg
      rw [cell_of_row _ q 0 _ _ _ hg2, ← Array.getElem?_toList]
      have r5 : cur.toList.take 1 = [.int .u64 d] := r4
      cases hcl : cur.toList with
      | nil => rw [hcl] at r5; cases r5
      | cons a l =>
        rw [hcl] at r5
        simp at r5
        rw [r5]; rfl
  case stop => exact fun _ _ _ _ h => h.elim
end Go.Proofs.YtniljoojoafiaaaGreatDoor
namespace Go.Proofs.YtniljoojoafiaaaGreatDoor.V
open Go.RowKit
def digitB (x : Int) : Bool := decide (48 ≤ x) && decide (x ≤ 57)
def letterB (x : Int) : Bool := decide (97 ≤ x) && decide (x ≤ 122) || decide (65 ≤ x) && decide (x ≤ 90)
set_option maxRecDepth 100000 in
set_option maxHeartbeats 400000 in
theorem digit_any (x : Int) (w : World) : Calls Tryz.prog 150 #[.int .u8 x] w fun e w' => e = .returned (.bool (digitB x)) ∧ w' = w := by
  obtain ⟨F, hF⟩ : ∃ F, digitB x = F := ⟨_, rfl⟩
  rw [hF]
  have HF : Hid (digitB x = F) := hF
  clear hF
  go_enter Tryz.func150, Tryz.ntmps150
  go_wp2
  all_goals
    go_ret
    refine ⟨?_, rfl⟩
    have := HF.out
    unfold digitB at this
    subst this
    simp_all
  all_goals (first | (intros; omega) | (constructor <;> intros <;> omega) | (rw [Bool.eq_iff_iff]; simp; try (intros; omega)))
set_option maxRecDepth 100000 in
set_option maxHeartbeats 400000 in
theorem letter_any (x : Int) (w : World) : Calls Tryz.prog 151 #[.int .u8 x] w fun e w' => e = .returned (.bool (letterB x)) ∧ w' = w := by
  obtain ⟨F, hF⟩ : ∃ F, letterB x = F := ⟨_, rfl⟩
  rw [hF]
  have HF : Hid (letterB x = F) := hF
  clear hF
  go_enter Tryz.func151, Tryz.ntmps151
  go_wp2
  all_goals
    go_ret
    refine ⟨?_, rfl⟩
    have := HF.out
    unfold letterB at this
    subst this
    simp_all
  all_goals (first | (intros; omega) | (constructor <;> intros <;> omega) | (rw [Bool.eq_iff_iff]; simp; try (intros; omega)))
def chr (s : ByteArray) (i : Nat) : Int := (byteAt s i : Int)
set_option maxRecDepth 100000 in
theorem chr_eq (s : ByteArray) (i : Nat) (h : i < s.size) : ((s[i].toNat : Nat) : Int) = chr s i := by
  unfold chr byteAt
  have hl : i < s.data.toList.length := by rw [← Lib.size_eq]; exact h
  rw [List.getD_eq_getElem?_getD, List.getElem?_eq_getElem hl]
  rfl
def okB (x : Int) : Bool := letterB x || digitB x || decide (x = 95)
def nameB (s : ByteArray) : Bool := decide (0 < s.size) && decide (s.size ≤ 16) && !digitB (chr s 0) && decide (∀ i, i < s.size → okB (chr s i) = true)
set_option maxRecDepth 100000 in
theorem empty_size (s : ByteArray) : s.toList.isEmpty = decide (s.size = 0) := by
  rw [Lib.toList_data]
  have := Lib.size_eq s
  cases h : s.data.toList with
  | nil => rw [h] at this; simp at this; simp [this]
  | cons a l => rw [h] at this; simp at this; simp [this]
set_option maxRecDepth 100000 in
theorem nameB_no {s : ByteArray} {i : Nat} (h : i < s.size) (h1 : letterB (chr s i) = false) (h2 : digitB (chr s i) = false) (h3 : (chr s i != 95) = true) : nameB s = false := by
  have : decide (∀ i, i < s.size → okB (chr s i) = true) = false := by
    rw [decide_eq_false_iff_not]
    intro hh
    have := hh i h
    unfold okB at this
    rw [h1, h2] at this
    simp_all
  unfold nameB
  rw [this, Bool.and_false]
set_option maxRecDepth 100000 in
theorem nameB_yes {s : ByteArray} (h0 : 0 < s.size) (h1 : s.size ≤ 16) (h2 : digitB (chr s 0) = false) (h3 : ∀ i, i < s.size → okB (chr s i) = true) : nameB s = true := by
  unfold nameB
  rw [h2, decide_eq_true h0, decide_eq_true h1, decide_eq_true h3]; rfl
set_option maxRecDepth 100000 in
theorem okB_step {s : ByteArray} {i : Nat} (h : ∀ j, j < i → okB (chr s j) = true) (h1 : okB (chr s i) = true) : ∀ j, j < i + 1 → okB (chr s j) = true := fun j hj => by
  rcases Nat.lt_or_ge j i with k | k
  · exact h j k
  · obtain rfl : j = i := by omega
    exact h1
set_option maxRecDepth 100000 in
set_option maxHeartbeats 1000000 in
theorem name_in (s : ByteArray) (h2 : 0 < s.size) (h1 : s.size ≤ 16) (w : World) : Calls Tryz.prog 116 #[.string s] w fun e w' => e = .returned (.bool (nameB s)) ∧ w' = w := by
  have h0 : s.toList.isEmpty = false := by rw [empty_size]; exact decide_eq_false (by omega)
  have h1' : (s.size : Int) ≤ 16 := by omega
  have h2' : 0 < (s.size : Int) := by omega
  obtain ⟨F, hF⟩ : ∃ F, nameB s = F := ⟨_, rfl⟩
  rw [hF]
  have HF : Hid (nameB s = F) := hF
  clear hF
  go_enter Tryz.func116, Tryz.ntmps116
  go_wp2_with fail
  refine (digit_any _ _).mono ?_
  rintro e w ⟨rfl, rfl⟩
  rw [chr_eq s 0 h2]
  cases hd : digitB (chr s 0) with
  | true =>
    go_wp2
    go_ret
    refine ⟨?_, rfl⟩
    have := HF.out
    unfold nameB at this
    rw [hd, Bool.not_true, Bool.and_false, Bool.false_and] at this
    rw [← this]
    rfl
  | false =>
    have HD : Hid (digitB (chr s 0) = false) := hd
    clear hd
    go_wp2_with fail
    go_loopw [18] (fun c18 wr => ∃ i : Nat, i ≤ s.size ∧ c18 = .int .i64 (i : Int) ∧ (∀ j, j < i → okB (chr s j) = true) ∧ wr = w) (fun c18 _ => s.size - (intOf c18).toNat)
    case atStart => exact ⟨0, by omega, rfl, fun j hj => by omega, rfl⟩
    case round =>
      obtain ⟨i, hi, rfl, hj, rfl⟩ := hrel
      have HJ : Hid (∀ j, j < i → okB (chr s j) = true) := hj
      clear hj
      go_wp2_with (first | (go_at_call 150; refine (digit_any _ _).mono ?_; rintro e w ⟨rfl, rfl⟩) | (go_at_call 151; refine (letter_any _ _).mono ?_; rintro e w ⟨rfl, rfl⟩))
      · have a1 : i < s.size := by assumption
        have a2 : letterB (chr s i) = false := by rw [← chr_eq s i a1]; assumption
        have a3 : digitB (chr s i) = false := by rw [← chr_eq s i a1]; assumption
        have a4 : (chr s i != 95) = true := by rw [← chr_eq s i a1]; assumption
        go_ret
        exact ⟨by rw [← HF.out, nameB_no a1 a2 a3 a4]; rfl, rfl⟩
      · have a1 : i < s.size := by assumption
        have a4 : (chr s i != 95) = false := by rw [← chr_eq s i a1]; assumption
        go_roundw
        case rel =>
          refine ⟨i + 1, by omega, by go_num, okB_step HJ.out ?_, by trivial⟩
          unfold okB
          rw [bne_eq_false_iff_eq] at a4
          rw [a4]; rfl
        case measure => simp [intOf]; omega
      · have a1 : i < s.size := by assumption
        have a3 : digitB (chr s i) = true := by rw [← chr_eq s i a1]; assumption
        go_roundw
        case rel =>
          refine ⟨i + 1, by omega, by go_num, okB_step HJ.out ?_, by trivial⟩
          unfold okB
          rw [a3]; simp
        case measure => simp [intOf]; omega
      · have a1 : i < s.size := by assumption
        have a2 : letterB (chr s i) = true := by rw [← chr_eq s i a1]; assumption
        go_roundw
        case rel =>
          refine ⟨i + 1, by omega, by go_num, okB_step HJ.out ?_, by trivial⟩
          unfold okB
          rw [a2]; simp
        case measure => simp [intOf]; omega
      · go_ret
        obtain rfl : i = s.size := by omega
        exact ⟨by rw [← HF.out, nameB_yes h2 h1 HD.out HJ.out]; rfl, rfl⟩
set_option maxRecDepth 100000 in
set_option maxHeartbeats 1000000 in
theorem name_any (s : ByteArray) (w : World) : Calls Tryz.prog 116 #[.string s] w fun e w' => e = .returned (.bool (nameB s)) ∧ w' = w := by
  by_cases h2 : 0 < s.size
  · by_cases h1 : s.size ≤ 16
    · exact name_in s h2 h1 w
    · have hN : nameB s = false := by unfold nameB; rw [decide_eq_false h1]; simp
      rw [hN]
      clear hN
      have h0 : s.toList.isEmpty = false := by rw [empty_size]; exact decide_eq_false (by omega)
      have h1' : ¬ (s.size : Int) ≤ 16 := by omega
      have h1'' : (16 : Int) < (s.size : Int) := by omega
      go_enter Tryz.func116, Tryz.ntmps116
      go_wp2
      go_ret
      exact ⟨rfl, rfl⟩
  · have hN : nameB s = false := by unfold nameB; rw [decide_eq_false h2]; simp
    rw [hN]
    clear hN
    have h0 : s.toList.isEmpty = true := by rw [empty_size]; exact decide_eq_true (by omega)
    go_enter Tryz.func116, Tryz.ntmps116
    go_wp2
    go_ret
    exact ⟨rfl, rfl⟩
end Go.Proofs.YtniljoojoafiaaaGreatDoor.V
