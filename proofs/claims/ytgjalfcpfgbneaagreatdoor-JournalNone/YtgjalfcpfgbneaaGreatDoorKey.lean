/- The keys of a map with one entry, handed to a loop's body; slices.Sort of one element. -/
import Derived.Test.YtgjalfcpfgbneaaGreatDoorRgf
import Derived.Maps.RangeWalk
import Derived.Maps.Views
import Derived.Maps.Keyed
namespace Go.Proofs.YtgjalfcpfgbneaaGreatDoor
open Go.RowKit Go.Maps
attribute [local go_sem] Oper.semAt_some
def D1 (d : Int) (v : DataW Unit) : DataW Unit := .map [(.int .i64 d, v)]
theorem D1_has {d : Int} {v : DataW Unit} : Maps.has (D1 d v) (.int .i64 d) = true := Maps.has_put_same (D := .map []) (k := Lit.int .i64 d) ⟨_, rfl⟩ (by exact trivial) v
theorem D1_no {d : Int} {k : Lit} (h : k ≠ .int .i64 d) (v : DataW Unit) : Maps.has (D1 d v) k = false := by
  show Maps.has ((DataW.map []).put (.int .i64 d) v) k = false
  rw [Maps.has_put_other h]
  rfl
theorem Mp.lt {w : World} {m k : Nat} {D : DataW Unit} (h : Mp w m k D) : m < w.heap.size := World.ownsMap.lt h
set_option maxRecDepth 100000 in
theorem keys_box (m : Nat) (w : World) : Calls Tryz.prog 66 #[.map (some m)] w fun e w' => e = .returned (.func (.func 90) #[] #[.pointer (some ⟨w.heap.size, 0, none⟩)]) ∧ w' = w.alloc (.cells #[.map (some m)] 67) := by
  go_enter Tryz.func66, Tryz.ntmps66
  go_wp2
  go_ret
  exact ⟨rfl, rfl⟩
theorem ranges_kc {C : Nat → Prop} {w w' : World} {K : TypeId} {b r n : Nat} {D : DataW Unit} {left : Lit → Bool} {cnt : Nat} (h : w.ranges Tryz.prog K ptrR b r n D left cnt) (hk : KC C w w') (hb : ¬ C b) (hr : ¬ C r) : w'.ranges Tryz.prog K ptrR b r n D left cnt := by
  have l1 := h.owns.lt
  have l2 := h.lt
  obtain ⟨es, clock, since, seen, c0, h1, F, hs, hD, h2, rest⟩ := h
  exact ⟨es, clock, since, seen, c0, (hk.block b l1 hb).trans h1, F, hs, hD, (hk.block r l2 hr).trans h2, rest⟩
theorem next_st {w w' : World} {K : TypeId} {b r n : Nat} {D : DataW Unit} {left : Lit → Bool} {cnt : Nat} (h : w.ranges Tryz.prog K ptrR b r n D left cnt) (hg : w.grownBy w' (some r)) : StW r w w' := by
  obtain ⟨es, clock, since, seen, c0, h1, F, hs, hD, h2, rest⟩ := h
  refine ⟨hg.os, hg.tape, hg.output, hg.size, fun k hk hw => hg.block k hk (fun e => ?_)⟩
  injection e with e
  subst e
  rcases hw with hw | hw
  · omega
  · have := hw _ h2
    cases this
set_option maxRecDepth 100000 in
set_option maxHeartbeats 8000000 in
theorem keys_seq {w : World} (g m : Nat) (d : Int) (v : DataW Unit) (hg : w.heap[g]? = some (.cells #[.map (some m)] 67 (0, 0))) (hm : Mp w m 1 (D1 d v)) :
    SeqW Tryz.prog 90 #[.pointer (some ⟨g, 0, none⟩)] (fun _ (x : Int) ar _ => ar = #[.int .i64 x]) [d] (fun k => k = g ∨ k = m) w := by
  intro C l J Jx W hbW hA hCW hJ hJx hY h0
  have hgC : ¬ C g := hA _ (Or.inl rfl)
  have hmC : ¬ C m := hA _ (Or.inr rfl)
  have hrC : ¬ C W.heap.size := fun h => absurd (hCW _ h) (by omega)
  have hgW := (hbW.block _ (lt_of_row hg)).trans hg
  have hc := cell_of_row W g 0 _ _ _ hgW
  have hown : W.ownsMap Tryz.prog 3 ptrR m 1 (D1 d v) := mp_kept hm (hbW.block _ hm.lt)
  refine callsIn_of_wp Tryz.func90 rfl trivial ?_ rfl
  simp only [Tryz.ntmps90, List.size_toArray, List.length_cons, List.length_nil, Nat.reduceAdd, Nat.reduceSub, Array.replicate_succ, Array.replicate_zero, List.push_toArray, List.append_toArray, List.nil_append, List.cons_append]
  have HY : Hid (∀ pre x U, J pre U → pre ++ [x] <+: [d] → YieldAt Fence.wide 0 Tryz.prog l #[.int .i64 x] U fun e V => (e = .returned (.bool true) ∧ J (pre ++ [x]) V ∧ KC C U V) ∨ (e = .returned (.bool false) ∧ Jx (pre ++ [x]) V ∧ KC C U V)) := fun pre x U h1 h2 => hY pre x _ U h1 h2 rfl
  have HJ : Hid (∀ s U V, J s U → StW W.heap.size U V → J s V) := hJ
  clear hY hJ hJx
  gi_wp2_with (first
    | (gi_at_range; refine wpListIn_range_own _ rfl _ 67 rfl 3 92 keyed3 Tryz.underlying67 _ m 1 _ rfl hown ?_; intro w0 hrg0 hg0 hs0)
    | gi_in)
  try go_frame
  have hJ0 : J [] w0 := HJ.out _ _ _ h0 ⟨hg0.os, hg0.tape, hg0.output, hg0.size, fun k hk _ => hg0.block k hk (by simp)⟩
  have hk0 : KC C W w0 := ⟨hg0.os, hg0.tape, hg0.output, hg0.size, fun k hk _ => hg0.block k hk (by simp)⟩
  clear hc h0 hg0 hs0
  gi_loopw [3] (fun _ wr => ∃ (left : Lit → Bool) (cnt : Nat) (pre : List Int), wr.ranges Tryz.prog 3 ptrR m W.heap.size 1 (D1 d v) left cnt ∧ ((pre = [] ∧ left = Maps.has (D1 d v)) ∨ (pre = [d] ∧ ∀ kl, left kl = false)) ∧ J pre wr ∧ KC C W wr)
    (fun _ wr => wr.rangeLeft m W.heap.size)
  case atStart => exact ⟨_, _, [], hrg0, Or.inl ⟨rfl, rfl⟩, hJ0, hk0⟩
  case round =>
    clear hrg0 hJ0 hk0
    obtain ⟨left, cnt, pre, hrg, hst, hJr, hkr⟩ := hrel
    gi_wp2_with (first
      | (gi_at_next; refine wpListIn_next_ranges _ rfl _ rfl 3 keyed3 ptrR (Value.int .i64) id (fun key kl hk => by obtain ⟨x, hx, _⟩ := Maps.keyOf_int_inv Tryz.underlying3 hk; exact ⟨x, hx⟩) (fun v _ _ => ⟨v, rfl⟩) m W.heap.size 1 _ _ _ rfl hrg ?_ ?_)
      | gi_in)
    · intro hc0 hl0
      gi_wp2
      go_end0
      rcases hst with ⟨rfl, hl⟩ | ⟨rfl, -⟩
      · have := hl0 (.int .i64 d)
        rw [hl, D1_has] at this
        cases this
      · exact ⟨⟨_, rfl⟩, Or.inl hJr, hkr⟩
    · intro x c kl yd yp w2 cnt2 hkey hlk hv hat hrg2 hlt hg2 hs2 hen
      obtain ⟨x', ex, rfl, _⟩ := Maps.keyOf_int_inv Tryz.underlying3 hkey
      injection ex with _ ex
      subst ex
      have hx : pre = [] ∧ left = Maps.has (D1 d v) ∧ x = d := by
        rcases hst with ⟨h1, h2⟩ | ⟨h1, h2⟩
        · refine ⟨h1, h2, ?_⟩
          by_cases he : x = d
          · exact he
          · have h3 := D1_no (d := d) (k := .int .i64 x) (fun e => he (by injection e)) v
            rw [h2, h3] at hlk
            cases hlk
        · rw [h2] at hlk
          cases hlk
      obtain ⟨rfl, rfl, rfl⟩ := hx
      clear hst hlk
      have hsz := hkr.size
      have hJ2 : J [] w2 := HJ.out _ _ _ hJr (next_st hrg hg2)
      have hk2 : KC C W w2 := ⟨hg2.os.trans hkr.os, hg2.tape.trans hkr.tape, hg2.output.trans hkr.output, Nat.le_trans hkr.size hg2.size, fun k hk hc => (hg2.block k (by omega) (fun e => by injection e with e; omega)).trans (hkr.block k hk hc)⟩
      obtain ⟨fn, tmps, assign, body, hy, hR⟩ := YieldAt.inAny (m' := 0) (HY.out [] x w2 hJ2 (by simp))
      clear hs2
      gi_wp2
      refine ⟨rfl, hR.mono ?_⟩
      rintro e W3 (⟨rfl, hJ3, hk3⟩ | ⟨rfl, hJx3, hk3⟩)
      · gi_wp2
        have hrg3 := ranges_kc hrg2 hk3 hmC hrC
        go_roundw
        case rel => exact ⟨_, cnt2, [x], hrg3, Or.inr ⟨rfl, fun kl => by
          by_cases he : kl = .int .i64 x
          · subst he
            simp [Lit.sameKey]
          · rw [D1_no he]; rfl⟩, hJ3, hk2.trans hk3⟩
        case measure => rw [hrg3.left_eq, hrg.left_eq]; exact hlt
      · gi_wp2
        refine bodyPost_ret (results_none rfl _ _ _) rfl ?_
        exact ⟨⟨_, rfl⟩, Or.inr ⟨[x], by simp, hJx3⟩, hk2.trans hk3⟩
/- slices.Sort of a list with one element. -/
set_option maxRecDepth 100000 in
theorem ins1 (p : Option Addr) (c : Nat) (w : World) : Calls Tryz.prog 105 #[.slice p 1 c, .int .i64 0, .int .i64 1] w fun e w' => e = .returned (.tuple #[]) ∧ w' = w := by
  go_enter Tryz.func105, Tryz.ntmps105
  go_wp2
  go_loopw [6] (fun v wr => v = .int .i64 1 ∧ wr = w) (fun _ _ => 0)
  case atStart => exact ⟨rfl, rfl⟩
  case round =>
    obtain ⟨rfl, rfl⟩ := hrel
    go_wp2
    exact bodyPost_end (results_none Tryz.results105 _ _ _) rfl ⟨rfl, rfl⟩
set_option maxRecDepth 100000 in
theorem pdq1 (p : Option Addr) (c : Nat) (n : Int) (w : World) : Calls Tryz.prog 99 #[.slice p 1 c, .int .i64 0, .int .i64 1, .int .i64 n] w fun e w' => e = .returned (.tuple #[]) ∧ w' = w := by
  have ki := ins1 p c w
  go_enter Tryz.func99, Tryz.ntmps99
  go_wp2
  go_loopw [1, 2] (fun v1 v2 wr => v1 = .int .i64 0 ∧ v2 = .int .i64 1 ∧ wr = w) (fun _ _ _ => 0)
  case atStart => exact ⟨rfl, rfl, rfl⟩
  case round =>
    obtain ⟨rfl, rfl, rfl⟩ := hrel
    go_wp2_with fail
    refine ki.mono ?_
    rintro e w1 ⟨rfl, rfl⟩
    go_wp2
    exact bodyPost_ret (results_none Tryz.results99 _ _ _) rfl ⟨rfl, rfl⟩
set_option maxRecDepth 100000 in
theorem len64_1 (w : World) : Calls Tryz.prog 115 #[.int .u64 1] w fun e w' => (∃ n : Int, e = .returned (.int .i64 n)) ∧ w' = w := by
  go_enter Tryz.func115, Tryz.ntmps115
  go_wp2
  go_ret
  exact ⟨⟨_, rfl⟩, rfl⟩
set_option maxRecDepth 100000 in
theorem len_1 (w : World) : Calls Tryz.prog 100 #[.int .u64 1] w fun e w' => (∃ n : Int, e = .returned (.int .i64 n)) ∧ w' = w := by
  have k := len64_1 w
  go_enter Tryz.func100, Tryz.ntmps100
  go_wp2_with fail
  refine k.mono ?_
  rintro e w1 ⟨⟨n, rfl⟩, rfl⟩
  go_wp2
  go_ret
  exact ⟨⟨_, rfl⟩, rfl⟩
set_option maxRecDepth 100000 in
theorem sort1 (p : Option Addr) (c : Nat) (w : World) : Calls Tryz.prog 89 #[.slice p 1 c] w fun e w' => e = .returned (.tuple #[]) ∧ w' = w := by
  have k := len_1 w
  go_enter Tryz.func89, Tryz.ntmps89
  go_wp2_with fail
  refine k.mono ?_
  rintro e w1 ⟨⟨n, rfl⟩, rfl⟩
  go_wp2_with fail
  refine (pdq1 p c n w1).mono ?_
  rintro e w2 ⟨rfl, rfl⟩
  go_wp2
  exact bodyPost_end (results_none Tryz.results89 _ _ _) rfl ⟨rfl, rfl⟩
end Go.Proofs.YtgjalfcpfgbneaaGreatDoor
