/- KeysEqual, called: a region with three calls, the span of one value, and the walk. -/
import Derived.Test.YtaacbcnpagpdnaaDoorKpair
import Derived.Test.YtaacbcnpagpdnaaDoorKlen
import Derived.Test.YtaacbcnpagpdnaaDoorKord
import Derived.Test.YtaacbcnpagpdnaaDoorKspan
import Derived.Test.YtaacbcnpagpdnaaDoorKnext
import Derived.Test.YtaacbcnpagpdnaaDoorKawake
import Derived.Test.YtaacbcnpagpdnaaDoorRef
import Derived.Deep.QuietTactic
import Derived.Deep.DrawnRows
import Derived.BigQuiet
namespace Go.Proofs.YtaacbcnpagpdnaaDoor
open Go.RowKit
structure PJ (d0 d1 d2 d3 d4 s5 : Nat) (ra rb : Array Value) (T U : Tr) (S : Bool) (a0 : Act) (w0 : World) (l : Array Bool) (a : Act) (w : World) (A C : Ad) : Prop where
  len : l.size = 6
  df : a.defers = a0.defers
  sz : a.tmps.size = a0.tmps.size
  rest : ∀ j, j ≠ d0 → j ≠ d1 → j ≠ d2 → j ≠ d3 → j ≠ d4 → j ≠ s5 → a.tmps.getD j undef = a0.tmps.getD j undef
  v0 : l.getD 0 false = true → a.tmps.getD d0 undef = .agg ra
  v1 : l.getD 1 false = true → a.tmps.getD d1 undef = T.val A
  v2 : l.getD 2 false = true → a.tmps.getD d2 undef = .agg rb
  v3 : l.getD 3 false = true → a.tmps.getD d3 undef = U.val C
  v4 : l.getD 4 false = true → a.tmps.getD d4 undef = .bool S
  v5 : l.getD 5 false = true → a.tmps.getD s5 undef = .bool S
  hb : Below w0.heap.size w0 w
  l1 : l.getD 1 false = true → Lies w.heap.size w T A
  l3 : l.getD 3 false = true → Lies w.heap.size w U C
theorem PJ.put {d0 d1 d2 d3 d4 s5 : Nat} {ra rb : Array Value} {T U : Tr} {S : Bool} {a0 : Act} {w0 w w' : World} {l : Array Bool} {a : Act} {A C A' C' : Ad} (H : PJ d0 d1 d2 d3 d4 s5 ra rb T U S a0 w0 l a w A C) (i d : Nat) (v : Value)
    (hd : d = d0 ∨ d = d1 ∨ d = d2 ∨ d = d3 ∨ d = d4 ∨ d = s5) (hb : Below w.heap.size w w')
    (hv0 : (l.setIfInBounds i true).getD 0 false = true → (a.put (some d) v).tmps.getD d0 undef = .agg ra)
    (hv1 : (l.setIfInBounds i true).getD 1 false = true → (a.put (some d) v).tmps.getD d1 undef = T.val A')
    (hv2 : (l.setIfInBounds i true).getD 2 false = true → (a.put (some d) v).tmps.getD d2 undef = .agg rb)
    (hv3 : (l.setIfInBounds i true).getD 3 false = true → (a.put (some d) v).tmps.getD d3 undef = U.val C')
    (hv4 : (l.setIfInBounds i true).getD 4 false = true → (a.put (some d) v).tmps.getD d4 undef = .bool S)
    (hv5 : (l.setIfInBounds i true).getD 5 false = true → (a.put (some d) v).tmps.getD s5 undef = .bool S)
    (h1 : (l.setIfInBounds i true).getD 1 false = true → Lies w'.heap.size w' T A') (h3 : (l.setIfInBounds i true).getD 3 false = true → Lies w'.heap.size w' U C') :
    PJ d0 d1 d2 d3 d4 s5 ra rb T U S a0 w0 (l.setIfInBounds i true) (a.put (some d) v) w' A' C' where
  len := by simp [H.len]
  df := H.df
  sz := (put_size' _ _ _).trans H.sz
  rest := fun j j0 j1 j2 j3 j4 j5 => by
    have : d ≠ j := by rcases hd with rfl | rfl | rfl | rfl | rfl | rfl <;> exact Ne.symm ‹_›
    exact (put_ne this).trans (H.rest j j0 j1 j2 j3 j4 j5)
  v0 := hv0
  v1 := hv1
  v2 := hv2
  v3 := hv3
  v4 := hv4
  v5 := hv5
  hb := H.hb.trans (hb.mono H.hb.size)
  l1 := h1
  l3 := h3
def tripReadyB (ops : Array Oper) (l : Array Bool) : Bool :=
  (Region.ready .any ops l).all fun i => decide (i < 6) && !l.getD i true && (i != 1 || l.getD 0 false) && (i != 3 || l.getD 2 false) && (i != 4 || (l.getD 1 false && l.getD 3 false)) && (i != 5 || l.getD 4 false)
def tripDoneB (ops : Array Oper) (l : Array Bool) : Bool := !(Region.ready .any ops l).isEmpty || (l.getD 0 false && l.getD 1 false && l.getD 2 false && l.getD 3 false && l.getD 4 false && l.getD 5 false)
def tripAllB (p : Array Bool → Bool) : Bool := (List.range 64).all fun n => p #[n.testBit 0, n.testBit 1, n.testBit 2, n.testBit 3, n.testBit 4, n.testBit 5]
theorem tripAll {p : Array Bool → Bool} (h : tripAllB p = true) {l : Array Bool} (hl : l.size = 6) : p l = true := by
  obtain ⟨l⟩ := l
  match l, hl with
  | [b0, b1, b2, b3, b4, b5], _ =>
    have hx : ∃ n, n < 64 ∧ #[n.testBit 0, n.testBit 1, n.testBit 2, n.testBit 3, n.testBit 4, n.testBit 5] = #[b0, b1, b2, b3, b4, b5] := by
      refine ⟨b0.toNat + 2 * b1.toNat + 4 * b2.toNat + 8 * b3.toNat + 16 * b4.toNat + 32 * b5.toNat, ?_, ?_⟩
      · cases b0 <;> cases b1 <;> cases b2 <;> cases b3 <;> cases b4 <;> cases b5 <;> decide
      · revert b0 b1 b2 b3 b4 b5
        decide +kernel
    obtain ⟨n, hn, he⟩ := hx
    have := List.all_eq_true.1 h n (List.mem_range.2 hn)
    rw [he] at this
    exact this
set_option maxHeartbeats 4000000 in
theorem trip_region {P : Program} {ops : Array Oper} {Q : Exit → Act → World → Prop} {id : Nat} {a0 : Act} {w : World} (hm : P.follows .mixedOrders = true)
    {tl : TypeId} {sx sy d0 d1 d2 d3 d4 s5 : Nat} {ra rb : Array Value} {T U : Tr} {S : Bool} {o0 o1 o2 o3 o4 o5 : Oper} {f f' g : FuncId} {xs xs' : Array Value} {bx bx' : Nat} {tb tb' : TypeId} {dl : TypeDesc}
    (hops : ops = #[o0, o1, o2, o3, o4, o5]) (hready : tripAllB (tripReadyB ops) = true) (hdone : tripAllB (tripDoneB ops) = true)
    (hg : o0.guard = none ∧ o1.guard = none ∧ o2.guard = none ∧ o3.guard = none ∧ o4.guard = none ∧ o5.guard = none)
    (hdst : o0.dst = some d0 ∧ o1.dst = some d1 ∧ o2.dst = some d2 ∧ o3.dst = some d3 ∧ o4.dst = some d4 ∧ o5.dst = some s5)
    (hop0 : o0.op = .load tl (.tmp sx)) (hop2 : o2.op = .load tl (.tmp sy))
    (hen1 : ∀ (a : Act) (W : World), a.tmps.getD d0 undef = .agg ra → (execOp a.eval o1).run P W = .ok (.enter f xs) W)
    (hen3 : ∀ (a : Act) (W : World), a.tmps.getD d2 undef = .agg rb → (execOp a.eval o3).run P W = .ok (.enter f' xs') W)
    (hen4 : ∀ (a : Act) (W : World) (A C : Ad), a.tmps.getD d1 undef = T.val A → a.tmps.getD d3 undef = U.val C → (execOp a.eval o4).run P W = .ok (.enter g #[T.val A, U.val C]) W)
    (hval5 : ∀ (a : Act) (W : World), a.tmps.getD d4 undef = .bool S → (execOp a.eval o5).run P W = .ok (.value (.bool S)) W)
    (hsl : [sx, sy, d0, d1, d2, d3, d4, s5].Nodup) (hlt : d0 < a0.tmps.size ∧ d1 < a0.tmps.size ∧ d2 < a0.tmps.size ∧ d3 < a0.tmps.size ∧ d4 < a0.tmps.size ∧ s5 < a0.tmps.size)
    (hxa : a0.tmps.getD sx undef = .pointer (some ⟨bx, 0, none⟩)) (hya : a0.tmps.getD sy undef = .pointer (some ⟨bx', 0, none⟩))
    (hrx : w.heap[bx]? = some (.cells ra tb (0, 0))) (hry : w.heap[bx']? = some (.cells rb tb' (0, 0)))
    (hul : P.underlying tl = some dl) (hdl : (match dl with | .struct _ | .array _ _ => true | _ => false) = true) (hil : (P.info? tl).map (·.size) = some ra.size) (hrr : ra.size = rb.size)
    (hcA : ∀ V, Below w.heap.size w V → Calls P f xs V fun e w' => ∃ A, e = .returned (T.val A) ∧ Lies w'.heap.size w' T A ∧ Below V.heap.size V w')
    (hcC : ∀ V, Below w.heap.size w V → Calls P f' xs' V fun e w' => ∃ C, e = .returned (U.val C) ∧ Lies w'.heap.size w' U C ∧ Below V.heap.size V w')
    (hcS : ∀ V A C, Below w.heap.size w V → Lies V.heap.size V T A → Lies V.heap.size V U C → Calls P g #[T.val A, U.val C] V fun e w' => e = .returned (.bool S) ∧ Below V.heap.size V w')
    (hQ : ∀ (W : World) (A C : Ad), Below w.heap.size w W → Q .normal ((((((a0.put (some d0) (.agg ra)).put (some d1) (T.val A)).put (some d2) (.agg rb)).put (some d3) (U.val C)).put (some d4) (.bool S)).put (some s5) (.bool S)) W) :
    (Code.region id ops true).wp P Q a0 w := by
  subst hops
  simp only [List.nodup_cons, List.mem_cons, List.not_mem_nil, or_false, not_or, not_false_eq_true, List.nodup_nil, and_true] at hsl
  obtain ⟨⟨x1, x2, x3, x4, x5, x6, x7⟩, ⟨y2, y3, y4, y5, y6, y7⟩, ⟨n01, n02, n03, n04, n05⟩, ⟨n12, n13, n14, n15⟩, ⟨n23, n24, n25⟩, ⟨n34, n35⟩, n45⟩ := hsl
  refine wp_region_any hm ?_
  refine any_inv (fun l a W => ∃ A C, PJ d0 d1 d2 d3 d4 s5 ra rb T U S a0 w l a W A C) ?_ ?_ ?_ _ _ _ _ ?_ ?_
  · rintro l a W ⟨A, C, H⟩
    exact H.len
  · rintro l a W ⟨A, C, H⟩ hr
    have hd8 := tripAll hdone H.len
    unfold tripDoneB at hd8
    rw [hr] at hd8
    simp only [List.isEmpty_nil, Bool.not_true, Bool.false_or, Bool.and_eq_true] at hd8
    obtain ⟨⟨⟨⟨⟨t0, t1⟩, t2⟩, t3⟩, t4⟩, t5⟩ := hd8
    have he : a = ((((((a0.put (some d0) (.agg ra)).put (some d1) (T.val A)).put (some d2) (.agg rb)).put (some d3) (U.val C)).put (some d4) (.bool S)).put (some s5) (.bool S)) := by
      refine act_ext H.df ?_ (fun j => ?_)
      · rw [put_size', put_size', put_size', put_size', put_size', put_size']
        exact H.sz
      · by_cases j5 : j = s5
        · rw [j5, H.v5 t5, put_eq (by rw [put_size', put_size', put_size', put_size', put_size']; exact hlt.2.2.2.2.2)]
        rw [put_ne (Ne.symm j5)]
        by_cases j4 : j = d4
        · rw [j4, H.v4 t4, put_eq (by rw [put_size', put_size', put_size', put_size']; exact hlt.2.2.2.2.1)]
        rw [put_ne (Ne.symm j4)]
        by_cases j3 : j = d3
        · rw [j3, H.v3 t3, put_eq (by rw [put_size', put_size', put_size']; exact hlt.2.2.2.1)]
        rw [put_ne (Ne.symm j3)]
        by_cases j2 : j = d2
        · rw [j2, H.v2 t2, put_eq (by rw [put_size', put_size']; exact hlt.2.2.1)]
        rw [put_ne (Ne.symm j2)]
        by_cases j1 : j = d1
        · rw [j1, H.v1 t1, put_eq (by rw [put_size']; exact hlt.2.1)]
        rw [put_ne (Ne.symm j1)]
        by_cases j0 : j = d0
        · rw [j0, H.v0 t0, put_eq hlt.1]
        rw [put_ne (Ne.symm j0)]
        exact H.rest j j0 j1 j2 j3 j4 j5
    rw [he]
    exact hQ W A C H.hb
  · rintro l a W ⟨A, C, H⟩ i hi
    have hr8 := tripAll hready H.len
    unfold tripReadyB at hr8
    have hri := List.all_eq_true.1 hr8 i hi
    simp only [Bool.and_eq_true, decide_eq_true_eq, Bool.not_eq_true', Bool.or_eq_true, bne_iff_ne, ne_eq] at hri
    obtain ⟨⟨⟨⟨⟨hi8, hfr⟩, h1⟩, h3⟩, h4⟩, h5⟩ := hri
    have hsz := H.sz
    have hid := (Below.refl W.heap.size W)
    have k1 : ∀ {i : Nat}, i ≠ 1 → (l.setIfInBounds i true).getD 1 false = true → Lies W.heap.size W T A := fun hi h => H.l1 ((lset hi).symm.trans h)
    have k3 : ∀ {i : Nat}, i ≠ 3 → (l.setIfInBounds i true).getD 3 false = true → Lies W.heap.size W U C := fun hi h => H.l3 ((lset hi).symm.trans h)
    obtain rfl | rfl | rfl | rfl | rfl | rfl : i = 0 ∨ i = 1 ∨ i = 2 ∨ i = 3 ∨ i = 4 ∨ i = 5 := by omega
    · refine wpOp_of (o := o0) rfl hg.1 (wp_load_row tl (.tmp sx) hop0 bx ?_ tb ra (0, 0) dl ?_ hul hdl hil ?_)
      · exact (H.rest sx x2 x3 x4 x5 x6 x7).trans hxa
      · exact (H.hb.block _ (lt_of_row hrx)).trans hrx
      · rw [hdst.1]
        exact ⟨A, C, H.put 0 d0 _ (.inl rfl) hid (fun _ => put_eq (by omega)) (fun h => (put_ne n01).trans (H.v1 ((lset (by decide)).symm.trans h))) (fun h => (put_ne n02).trans (H.v2 ((lset (by decide)).symm.trans h))) (fun h => (put_ne n03).trans (H.v3 ((lset (by decide)).symm.trans h))) (fun h => (put_ne n04).trans (H.v4 ((lset (by decide)).symm.trans h))) (fun h => (put_ne n05).trans (H.v5 ((lset (by decide)).symm.trans h))) (k1 (by decide)) (k3 (by decide))⟩
    · have hl0 : l.getD 0 false = true := by simpa using h1
      refine wpOp_of (o := o1) rfl hg.2.1 (wp_enter (hen1 a W (H.v0 hl0)) ((hcA W H.hb).mono ?_))
      rintro e w' ⟨A', rfl, hL, hb⟩
      rw [hdst.2.1]
      exact ⟨_, rfl, A', C, H.put 1 d1 _ (.inr (.inl rfl)) hb (fun h => (put_ne (Ne.symm n01)).trans (H.v0 ((lset (by decide)).symm.trans h))) (fun _ => put_eq (by omega)) (fun h => (put_ne n12).trans (H.v2 ((lset (by decide)).symm.trans h))) (fun h => (put_ne n13).trans (H.v3 ((lset (by decide)).symm.trans h))) (fun h => (put_ne n14).trans (H.v4 ((lset (by decide)).symm.trans h))) (fun h => (put_ne n15).trans (H.v5 ((lset (by decide)).symm.trans h))) (fun _ => hL) (fun h => ((k3 (by decide) h).later hb).up hb.size)⟩
    · refine wpOp_of (o := o2) rfl hg.2.2.1 (wp_load_row tl (.tmp sy) hop2 bx' ?_ tb' rb (0, 0) dl ?_ hul hdl (by rw [← hrr]; exact hil) ?_)
      · exact (H.rest sy y2 y3 y4 y5 y6 y7).trans hya
      · exact (H.hb.block _ (lt_of_row hry)).trans hry
      · rw [hdst.2.2.1]
        exact ⟨A, C, H.put 2 d2 _ (.inr (.inr (.inl rfl))) hid (fun h => (put_ne (Ne.symm n02)).trans (H.v0 ((lset (by decide)).symm.trans h))) (fun h => (put_ne (Ne.symm n12)).trans (H.v1 ((lset (by decide)).symm.trans h))) (fun _ => put_eq (by omega)) (fun h => (put_ne n23).trans (H.v3 ((lset (by decide)).symm.trans h))) (fun h => (put_ne n24).trans (H.v4 ((lset (by decide)).symm.trans h))) (fun h => (put_ne n25).trans (H.v5 ((lset (by decide)).symm.trans h))) (k1 (by decide)) (k3 (by decide))⟩
    · have hl2 : l.getD 2 false = true := by simpa using h3
      refine wpOp_of (o := o3) rfl hg.2.2.2.1 (wp_enter (hen3 a W (H.v2 hl2)) ((hcC W H.hb).mono ?_))
      rintro e w' ⟨C', rfl, hL, hb⟩
      rw [hdst.2.2.2.1]
      exact ⟨_, rfl, A, C', H.put 3 d3 _ (.inr (.inr (.inr (.inl rfl)))) hb (fun h => (put_ne (Ne.symm n03)).trans (H.v0 ((lset (by decide)).symm.trans h))) (fun h => (put_ne (Ne.symm n13)).trans (H.v1 ((lset (by decide)).symm.trans h))) (fun h => (put_ne (Ne.symm n23)).trans (H.v2 ((lset (by decide)).symm.trans h))) (fun _ => put_eq (by omega)) (fun h => (put_ne n34).trans (H.v4 ((lset (by decide)).symm.trans h))) (fun h => (put_ne n35).trans (H.v5 ((lset (by decide)).symm.trans h))) (fun h => ((k1 (by decide) h).later hb).up hb.size) (fun _ => hL)⟩
    · have h13 : l.getD 1 false = true ∧ l.getD 3 false = true := by simpa using h4
      refine wpOp_of (o := o4) rfl hg.2.2.2.2.1 (wp_enter (hen4 a W A C (H.v1 h13.1) (H.v3 h13.2)) ((hcS W A C H.hb (H.l1 h13.1) (H.l3 h13.2)).mono ?_))
      rintro e w' ⟨rfl, hb⟩
      rw [hdst.2.2.2.2.1]
      exact ⟨_, rfl, A, C, H.put 4 d4 _ (.inr (.inr (.inr (.inr (.inl rfl))))) hb (fun h => (put_ne (Ne.symm n04)).trans (H.v0 ((lset (by decide)).symm.trans h))) (fun h => (put_ne (Ne.symm n14)).trans (H.v1 ((lset (by decide)).symm.trans h))) (fun h => (put_ne (Ne.symm n24)).trans (H.v2 ((lset (by decide)).symm.trans h))) (fun h => (put_ne (Ne.symm n34)).trans (H.v3 ((lset (by decide)).symm.trans h))) (fun _ => put_eq (by omega)) (fun h => (put_ne n45).trans (H.v5 ((lset (by decide)).symm.trans h))) (fun h => ((k1 (by decide) h).later hb).up hb.size) (fun h => ((k3 (by decide) h).later hb).up hb.size)⟩
    · have hl4 : l.getD 4 false = true := by simpa using h5
      refine wpOp_of (o := o5) rfl hg.2.2.2.2.2 (wp_value (hval5 a W (H.v4 hl4)) ?_)
      rw [hdst.2.2.2.2.2]
      exact ⟨A, C, H.put 5 s5 _ (.inr (.inr (.inr (.inr (.inr rfl))))) hid (fun h => (put_ne (Ne.symm n05)).trans (H.v0 ((lset (by decide)).symm.trans h))) (fun h => (put_ne (Ne.symm n15)).trans (H.v1 ((lset (by decide)).symm.trans h))) (fun h => (put_ne (Ne.symm n25)).trans (H.v2 ((lset (by decide)).symm.trans h))) (fun h => (put_ne (Ne.symm n35)).trans (H.v3 ((lset (by decide)).symm.trans h))) (fun h => (put_ne (Ne.symm n45)).trans (H.v4 ((lset (by decide)).symm.trans h))) (fun _ => put_eq (by omega)) (k1 (by decide)) (k3 (by decide))⟩
  · show unl (Array.replicate 6 false) ≤ 6
    decide
  · have hrep : ∀ j, (Array.replicate 6 false).getD j false = false := fun j => by simp [Array.getD_eq_getD_getElem?, Array.getElem?_replicate]; split <;> rfl
    exact ⟨⟨none, 0, none, 0⟩, ⟨none, 0, none, 0⟩, { len := rfl, df := rfl, sz := rfl, rest := fun _ _ _ _ _ _ _ => rfl, v0 := (fun h => absurd ((hrep _).symm.trans h) (by decide)), v1 := (fun h => absurd ((hrep _).symm.trans h) (by decide)), v2 := (fun h => absurd ((hrep _).symm.trans h) (by decide)), v3 := (fun h => absurd ((hrep _).symm.trans h) (by decide)), v4 := (fun h => absurd ((hrep _).symm.trans h) (by decide)), v5 := (fun h => absurd ((hrep _).symm.trans h) (by decide)), hb := (Below.refl _ w).drew, l1 := (fun h => absurd ((hrep _).symm.trans h) (by decide)), l3 := (fun h => absurd ((hrep _).symm.trans h) (by decide)) }⟩
end Go.Proofs.YtaacbcnpagpdnaaDoor
namespace Go.Proofs.YtaacbcnpagpdnaaDoor
open Go.RowKit
theorem span_prefix {p s nx : List UInt8} (hn : nextF p = some nx) : (!lt8 s p && lt8 s nx) = decide (p <+: s) := by
  by_cases hp : p <+: s
  · obtain ⟨t, rfl⟩ := hp
    have h1 : lt8 (p ++ t) p = false := by
      have := lt8_append p t []
      rw [List.append_nil, lt8_nil_r] at this
      exact this
    rw [h1, next_above t hn, decide_eq_true (List.prefix_append p t)]
    rfl
  · rw [decide_eq_false hp]
    rcases lt8_total s p with h | h | h
    · rw [h]; rfl
    · exact absurd (h ▸ List.prefix_refl _) hp
    · obtain ⟨n', hn', hl⟩ := next_least h hp
      obtain rfl : n' = nx := Option.some.inj (hn'.symm.trans hn)
      rw [hl]
      simp
theorem next_key {t : Tr} {d : Int} (h : soundT t d = 0) : ∃ nx, nextF (keyT t) = some nx := by
  obtain ⟨h0, h6, r, hr⟩ := key_head h
  rw [hr, nextF]
  cases nextF r with
  | some x => exact ⟨_, rfl⟩
  | none =>
    have : UInt8.ofNat t.k.toNat ≠ 255 := fun e => by
      have := u8_eq.1 e
      rw [toNat_ofNat_lt (by omega)] at this
      have h255 : (255 : UInt8).toNat = 255 := rfl
      omega
    exact ⟨_, if_neg this⟩
theorem equal_has {T U : Tr} {d d' : Int} (hT : soundT T d = 0) (hU : soundT U d' = 0) {K L E : ByteArray} (hK : K.data.toList = keyT T) (hL : L.data.toList = keyT U) : hasB K (nextB K) (L ++ E) = decide (keyT T = keyT U) := by
  obtain ⟨nx, hn⟩ := next_key hT
  have hb : (nextB K).toList = nx := by
    rw [Lib.toList_data]
    show nextL K.data.toList = nx
    unfold nextL
    rw [hK, hn]
    rfl
  have he : (nextB K).toList.isEmpty = false := by
    rw [hb]
    have := nextF_ne hn
    cases nx with
    | nil => exact absurd rfl this
    | cons => rfl
  unfold hasB
  rw [he, hb, Lib.toList_data, Lib.toList_data, ByteArray.data_append, Array.toList_append, hK, hL, Bool.false_or]
  have := span_prefix (s := keyT U ++ E.data.toList) hn
  rw [show Op.bytesLess (keyT U ++ E.data.toList) (keyT T) = lt8 (keyT U ++ E.data.toList) (keyT T) from rfl, show Op.bytesLess (keyT U ++ E.data.toList) nx = lt8 (keyT U ++ E.data.toList) nx from rfl, this, decide_eq_decide]
  constructor
  · intro hp
    refine key_ff T U d d' hT hU (comp_left (x := []) (y := E.data.toList) ?_)
    rw [List.append_nil]
    exact Or.inl hp
  · intro e
    rw [e]
    exact List.prefix_append _ _
set_option maxRecDepth 100000 in
set_option maxHeartbeats 4000000 in
theorem equal_ok {t : Tr} {B : Nat} {w : World} {x : Ad} (h : checkT t = 0) (hsm : small t) (hg : Gm w) (hL : Lies B w t x) (hB : B ≤ w.heap.size) :
    Calls Tryd.prog 25 #[t.val x] w fun e w' => e = .returned (.agg #[.string ⟨(keyT t).toArray⟩, .string (nextB ⟨(keyT t).toArray⟩)]) ∧ Below w.heap.size w w' := by
  have hof := fun (W : World) (hb : Below w.heap.size w W) => of_ok (w := W) h hsm (hg.later hb hg.pos) (hL.later (hb.mono hB)) (by have := hb.size; omega)
  have hks := key_short h
  have hV : t.val x = .agg #[.int .i64 t.k, .bool t.b, .int .i64 t.n, .string t.s, .slice x.pa t.m x.pc, .slice x.na t.q x.nc] := rfl
  rw [hV] at hof ⊢
  have hsz : (⟨(keyT t).toArray⟩ : ByteArray).size ≤ maxLen := by
    show (keyT t).toArray.size ≤ _
    rw [List.size_toArray]
    unfold maxLen
    omega
  obtain ⟨K, hK⟩ : ∃ K : ByteArray, (⟨(keyT t).toArray⟩ : ByteArray) = K := ⟨_, rfl⟩
  rw [hK] at hof hsz ⊢
  have hnx := fun W => next_any K hsz W
  obtain ⟨N, hN⟩ : ∃ N, nextB K = N := ⟨_, rfl⟩
  rw [hN] at hnx ⊢
  clear hK hN hks
  have hbel : Below w.heap.size w ((w.alloc (.cells #[.int .i64 t.k, .bool t.b, .int .i64 t.n, .string t.s, .slice x.pa t.m x.pc, .slice x.na t.q x.nc] 25)).alloc (.cells #[.string ⟨#[]⟩, .string ⟨#[]⟩] 45)) := ((Below.refl _ w).alloc (Nat.le_refl _) _).alloc (by simp) _
  have hrow := fresh_row (w.alloc (.cells #[.int .i64 t.k, .bool t.b, .int .i64 t.n, .string t.s, .slice x.pa t.m x.pc, .slice x.na t.q x.nc] 25)) #[.string ⟨#[]⟩, .string ⟨#[]⟩] 45
  have hs1 : (w.alloc (.cells #[.int .i64 t.k, .bool t.b, .int .i64 t.n, .string t.s, .slice x.pa t.m x.pc, .slice x.na t.q x.nc] 25)).heap.size = w.heap.size + 1 := by simp
  rw [hs1] at hrow
  go_enter Tryd.func25, Tryd.ntmps25
  go_wp2_with fail
  refine (hof _ hbel).mono ?_
  rintro e w1 ⟨rfl, hb1⟩
  have hr1 := (hb1.block _ (lt_of_row hrow)).trans hrow
  have hz1 := hb1.size
  have hl1 := lt_of_row hrow
  go_wp2_with fail
  refine (hnx _).mono ?_
  rintro e w2 ⟨rfl, hb2⟩
  have hr2 := (hb2.block _ (lt_of_row hr1)).trans hr1
  have hbw : Below w.heap.size w w2 := (hbel.trans (hb1.mono hbel.size)).trans (hb2.mono (by have := hbel.size; omega))
  have c0 := cell_of_row w2 _ 0 _ _ _ hr2
  have c1 := cell_of_row w2 _ 1 _ _ _ hr2
  have f0 := frozen_of_row w2 _ 0 _ _ hr2
  have f1 := frozen_of_row w2 _ 1 _ _ hr2
  go_wp2
  have hrow3 : ((w2.setCell ⟨w.heap.size + 1, 0, none⟩ (.string K)).setCell ⟨w.heap.size + 1, 1, none⟩ (.string N)).heap[w.heap.size + 1]? = some (.cells #[.string K, .string N] 45 (0, 0)) := row_setCell (k := 1) (row_setCell (k := 0) hr2 (.string K)) (.string N)
  have hbf : Below w.heap.size w ((w2.setCell ⟨w.heap.size + 1, 0, none⟩ (.string K)).setCell ⟨w.heap.size + 1, 1, none⟩ (.string N)) := (hbw.setCell (p := ⟨w.heap.size + 1, 0, none⟩) (by show w.heap.size ≤ w.heap.size + 1; omega) _).setCell (p := ⟨w.heap.size + 1, 1, none⟩) (by show w.heap.size ≤ w.heap.size + 1; omega) _
  obtain ⟨wf, hwf⟩ : ∃ wf, ((w2.setCell ⟨w.heap.size + 1, 0, none⟩ (.string K)).setCell ⟨w.heap.size + 1, 1, none⟩ (.string N)) = wf := ⟨_, rfl⟩
  rw [hwf] at hrow3 hbf ⊢
  clear hwf
  have o0 := cell_of_row wf _ 0 _ _ _ hrow3
  have o1 := cell_of_row wf _ 1 _ _ _ hrow3
  exact bodyPost_ret (v := .agg #[.string K, .string N]) (by simp [results, Tryd.results25, go_sem, o0, o1]) rfl ⟨rfl, hbf⟩
end Go.Proofs.YtaacbcnpagpdnaaDoor
namespace Go.Proofs.YtaacbcnpagpdnaaDoor
open Go.RowKit
theorem oe_call {P : Program} {o : Oper} {a : Act} {C : World → Prop} {K : Act → Prop} {v : Value} {f : FuncId} {args : Array Value} (hrun : ∀ W, (execOp a.eval o).run P W = .ok (.enter f args) W)
    (hc : ∀ W, C W → Calls P f args W fun e w' => e = .returned v ∧ C w') (hk : K (a.put o.dst v)) : o.quiet P a C K :=
  ⟨v, fun W hW => by unfold Oper.quietAt; rw [hrun W]; exact ⟨rfl, hc W hW⟩, hk⟩
theorem oe_at {P : Program} {o : Oper} {a : Act} {C : World → Prop} {K : Act → Prop} {v : Value} (hrun : ∀ W, C W → (execOp a.eval o).run P W = .ok (.value v) W) (hk : K (a.put o.dst v)) : o.quiet P a C K :=
  ⟨v, fun W hW => by unfold Oper.quietAt; rw [hrun W hW]; exact ⟨rfl, rfl⟩, hk⟩
set_option maxRecDepth 100000 in
set_option maxHeartbeats 8000000 in
theorem law_equal {t u : Tr} {x y : Ad} (n : Nat) (hn : n < 18446744073709551616) (w : World) (hg : Gm w) (hL : Lies w.heap.size w t x) (hM : Lies w.heap.size w u y) :
    Calls Tryd.prog 7 #[t.val x, u.val y, .int .u64 (n : Int)] w fun e w' => e = .returned (.bool true) ∧ Below w.heap.size w w' := by
  have hV : t.val x = .agg (t.cs x).toArray := rfl
  have hV' : u.val y = .agg (u.cs y).toArray := rfl
  have hcut := fun (W : World) (hb : Below w.heap.size w W) => cut_all t w.heap.size W x 8 32 (hL.later hb) hb.size (by decide) (by decide)
  have hcut' := fun (W : World) (hb : Below w.heap.size w W) => cut_all u w.heap.size W y 8 32 (hM.later hb) hb.size (by decide) (by decide)
  have hsm := small_cut t 8 32
  have hsl := slim_cut t 8 32 (by decide)
  have hsm' := small_cut u 8 32
  have hsl' := slim_cut u 8 32 (by decide)
  obtain ⟨T, hT⟩ : ∃ T, cutT t 8 32 = T := ⟨_, rfl⟩
  obtain ⟨U, hU⟩ : ∃ U, cutT u 8 32 = U := ⟨_, rfl⟩
  rw [hT] at hcut hsm hsl
  rw [hU] at hcut' hsm' hsl'
  rw [hV] at hcut ⊢
  rw [hV'] at hcut' ⊢
  have hra := cells_size t x
  have hrb := cells_size u y
  obtain ⟨ra, hra'⟩ : ∃ ra : Array Value, (t.cs x).toArray = ra := ⟨_, rfl⟩
  obtain ⟨rb, hrb'⟩ : ∃ rb : Array Value, (u.cs y).toArray = rb := ⟨_, rfl⟩
  rw [hra'] at hcut hra ⊢
  rw [hrb'] at hcut' hrb ⊢
  clear hV hV' hT hU hra' hrb'
  have hbW : Below w.heap.size w ((w.alloc (.cells ra 25)).alloc (.cells rb 25)) := ((Below.refl _ w).alloc (Nat.le_refl _) _).alloc (by simp) _
  have hrow := (Below.heap_alloc (w.alloc (.cells ra 25)) (.cells rb 25) w.heap.size (by simp)).trans (fresh_row w ra 25)
  have hrow' := fresh_row (w.alloc (.cells ra 25)) rb 25
  have hs1 : (w.alloc (.cells ra 25)).heap.size = w.heap.size + 1 := by simp
  have hs2 : ((w.alloc (.cells ra 25)).alloc (.cells rb 25)).heap.size = w.heap.size + 1 + 1 := by simp
  rw [hs1] at hrow'
  have HSM : Hid (small T) := hsm
  have HSL : Hid (slim T) := hsl
  have HSM' : Hid (small U) := hsm'
  have HSL' : Hid (slim U) := hsl'
  have HG : Hid (Gm w) := hg
  have hgp := hg.pos
  clear hsm hsl hsm' hsl' hg hL hM
  go_enter Tryd.func7, Tryd.ntmps7
  go_wp2_with fail
  refine pair_region (ty := 25) (tl := 25) (sx := 3) (sy := 4) (d0 := 10) (d1 := 11) (d2 := 12) (d3 := 13) (s5 := 7) (s6 := 8) (ra := ra) (rb := rb) (zr := #[.int .i64 0, .bool false, .int .i64 0, .string ⟨#[]⟩, .slice none 0 0, .slice none 0 0]) (T := T) (U := U) (B := w.heap.size)
    (f := 8) (f' := 8) (xs := #[.agg ra, .int .i64 8, .int .i64 32]) (xs' := #[.agg rb, .int .i64 8, .int .i64 32]) (bx := w.heap.size) (bx' := w.heap.size + 1)
    (by kernel_rfl) rfl (by kernel_rfl) (by kernel_rfl) ⟨rfl, rfl, rfl, rfl, rfl, rfl, rfl, rfl⟩ ⟨rfl, rfl, rfl, rfl, rfl, rfl, rfl, rfl⟩ rfl rfl rfl rfl
    ?en1 ?en3 ?al4 ?al5 rfl (by decide) ⟨(by decide : (10 : Nat) < 39), (by decide : (11 : Nat) < 39), (by decide : (12 : Nat) < 39), (by decide : (13 : Nat) < 39), (by decide : (7 : Nat) < 39), (by decide : (8 : Nat) < 39)⟩ rfl rfl hrow hrow' Tryd.underlying25 rfl (by rw [hra]; kernel_rfl) (hra.trans hrb.symm) (by kernel_rfl) (by omega) (fun V hv => hcut V (hbW.trans (hv.mono (by omega)))) (fun V hv => hcut' V (hbW.trans (hv.mono (by omega)))) ?post
  case en1 =>
    intro a W h
    have h' : a.eval (.tmp 10) = .agg ra := h
    go_simp
  case en3 =>
    intro a W h
    have h' : a.eval (.tmp 12) = .agg rb := h
    go_simp
  case al4 =>
    intro a W
    go_simp
  case al5 =>
    intro a W
    go_simp
  case post =>
    intro W z5 z6 A C hb r5 r6 hz5 hz6 hLT hLU
    simp only [Act.put, List.setIfInBounds_toArray, List.set_cons_zero, List.set_cons_succ]
    replace r5 : W.heap[z5]? = some (.cells #[.int .i64 T.k, .bool T.b, .int .i64 T.n, .string T.s, .slice A.pa T.m A.pc, .slice A.na T.q A.nc] 25 (0, 0)) := r5
    replace r6 : W.heap[z6]? = some (.cells #[.int .i64 U.k, .bool U.b, .int .i64 U.n, .string U.s, .slice C.pa U.m C.pc, .slice C.na U.q C.nc] 25 (0, 0)) := r6
    have hVT : T.val A = .agg #[.int .i64 T.k, .bool T.b, .int .i64 T.n, .string T.s, .slice A.pa T.m A.pc, .slice A.na T.q A.nc] := rfl
    have hVU : U.val C = .agg #[.int .i64 U.k, .bool U.b, .int .i64 U.n, .string U.s, .slice C.pa U.m C.pc, .slice C.na U.q C.nc] := rfl
    replace hb : Below w.heap.size w W := hbW.trans (hb.mono (by omega))
    clear hrow hrow' hs1 hs2 hbW hcut hcut' hra hrb
    have hckT := fun (V : World) (hv : Below W.heap.size W V) => check_any (hLT.later hv) hv.size HSM.out
    have hckU := fun (V : World) (hv : Below W.heap.size W V) => check_any (hLU.later hv) hv.size HSM'.out
    rw [hVT] at hckT ⊢
    rw [hVU] at hckU ⊢
    obtain ⟨E, hE⟩ : ∃ E, checkT T = E := ⟨_, rfl⟩
    obtain ⟨E', hE'⟩ : ∃ E', checkT U = E' := ⟨_, rfl⟩
    rw [hE] at hckT
    rw [hE'] at hckU
    have HE : Hid (checkT T = E) := hE
    have HE' : Hid (checkT U = E') := hE'
    clear hE hE'
    have hl5 := lt_of_row r5
    have hl6 := lt_of_row r6
    have hszw := hb.size
    have c0 := cell_of_row W _ 0 _ _ _ r5
    have c1 := cell_of_row W _ 1 _ _ _ r5
    have c2 := cell_of_row W _ 2 _ _ _ r5
    have c3 := cell_of_row W _ 3 _ _ _ r5
    have c4 := cell_of_row W _ 4 _ _ _ r5
    have c5 := cell_of_row W _ 5 _ _ _ r5
    go_wp2_with fail
    refine (hckT _ (Below.refl _ W)).mono ?_
    rintro e w1 ⟨rfl, hb1⟩
    clear c0 c1 c2 c3 c4 c5
    by_cases h0 : E = 0
    case neg =>
      have h0' : (E != 0) = true := by simpa using h0
      go_wp2_with fail
      refine (awake_any _).mono ?_
      rintro e w2 ⟨rfl, hb2⟩
      go_wp2
      go_ret
      exact ⟨rfl, (hb.trans (hb1.mono (by omega))).trans (hb2.mono (by have := hb1.size; omega))⟩
    subst h0
    have q6 := (hb1.block _ hl6).trans r6
    have hsz1 := hb1.size
    have c0 := cell_of_row w1 _ 0 _ _ _ q6
    have c1 := cell_of_row w1 _ 1 _ _ _ q6
    have c2 := cell_of_row w1 _ 2 _ _ _ q6
    have c3 := cell_of_row w1 _ 3 _ _ _ q6
    have c4 := cell_of_row w1 _ 4 _ _ _ q6
    have c5 := cell_of_row w1 _ 5 _ _ _ q6
    go_wp2_with fail
    refine (hckU _ hb1).mono ?_
    rintro e w2 ⟨rfl, hb2⟩
    replace hb2 : Below W.heap.size W w2 := hb1.trans (hb2.mono hsz1)
    clear c0 c1 c2 c3 c4 c5 hb1 q6 hsz1
    by_cases h1 : E' = 0
    case neg =>
      have h1' : (E' != 0) = true := by simpa using h1
      go_wp2_with fail
      refine (awake_any _).mono ?_
      rintro e w3 ⟨rfl, hb3⟩
      go_wp2
      go_ret
      exact ⟨rfl, (hb.trans (hb2.mono (by omega))).trans (hb3.mono (by have := hb2.size; omega))⟩
    subst h1
    have hsz2 := hb2.size
    have hreT := fun (V : World) (hv : Below w2.heap.size w2 V) => ref_all T HSL.out w2.heap.size V A ((hLT.later (hb2.trans (hv.mono hsz2))).up hsz2) hv.size
    have hreU := fun (V : World) (hv : Below w2.heap.size w2 V) => ref_all U HSL'.out w2.heap.size V C ((hLU.later (hb2.trans (hv.mono hsz2))).up hsz2) hv.size
    rw [hVT] at hreT
    rw [hVU] at hreU
    have p5 := (hb2.block _ hl5).trans r5
    have p6 := (hb2.block _ hl6).trans r6
    obtain ⟨S, hS⟩ : ∃ S, decide (keyT T = keyT U) = S := ⟨_, rfl⟩
    have hsa := fun (V : World) (A1 C1 : Ad) (hT1 : Lies V.heap.size V T A1) (hU1 : Lies V.heap.size V U C1) => same_any (check_zero HE.out).1 (check_zero HE'.out).1 hT1 hU1 (Nat.le_refl _)
    rw [hS] at hsa
    have HS : Hid (decide (keyT T = keyT U) = S) := hS
    have hsz56 : z5 < w2.heap.size ∧ z6 < w2.heap.size := by omega
    clear hS hckT hckU
    go_wp2_with fail
    refine trip_region (tl := 25) (sx := 7) (sy := 8) (d0 := 23) (d1 := 24) (d2 := 25) (d3 := 26) (d4 := 27) (s5 := 9) (ra := #[.int .i64 T.k, .bool T.b, .int .i64 T.n, .string T.s, .slice A.pa T.m A.pc, .slice A.na T.q A.nc]) (rb := #[.int .i64 U.k, .bool U.b, .int .i64 U.n, .string U.s, .slice C.pa U.m C.pc, .slice C.na U.q C.nc]) (T := T) (U := U) (S := S)
      (f := 12) (f' := 12) (g := 17) (xs := #[.agg #[.int .i64 T.k, .bool T.b, .int .i64 T.n, .string T.s, .slice A.pa T.m A.pc, .slice A.na T.q A.nc]]) (xs' := #[.agg #[.int .i64 U.k, .bool U.b, .int .i64 U.n, .string U.s, .slice C.pa U.m C.pc, .slice C.na U.q C.nc]]) (bx := z5) (bx' := z6)
      (by kernel_rfl) rfl (by kernel_rfl) (by kernel_rfl) ⟨rfl, rfl, rfl, rfl, rfl, rfl⟩ ⟨rfl, rfl, rfl, rfl, rfl, rfl⟩ rfl rfl
      ?en1 ?en3 ?en4 ?val5 (by decide) ⟨(by decide : (23 : Nat) < 39), (by decide : (24 : Nat) < 39), (by decide : (25 : Nat) < 39), (by decide : (26 : Nat) < 39), (by decide : (27 : Nat) < 39), (by decide : (9 : Nat) < 39)⟩ rfl rfl p5 p6 Tryd.underlying25 rfl (by kernel_rfl) rfl ?cA ?cC (fun V A1 C1 _ h1 h2 => hsa V A1 C1 h1 h2) ?post
    case en1 =>
      intro a W h
      have h' : a.eval (.tmp 23) = .agg #[.int .i64 T.k, .bool T.b, .int .i64 T.n, .string T.s, .slice A.pa T.m A.pc, .slice A.na T.q A.nc] := h
      go_simp
    case en3 =>
      intro a W h
      have h' : a.eval (.tmp 25) = .agg #[.int .i64 U.k, .bool U.b, .int .i64 U.n, .string U.s, .slice C.pa U.m C.pc, .slice C.na U.q C.nc] := h
      go_simp
    case en4 =>
      intro a W A1 C1 h h2
      have h' : a.eval (.tmp 24) = T.val A1 := h
      have h2' : a.eval (.tmp 26) = U.val C1 := h2
      go_simp
    case val5 =>
      intro a W h
      have h' : a.eval (.tmp 27) = .bool S := h
      go_simp
    case cA =>
      intro V hv
      refine (hreT V hv).mono ?_
      rintro e w' ⟨A1, rfl, hL1, hb1⟩
      exact ⟨A1, rfl, hL1.up (fun k hk => by have h1 := hv.size; have h3 := hb1.size; have h2 : k < w2.heap.size ∨ (V.heap.size ≤ k ∧ k < w'.heap.size) := hk; show k < w'.heap.size; omega), hb1⟩
    case cC =>
      intro V hv
      refine (hreU V hv).mono ?_
      rintro e w' ⟨A1, rfl, hL1, hb1⟩
      exact ⟨A1, rfl, hL1.up (fun k hk => by have h1 := hv.size; have h3 := hb1.size; have h2 : k < w2.heap.size ∨ (V.heap.size ≤ k ∧ k < w'.heap.size) := hk; show k < w'.heap.size; omega), hb1⟩
    case post =>
      intro w3 A1 C1 hb3
      simp only [Act.put, List.setIfInBounds_toArray, List.set_cons_zero, List.set_cons_succ]
      have hsz3 := hb3.size
      have hbW3 : Below W.heap.size W w3 := hb2.trans (hb3.mono hsz2)
      have q5 := (hb3.block _ (by omega)).trans p5
      have q6 := (hb3.block _ (by omega)).trans p6
      have hgm := fun (V : World) (hv : Below w3.heap.size w3 V) => HG.out.later ((hb.trans (hbW3.mono (by omega))).trans (hv.mono (by omega))) hgp
      have heqT := fun (V : World) (hv : Below w3.heap.size w3 V) => equal_ok (w := V) HE.out HSM.out (hgm V hv) (hLT.later (hbW3.trans (hv.mono (by omega)))) (by have := hv.size; omega)
      have hpaU := fun (V : World) (hv : Below w3.heap.size w3 V) => pair_ok (w := V) n hn HE'.out HSM'.out (hgm V hv) (hLU.later (hbW3.trans (hv.mono (by omega)))) (by have := hv.size; omega)
      rw [hVT] at heqT
      rw [hVU] at hpaU
      have hhas := fun (E : ByteArray) => (equal_has (check_zero HE.out).1 (check_zero HE'.out).1 (K := ⟨(keyT T).toArray⟩) (L := ⟨(keyT U).toArray⟩) (E := E) rfl rfl).trans HS.out
      replace hhas := hhas ⟨(be8 n).toArray⟩
      obtain ⟨KK, hK⟩ : ∃ K : ByteArray, (⟨(keyT T).toArray⟩ : ByteArray) = K := ⟨_, rfl⟩
      obtain ⟨LL, hL⟩ : ∃ L : ByteArray, (⟨(keyT U).toArray⟩ : ByteArray) ++ ⟨(be8 n).toArray⟩ = L := ⟨_, rfl⟩
      rw [hK] at heqT hhas
      rw [hL] at hpaU hhas
      obtain ⟨NN, hN⟩ : ∃ N : ByteArray, nextB KK = N := ⟨_, rfl⟩
      rw [hN] at heqT hhas
      have hha := fun (V : World) => has_any KK NN LL V
      rw [hhas] at hha
      clear hK hL hN hhas hgm hsa hreT hreU p5 p6
      go_wp2_with fail
      refine wp_region_quiet (C := fun V => Below w3.heap.size w3 V) (by kernel_rfl) (by kernel_rfl) (below_drewN (Below.refl _ w3) 1) ?_
      refine BigFrame.wpQuiet_want (by rfl) (fun K hK => oe_call (f := 10) (args := #[]) (v := .bool true) (fun V => ?_) (fun V hV => (awake_any V).mono fun e w' ⟨he, hb⟩ => ⟨he, hV.trans (hb.mono hV.size)⟩) (hK _ ?_))
      · go_simp
      clear hK K
      simp only [Act.put, List.setIfInBounds_toArray, List.set_cons_zero, List.set_cons_succ]
      go_big_quiet_step (fail)
      refine BigFrame.wpQuiet_want (by rfl) (fun K hK => oe_at (v := .agg #[.int .i64 T.k, .bool T.b, .int .i64 T.n, .string T.s, .slice A.pa T.m A.pc, .slice A.na T.q A.nc]) (fun V hV => ?_) (hK _ ?_))
      · have hr := (hV.block _ (by omega)).trans q5
        have c0 := cell_of_row V _ 0 _ _ _ hr
        have c1 := cell_of_row V _ 1 _ _ _ hr
        have c2 := cell_of_row V _ 2 _ _ _ hr
        have c3 := cell_of_row V _ 3 _ _ _ hr
        have c4 := cell_of_row V _ 4 _ _ _ hr
        have c5 := cell_of_row V _ 5 _ _ _ hr
        go_simp
      clear hK K
      simp only [Act.put, List.setIfInBounds_toArray, List.set_cons_zero, List.set_cons_succ]
      refine BigFrame.wpQuiet_want (by rfl) (fun K hK => oe_call (f := 25) (args := #[.agg #[.int .i64 T.k, .bool T.b, .int .i64 T.n, .string T.s, .slice A.pa T.m A.pc, .slice A.na T.q A.nc]]) (v := .agg #[.string KK, .string NN]) (fun V => ?_) (fun V hV => (heqT V hV).mono fun e w' ⟨he, hb⟩ => ⟨he, hV.trans (hb.mono hV.size)⟩) (hK _ ?_))
      · go_simp
      clear hK K
      simp only [Act.put, List.setIfInBounds_toArray, List.set_cons_zero, List.set_cons_succ]
      refine BigFrame.wpQuiet_want (by rfl) (fun K hK => oe_at (v := .agg #[.int .i64 U.k, .bool U.b, .int .i64 U.n, .string U.s, .slice C.pa U.m C.pc, .slice C.na U.q C.nc]) (fun V hV => ?_) (hK _ ?_))
      · have hr := (hV.block _ (by omega)).trans q6
        have c0 := cell_of_row V _ 0 _ _ _ hr
        have c1 := cell_of_row V _ 1 _ _ _ hr
        have c2 := cell_of_row V _ 2 _ _ _ hr
        have c3 := cell_of_row V _ 3 _ _ _ hr
        have c4 := cell_of_row V _ 4 _ _ _ hr
        have c5 := cell_of_row V _ 5 _ _ _ hr
        go_simp
      clear hK K
      simp only [Act.put, List.setIfInBounds_toArray, List.set_cons_zero, List.set_cons_succ]
      go_big_quiet_step (fail)
      refine BigFrame.wpQuiet_want (by rfl) (fun K hK => oe_call (f := 16) (args := #[.agg #[.int .i64 U.k, .bool U.b, .int .i64 U.n, .string U.s, .slice C.pa U.m C.pc, .slice C.na U.q C.nc], .int .u64 (n : Int)]) (v := .string LL) (fun V => ?_) (fun V hV => (hpaU V hV).mono fun e w' ⟨he, hb⟩ => ⟨he, hV.trans (hb.mono hV.size)⟩) (hK _ ?_))
      · go_simp
      clear hK K
      simp only [Act.put, List.setIfInBounds_toArray, List.set_cons_zero, List.set_cons_succ]
      refine BigFrame.wpQuiet_want (by rfl) (fun K hK => oe_call (f := 22) (args := #[.agg #[.string KK, .string NN], .string LL]) (v := .bool S) (fun V => ?_) (fun V hV => (hha V).mono fun e w' ⟨he, hb⟩ => ⟨he, hV.trans (hb.mono hV.size)⟩) (hK _ ?_))
      · go_simp
      clear hK K
      simp only [Act.put, List.setIfInBounds_toArray, List.set_cons_zero, List.set_cons_succ]
      go_big_quiet_step (fail)
      refine BigFrame.wpQuiet_want (by rfl) (fun K hK => oe_at (v := .bool true) (fun V hV => ?_) (hK _ ?_))
      · go_simp
      clear hK K
      simp only [Act.put, List.setIfInBounds_toArray, List.set_cons_zero, List.set_cons_succ]
      refine BigFrame.wpQuiet_want (by rfl) (fun K hK => oe_at (v := .bool true) (fun V hV => ?_) (hK _ ?_))
      · go_simp
      clear hK K
      simp only [Act.put, List.setIfInBounds_toArray, List.set_cons_zero, List.set_cons_succ]
      go_big_quiet_step (fail)
      refine wpQuiet_nil ?_
      intro w4 hw4
      go_wp2
      go_ret
      exact ⟨rfl, (hb.trans (hbW3.mono (by omega))).trans (hw4.mono (by omega))⟩
end Go.Proofs.YtaacbcnpagpdnaaDoor
