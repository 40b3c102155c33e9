/- Range over an index of a table with one document. The order of names as numbers (osF), which of them are kept (keptP), the struct's tree (structT). -/
import Derived.Test.YtniljoojoafiaaaGreatDoorAdi
import Derived.Test.YtniljoojoafiaaaGreatDoorSpw
import Derived.Test.YtniljoojoafiaaaGreatDoorXau
import Derived.Test.YtniljoojoafiaaaGreatDoorXam
import Derived.Test.YtniljoojoafiaaaGreatDoorVCln
import Derived.Test.YtniljoojoafiaaaGreatDoorXan
namespace Go.Proofs.YtniljoojoafiaaaGreatDoor
open Go.RowKit Go.Shelf
attribute [local go_sem] Oper.semAt_some
/- What Range of a tree answers. -/
def RgV (n0 : Nat) (p : Option Addr) (c : Nat) (q : Option Addr) (c2 : Nat) (lo hi : ByteArray) (u : Value) (W : World) : Prop :=
  ∃ bn bs, u = .func (.func 103) #[] #[.pointer (some ⟨bn, 0, none⟩), .pointer (some ⟨bs, 0, none⟩)] ∧ n0 ≤ bn ∧ n0 ≤ bs ∧ W.heap[bn]? = some (.cells #[.slice p 1 c, .slice q 0 c2] 108 (0, 0)) ∧ W.heap[bs]? = some (.cells #[.string lo, .string hi] 24 (0, 0))
theorem RgV.later {n0 : Nat} {p : Option Addr} {c : Nat} {q : Option Addr} {c2 : Nat} {lo hi : ByteArray} : ∀ u W W', RgV n0 p c q c2 lo hi u W → Below W.heap.size W W' → RgV n0 p c q c2 lo hi u W' := fun _ _ _ ⟨bn, bs, h1, h2, h3, h4, h5⟩ hb =>
  ⟨bn, bs, h1, h2, h3, (hb.block _ (lt_of_row h4)).trans h4, (hb.block _ (lt_of_row h5)).trans h5⟩
def BsV (d : Nat) (u : Value) (W : World) : Prop := ∃ nb, u = .slice (some ⟨nb, 0, none⟩) 1 1 ∧ W.heap[nb]? = some (.cells #[.int .u64 (d : Int)] 31 (0, 0))
theorem BsV.later {d : Nat} : ∀ u W W', BsV d u W → Below W.heap.size W W' → BsV d u W' := fun _ _ _ ⟨nb, h1, h2⟩ hb => ⟨nb, h1, (hb.block _ (lt_of_row h2)).trans h2⟩
theorem pfx_im {x y : B.Im} {pre : List B.Im} (h : pre ++ [x] <+: [y]) : pre = [] ∧ x = y := by
  obtain ⟨r, hr⟩ := h
  cases pre with
  | nil => simp at hr; exact ⟨rfl, hr.1⟩
  | cons z zs => simp at hr
set_option maxRecDepth 100000 in
set_option maxHeartbeats 8000000 in
theorem rrange_one {w : World} (b m d x tr : Nat) (v : Int) (t G : V.Tr) (A : V.Ad) (f lo hi : ByteArray) (hf : f.size ≤ maxLen) (hd : d < 18446744073709551616) (hr : w.heap[b]? = some (.cells #[.map (some m), .map (some x), .bool false] 75 (0, 0))) (hm : M1 31 w m (.int .u64 d) (.agg (rwA d v t A)))
    (hx : M1 9 w x (.string f.data.toList) (.pointer (some ⟨tr, 0, none⟩))) (hT : B.Tr w tr 0 [(pairS G d, ⟨#[]⟩)] 1) (hG : V.checkT G = 0) (hsp : B.spanL [(pairS G d, ⟨#[]⟩)] lo hi (B.posK [(pairS G d, ⟨#[]⟩)] lo) = [(pairS G d, ⟨#[]⟩)]) :
    Calls Tryz.prog 25 #[.pointer (some ⟨b, 0, none⟩), .string f, .agg #[.string lo, .string hi]] w fun e w' => Fd1 w.heap.size d v t A e w' ∧ Below w.heap.size w w' := by
  obtain ⟨p, c, q, c2, hrow, p2, c3, q2, c4, e0, hS, -⟩ := hT.ex
  have hrow' : w.heap[tr]? = some (.cells #[.slice p 1 c, .slice q 0 c2, .int .i64 1] 110 (0, 0)) := hrow
  injection e0 with e0
  have e1 : Value.slice p 1 c = Value.slice p2 1 c3 := by
    have := congrArg (fun a : Array Value => a[0]?) e0
    simpa using this
  injection e1 with e1 _ e2
  subst e1 e2
  have kno0 := fun W => number_pair (w := W) G d hd hG
  obtain ⟨K, hKK⟩ : ∃ K, pairS G d = K := ⟨_, rfl⟩
  rw [hKK] at hsp kno0 hS
  obtain ⟨w2, hw2⟩ : ∃ w2, (w.alloc (.cells #[.string lo, .string hi] 24)).alloc (.cells #[.slice none 0 0] 71) = w2 := ⟨_, rfl⟩
  have hb2 : Below w.heap.size w w2 := by rw [← hw2]; exact ((Below.refl _ w).alloc (Nat.le_refl _) _).alloc (by simp) _
  have s2 : w2.heap.size = w.heap.size + 2 := by rw [← hw2]; simp
  have p2 : w2.heap[w.heap.size]? = some (.cells #[.string lo, .string hi] 24 (0, 0)) := by rw [← hw2]; exact (B.span_rows w #[.string lo, .string hi] #[.slice none 0 0] 24 71).1
  have b2 : w2.heap[w.heap.size + 1]? = some (.cells #[.slice none 0 0] 71 (0, 0)) := by rw [← hw2]; exact (B.span_rows w #[.string lo, .string hi] #[.slice none 0 0] 24 71).2
  have q2 := (hb2.block _ (lt_of_row hr)).trans hr
  have x2 := hx.later hb2
  have t2 := (hb2.block _ (lt_of_row hrow')).trans hrow'
  have krt : ∀ W, Below w2.heap.size w2 W → Calls Tryz.prog 45 #[.pointer (some ⟨tr, 0, none⟩), .agg #[.string lo, .string hi]] W fun e w' => (∃ u, e = .returned u ∧ RgV w2.heap.size p c q c2 lo hi u w') ∧ Below W.heap.size W w' := fun W hb => by
    have hsz := hb.size
    refine (B.range_tree p 1 c q 0 c2 _ tr lo hi W ((hb.block _ (lt_of_row t2)).trans t2)).mono ?_
    rintro e w' ⟨bn, bs, rfl, h1, h2, h3, h4, hb'⟩
    exact ⟨⟨_, rfl, bn, bs, rfl, by omega, by omega, h3, h4⟩, hb'⟩
  have HW : Hid ((w.alloc (.cells #[.string lo, .string hi] 24)).alloc (.cells #[.slice none 0 0] 71) = w2) := hw2
  clear hw2 hrow
  refine (callsIn_wide (n := 0)).1 ?_
  refine callsIn_of_wp_marks Tryz.func25 rfl trivial ?_ rfl
  simp only [Tryz.ntmps25, List.size_toArray, List.length_cons, List.length_nil, Nat.reduceAdd, Nat.reduceSub, Array.replicate_succ, Array.replicate_zero, List.push_toArray, List.append_toArray, List.nil_append, List.cons_append]
  gi_wp2
  rw [HW.out]
  refine B.any_tailIn (by kernel_rfl) 8 (by exact Nat.le_of_ble_eq_true rfl) (fun i => i + 13) (B.mixR [(7, RgV w2.heap.size p c q c2 lo hi)] [.pointer (some ⟨b, 0, none⟩), .pointer (some ⟨b, 0, none⟩), .pointer (some ⟨b, 1, none⟩), .map (some x), .string f, .pointer (some ⟨tr, 0, none⟩), .agg #[.string lo, .string hi], undef]) (by kernel_rfl) (by kernel_rfl) (by kernel_rfl) (by kernel_rfl) (B.mixR_later _ _ ((by intro y hy; simp only [List.mem_cons, List.not_mem_nil, or_false] at hy; subst hy; exact RgV.later))) ?step ?post
  case step =>
    intro iq hiq a W hrest hb hk
    have hp0 : a.eval (.tmp 0) = .pointer (some ⟨b, 0, none⟩) := (hrest 0 (by intro iq2 hiq2; (repeat' split) <;> omega)).trans rfl
    have fp0 := B.ev hp0
    have hx0 : W.heap[b]? = some (.cells #[.map (some m), .map (some x), .bool false] 75 (0, 0)) := (hb.block _ (lt_of_row q2)).trans q2
    have hp5 : a.eval (.tmp 5) = .pointer (some ⟨w.heap.size, 0, none⟩) := (hrest 5 (by intro iq2 hiq2; (repeat' split) <;> omega)).trans rfl
    have fp5 := B.ev hp5
    have hx5 : W.heap[w.heap.size]? = some (.cells #[.string lo, .string hi] 24 (0, 0)) := (hb.block _ (lt_of_row p2)).trans p2
    have hp1 : a.eval (.tmp 1) = .string f := (hrest 1 (by intro iq2 hiq2; (repeat' split) <;> omega)).trans rfl
    have fp1 := B.ev hp1
    clear hrest
    obtain rfl | rfl | rfl | rfl | rfl | rfl | rfl | rfl : iq = 0 ∨ iq = 1 ∨ iq = 2 ∨ iq = 3 ∨ iq = 4 ∨ iq = 5 ∨ iq = 6 ∨ iq = 7 := by omega
    · clear hiq
      clear hk
      refine ⟨_, rfl, rfl, Or.inl ⟨B.wanted_none rfl, B.wpIn_value (v := .pointer (some ⟨b, 0, none⟩)) (w' := W) ?_ ⟨_, rfl, Below.refl _ _, rfl⟩⟩⟩
      go_simp
    · clear hiq
      have e0 : a.eval (.tmp 13) = .pointer (some ⟨b, 0, none⟩) := hk 0 (B.mem_of (by kernel_rfl))
      have f0 := B.ev e0
      clear hk
      refine ⟨_, rfl, rfl, Or.inl ⟨B.wanted_none rfl, B.wpIn_value (v := .pointer (some ⟨b, 0, none⟩)) (w' := W) ?_ ⟨_, rfl, Below.refl _ _, rfl⟩⟩⟩
      go_simp
    · clear hiq
      have e1 : a.eval (.tmp 14) = .pointer (some ⟨b, 0, none⟩) := hk 1 (B.mem_of (by kernel_rfl))
      have f1 := B.ev e1
      clear hk
      refine ⟨_, rfl, rfl, Or.inl ⟨B.wanted_none rfl, B.wpIn_value (v := .pointer (some ⟨b, 1, none⟩)) (w' := W) ?_ ⟨_, rfl, Below.refl _ _, rfl⟩⟩⟩
      go_simp
    · clear hiq
      have e2 : a.eval (.tmp 15) = .pointer (some ⟨b, 1, none⟩) := hk 2 (B.mem_of (by kernel_rfl))
      have f2 := B.ev e2
      have hc : W.cell? ⟨b, 1, none⟩ = some (.map (some x)) := cell_of_row W _ 1 _ _ _ hx0
      clear hk
      refine ⟨_, rfl, rfl, Or.inl ⟨B.wanted_none rfl, B.wpIn_value (v := .map (some x)) (w' := W) ?_ ⟨_, rfl, Below.refl _ _, rfl⟩⟩⟩
      go_simp
    · clear hiq
      clear hk
      refine ⟨_, rfl, rfl, Or.inl ⟨B.wanted_none rfl, B.wpIn_value (v := .string f) (w' := W) ?_ ⟨_, rfl, Below.refl _ _, rfl⟩⟩⟩
      go_simp
    · clear hiq
      have e3 : a.eval (.tmp 16) = .map (some x) := hk 3 (B.mem_of (by kernel_rfl))
      have f3 := B.ev e3
      have e4 : a.eval (.tmp 17) = .string f := hk 4 (B.mem_of (by kernel_rfl))
      have f4 := B.ev e4
      have hlk := (x2.later hb).look (t := 73) keyed9 Tryz.underlying73 (zero76 W) (key9 hf) trivial
      clear hk
      refine ⟨_, rfl, rfl, Or.inl ⟨B.wanted_none rfl, B.wpIn_value (v := .pointer (some ⟨tr, 0, none⟩)) (w' := W) ?_ ⟨_, rfl, Below.refl _ _, rfl⟩⟩⟩
      go_simp
    · clear hiq
      have hc0 := cell_of_row W _ 0 _ _ _ hx5
      have hc1 := cell_of_row W _ 1 _ _ _ hx5
      clear hk
      refine ⟨_, rfl, rfl, Or.inl ⟨B.wanted_none rfl, B.wpIn_value (v := .agg #[.string lo, .string hi]) (w' := W) ?_ ⟨_, rfl, Below.refl _ _, rfl⟩⟩⟩
      go_simp
    · clear hiq
      have e5 : a.eval (.tmp 18) = .pointer (some ⟨tr, 0, none⟩) := hk 5 (B.mem_of (by kernel_rfl))
      have f5 := B.ev e5
      have e6 : a.eval (.tmp 19) = .agg #[.string lo, .string hi] := hk 6 (B.mem_of (by kernel_rfl))
      have f6 := B.ev e6
      clear hk
      refine ⟨_, rfl, rfl, Or.inl ⟨B.wanted_none rfl, B.wpIn_enter (f := 45) (args := #[.pointer (some ⟨tr, 0, none⟩), .agg #[.string lo, .string hi]]) ?_ ((krt W hb).mono ?_)⟩⟩
      · go_simp
      · rintro e w7 ⟨⟨u, rfl, hu⟩, hb7⟩
        exact ⟨_, rfl, _, rfl, hb7, hu⟩
  case post =>
    intro VV W hbW hV
    obtain ⟨bn, bs, e7, hn1, hn2, rn, rs⟩ : RgV w2.heap.size p c q c2 lo hi (VV 7) W := hV 7 (by omega)
    clear hV krt
    simp only [B.putAll, Nat.reduceAdd]
    rw [e7]
    simp only [Act.put, List.setIfInBounds_toArray, List.set_cons_zero, List.set_cons_succ]
    change wpListIn _ _ _ _ _ [] _ _
    gi_wp2
    have hBW : Below w.heap.size w W := hb2.trans (hbW.mono hb2.size)
    have szW := hbW.size
    have bW := (hbW.block _ (lt_of_row b2)).trans b2
    have hsq := B.span0_seqw [(K, ⟨#[]⟩)] (B.ris1 _) (by simp) lo hi p c q c2 bn bs w W hS hBW rn rs
    rw [hsp] at hsq
    have ln := lt_of_row rn
    have ls := lt_of_row rs
    obtain ⟨i0, hi0, hz0, hz1, hz2⟩ := info_parts info31
    refine range_w (gf := 103) (lb := #[.pointer (some ⟨bn, 0, none⟩), .pointer (some ⟨bs, 0, none⟩)]) rfl (enters_of Tryz.func103 (by kernel_rfl) rfl) hsq (fun _ _ _ _ h => by rw [h]; rfl) (fun _ _ _ _ _ h _ => h) (fun k => k = w.heap.size + 1)
      (fun k hk => by
        rcases hk with hk | rfl | rfl
        · exact ⟨by omega, by omega⟩
        · exact ⟨ln, by omega⟩
        · exact ⟨ls, by omega⟩) (fun k hk => by omega)
      (fun pre U => Bx w.heap.size (w.heap.size + 1) (pre.map fun _ => (d : Int)) U)
      (fun _ _ _ => False)
      (fun s U V h hb => h.st hb)
      (fun _ _ _ _ h _ => h) ⟨_, bW, ⟨rfl, Or.inl ⟨rfl, rfl⟩⟩, fun _ => rfl⟩
      (fun ar => { tmps := #[.pointer (some ⟨b, 0, none⟩), .string f, .agg #[.string lo, .string hi], undef, undef, .pointer (some ⟨w.heap.size, 0, none⟩), .nilFunc, .pointer (some ⟨w.heap.size + 1, 0, none⟩), ar.getD 0 undef, .pointer (some ⟨b, 0, none⟩), .bool false, undef, undef, VV 0, VV 1, VV 2, VV 3, VV 4, VV 5, VV 6, .func (.func 103) #[] #[.pointer (some ⟨bn, 0, none⟩), .pointer (some ⟨bs, 0, none⟩)], ar.getD 0 undef, ar.getD 1 undef, undef, undef, undef, undef, undef, undef, undef, undef], defers := [] }) ?assign ?body ?done ?stop
    case assign =>
      intro l D y ar U KK he hK
      subst he
      have e : (#[Value.string y.1, Value.string y.2] : Array Value).getD 0 undef = .string y.1 := rfl
      have e2 : (#[Value.string y.1, Value.string y.2] : Array Value).getD 1 undef = .string y.2 := rfl
      simp only [e, e2] at hK
      gi_wp2
      exact hK
    case body =>
      rintro l D pre y ar U hCD he ⟨u, h1, h2, h3⟩ hp hsz
      obtain ⟨rfl, rfl⟩ := pfx_im hp
      obtain rfl := h3 rfl
      subst he
      have e : (#[Value.string K, Value.string ⟨#[]⟩] : Array Value).getD 0 undef = .string K := rfl
      have e2 : (#[Value.string K, Value.string ⟨#[]⟩] : Array Value).getD 1 undef = .string ⟨#[]⟩ := rfl
      simp only [e, e2]
      have hB : U.heap[w.heap.size + 1]? = some (.cells #[.slice none 0 0] 71 (0, 0)) := h1
      have kno : ∀ W2, Below U.heap.size U W2 → Calls Tryz.prog 46 #[.string K] W2 fun e w' => e = .returned (.int .u64 (d : Int)) ∧ Below W2.heap.size W2 w' := fun W2 _ => kno0 W2
      gi_wp2
      refine B.any_tailInR (by kernel_rfl) 4 (by exact Nat.le_of_ble_eq_true rfl) (fun i => i + 23) (B.mixR [(3, BsV d)] [.slice none 0 0, .string K, .int .u64 (d : Int), undef]) (by kernel_rfl) (by kernel_rfl) (by kernel_rfl) (by kernel_rfl) (B.mixR_later _ _ ((by intro y hy; simp only [List.mem_cons, List.not_mem_nil, or_false] at hy; subst hy; exact BsV.later))) ?step ?post
      case step =>
        intro iq hiq a W2 hrest hb hk
        have hp7 : a.eval (.tmp 7) = .pointer (some ⟨w.heap.size + 1, 0, none⟩) := (hrest 7 (by intro iq2 hiq2; (repeat' split) <;> omega)).trans rfl
        have fp7 := B.ev hp7
        have hx7 : W2.heap[w.heap.size + 1]? = some (.cells #[.slice none 0 0] 71 (0, 0)) := (hb.block _ (lt_of_row hB)).trans hB
        have hp8 : a.eval (.tmp 8) = .string K := (hrest 8 (by intro iq2 hiq2; (repeat' split) <;> omega)).trans rfl
        have fp8 := B.ev hp8
        clear hrest
        obtain rfl | rfl | rfl | rfl : iq = 0 ∨ iq = 1 ∨ iq = 2 ∨ iq = 3 := by omega
        · clear hiq
          have hc : W2.cell? ⟨w.heap.size + 1, 0, none⟩ = some (.slice none 0 0) := cell_of_row W2 _ 0 _ _ _ hx7
          clear hk
          refine ⟨_, rfl, rfl, Or.inl ⟨B.wanted_none rfl, B.wpIn_valueR (v := .slice none 0 0) (w' := W2) ?_ (fun _ h => by cases h) ⟨_, rfl, Below.refl _ _, rfl⟩⟩⟩
          go_simp
        · clear hiq
          clear hk
          refine ⟨_, rfl, rfl, Or.inl ⟨B.wanted_none rfl, B.wpIn_valueR (v := .string K) (w' := W2) ?_ (fun _ h => by cases h) ⟨_, rfl, Below.refl _ _, rfl⟩⟩⟩
          go_simp
        · clear hiq
          have e1 : a.eval (.tmp 24) = .string K := hk 1 (B.mem_of (by kernel_rfl))
          have f1 := B.ev e1
          clear hk
          refine ⟨_, rfl, rfl, Or.inl ⟨B.wanted_none rfl, B.wpIn_enterR (f := 46) (args := #[.string K]) ?_ (fun _ h => by cases h) ((kno W2 hb).mono ?_)⟩⟩
          · go_simp
          · rintro e w7 ⟨rfl, hb7⟩
            exact ⟨_, rfl, _, rfl, hb7, rfl⟩
        · clear hiq
          have e2 : a.eval (.tmp 25) = .int .u64 (d : Int) := hk 2 (B.mem_of (by kernel_rfl))
          have f2 := B.ev e2
          clear hk
          refine ⟨_, rfl, rfl, Or.inl ⟨B.wanted_none rfl, B.wpIn_valueR (v := .slice (some ⟨W2.heap.size, 0, none⟩) 1 1) (w' := W2.alloc (.cells #[.int .u64 (d : Int)] 31)) ?_ (fun _ h => by cases h) ⟨_, rfl, (Below.refl _ W2).alloc (Nat.le_refl _) _, ⟨W2.heap.size, rfl, heap_alloc_new _ _⟩⟩⟩⟩
          go_simp
      case post =>
        intro V2 W2 hbW2 hV2
        have v0 : V2 0 = .slice none 0 0 := hV2 0 (by omega)
        obtain ⟨nb, v3, rnb⟩ : BsV d (V2 3) W2 := hV2 3 (by omega)
        clear hV2
        simp only [B.putAll, Nat.reduceAdd]
        rw [v0, v3]
        simp only [Act.put, List.setIfInBounds_toArray, List.set_cons_zero, List.set_cons_succ]
        change wpListIn _ _ _ _ _ [_, _] _ _
        have szb := hbW2.size
        have hown : W2.ownsRow w.heap.size 31 1 (.slice none 0 0) 0 [] := ⟨rfl, Or.inl ⟨rfl, rfl⟩⟩
        have hcell : ∀ j u, [Value.int .u64 (d : Int)][j]? = some u → W2.cell? ((⟨nb, 0, none⟩ : Addr).add j) = some u := fun j u hu => by
          have hj : j = 0 := by
            have := (List.getElem?_eq_some_iff.1 hu).1
            simp at this
            exact this
          subst hj
          have hc := cell_of_row W2 nb 0 _ _ _ rnb
          simpa [Addr.add] using hc.trans (by simpa using hu)
        have bx2 : Boxed W2 (w.heap.size + 1) 71 (.slice none 0 0) := (hbW2.block _ (lt_of_row hB)).trans hB
        gi_wp2_with (first
          | (gi_at_builtin; refine wpListIn_append_own _ rfl _ _ 71 rfl w.heap.size 31 i0 (.int .u64 0) 1 8 Tryz.underlying71 hi0 hz0 hz1 hz2 rfl (by decide) _ _ _ rfl hown ⟨nb, 0, none⟩ 1 1 [.int .u64 (d : Int)] rfl rfl hcell (by simp [Value.oneCell']) (by decide) (by decide) (by omega) ?_; intro v' w3 hown' hg3 hnil3; obtain ⟨qq, cc, rfl⟩ := ownsRow_succ hown'; have bx3 : Boxed w3 (w.heap.size + 1) 71 (.slice none 0 0) := bx2.kept (row := none) hg3 (by simp); have c3 := bx3.cell; have f3 := bx3.frozen)
          | gi_in)
        have hg4 : W2.grownBy w3 none := hg3
        have hkc : B.KC (fun k => k = w.heap.size + 1) U (w3.setCell ⟨w.heap.size + 1, 0, none⟩ (.slice (some ⟨qq, 0, none⟩) (0 + 1) cc)) := by
          refine B.KC.setCell (C := fun k => k = w.heap.size + 1) ?_ (b := w.heap.size + 1) (o := 0) rfl _
          exact ⟨hg4.os.trans hbW2.os, hg4.tape.trans hbW2.tape, hg4.output.trans hbW2.output, Nat.le_trans hbW2.size hg4.size, fun k hk _ => (hg4.block k (by omega) (by simp)).trans (hbW2.block k hk)⟩
        exact ⟨hkc, _, bx3.set _, hown'.kept (grownBy_setCell' w3 _ _) (.inr (bx3.not_row (by decide) hown').symm), fun h => by cases h⟩
    case done =>
      rintro U ⟨u, h1, h2, h3⟩ hkc hD
      obtain ⟨qq, cc, rfl⟩ := ownsRow_succ h2
      have c0 := h1.cell
      have szU := hkc.size
      have ltD := (Array.getElem?_eq_some_iff.1 hD).1
      have hBU : Below w.heap.size w U := ⟨hkc.os.trans hBW.os, hkc.tape.trans hBW.tape, hkc.output.trans hBW.output, Nat.le_trans hBW.size hkc.size, fun k hk => (hkc.block k (by omega) (by omega)).trans (hBW.block k hk)⟩
      have hq : U.cell? ⟨qq, 0, none⟩ = some (.int .u64 (d : Int)) := by
        rcases h2.2 with ⟨h, _⟩ | ⟨g', cap, cur, e, _, hg, r1, r2, r3, r4⟩
        · cases h
        · injection e with e1 _ e3
          injection e1 with e1
          injection e1 with e1
          subst e1
          rw [cell_of_row _ qq 0 _ _ _ hg, ← Array.getElem?_toList]
          have r5 : cur.toList.take 1 = [.int .u64 (d : Int)] := r4
          cases hcl : cur.toList with
          | nil => rw [hcl] at r5; cases r5
          | cons a l =>
            rw [hcl] at r5
            simp at r5
            rw [r5]; rfl
      have kt := these_one b qq cc m d v t A _ _ ⟨by omega, by omega⟩ ((hBU.block _ (lt_of_row hr)).trans hr) (hm.later hBU) hq
      gi_wp2_with fail
      refine ⟨trivial, rfl, (callsIn_wide.2 kt).mono ?_⟩
      rintro e U2 ⟨g, l, rfl, hg1, hl1, rg, rl, hbU2⟩
      have HD : Hid (U2.heap[W.heap.size]? = some (.deferred (some []))) := (hbU2.block _ ltD).trans hD
      clear hD kt
      gi_wp2
      refine ⟨by simp, .inl ⟨_, _, rfl, run_takeDeferred HD.out, ?_⟩⟩
      refine ⟨.func (.func 67) #[] #[.pointer (some ⟨g, 0, none⟩)], by simp [results, Tryz.results25, go_sem], ⟨g, l, rfl, by omega, by omega, ?_, ?_⟩, ?_⟩
      · exact (World.putObj_heap_other (by omega)).trans rg
      · exact (World.putObj_heap_other (by omega)).trans rl
      · exact (hBU.trans (hbU2.mono hBU.size)).trans (B.putObj_below _ _ (by omega))
    case stop => exact fun _ _ _ _ h => h.elim
end Go.Proofs.YtniljoojoafiaaaGreatDoor
namespace Go.Proofs.YtniljoojoafiaaaGreatDoor.V
open Go.Shelf Go.RowKit Go.Lib Go.Sort
def idF (n : Nat) : Array (Fin (n + 1)) := (List.finRange (n + 1)).toArray
set_option maxRecDepth 100000 in
theorem idF_size (n : Nat) : (idF n).size = n + 1 := by simp [idF]
set_option maxRecDepth 100000 in
theorem idF_get (n j : Nat) (h : j < n + 1) : (idF n)[j]! = ⟨j, h⟩ := by
  rw [getElem!_pos _ j (by rw [idF_size]; exact h)]
  simp [idF]
def osF (g : Nat → ByteArray) (n : Nat) (p : Nat) : Nat := ((sortF g n (idF n))[p]!).val
def keepP (g : Nat → ByteArray) (os : Nat → Nat) (N p : Nat) : Bool := !(decide (p + 1 < N) && ((g (os (p + 1))).toList == (g (os p)).toList))
def keptP (g : Nat → ByteArray) (os : Nat → Nat) (N : Nat) : Nat → List Nat
  | 0 => []
  | i + 1 => if keepP g os N i then keptP g os N i ++ [os i] else keptP g os N i
set_option maxRecDepth 100000 in
theorem kept_len (g : Nat → ByteArray) (os : Nat → Nat) (N : Nat) : ∀ i, (keptP g os N i).length ≤ i
  | 0 => Nat.le_refl _
  | i + 1 => by
    have := kept_len g os N i
    unfold keptP
    by_cases h : keepP g os N i = true
    · rw [if_pos h]; simp; omega
    · rw [if_neg h]; omega
set_option maxRecDepth 100000 in
theorem kept_prefix (g : Nat → ByteArray) (os : Nat → Nat) (N : Nat) (i : Nat) : ∀ k, keptP g os N i <+: keptP g os N (i + k)
  | 0 => List.prefix_rfl
  | k + 1 => by
    refine (kept_prefix g os N i k).trans ?_
    show _ <+: (if keepP g os N (i + k) then _ else _)
    by_cases h : keepP g os N (i + k) = true
    · rw [if_pos h]; exact List.prefix_append _ _
    · rw [if_neg h]; exact List.prefix_rfl
set_option maxRecDepth 100000 in
theorem kept_at (g : Nat → ByteArray) (os : Nat → Nat) (N i : Nat) (hi : i < N) (h : keepP g os N i = true) : (keptP g os N N).getD (keptP g os N i).length 0 = os i := by
  have h1 : keptP g os N (i + 1) = keptP g os N i ++ [os i] := by show (if _ then _ else _) = _; rw [if_pos h]
  obtain ⟨k, rfl⟩ : ∃ k, N = i + 1 + k := ⟨N - (i + 1), by omega⟩
  obtain ⟨r, hr⟩ := kept_prefix g os (i + 1 + k) (i + 1) k
  rw [← hr, h1]
  simp [List.getD_eq_getElem?_getD]
set_option maxRecDepth 100000 in
theorem kept_lt (g : Nat → ByteArray) (os : Nat → Nat) (N q : Nat) (hos : ∀ p, p < N → os p < q) : ∀ i, i ≤ N → ∀ a ∈ keptP g os N i, a < q
  | 0, _, a, ha => by cases ha
  | i + 1, hi, a, ha => by
    unfold keptP at ha
    by_cases h : keepP g os N i = true
    · rw [if_pos h] at ha
      rcases List.mem_append.1 ha with h1 | h1
      · exact kept_lt g os N q hos i (by omega) a h1
      · simp at h1; subst h1; exact hos i (by omega)
    · rw [if_neg h] at ha
      exact kept_lt g os N q hos i (by omega) a ha
def structT (g : Nat → ByteArray) (f : Nat → Tr) (os : Nat → Nat) (N : Nat) : Tr :=
  .mk 6 false 0 ⟨#[]⟩ (keptP g os N N).length (fun j => f ((keptP g os N N).getD j 0)) (keptP g os N N).length (fun j => ((keptP g os N N).map g).getD j ⟨#[]⟩)
set_option maxRecDepth 100000 in
theorem heap_putF {n : Nat} (w : World) (z : Nat) (d : Array (Fin (n + 1))) (k j : Nat) (h : j ≠ z) : ((putRow (encF n) w z 0 d).drewN k).heap[j]? = w.heap[j]? := by
  show (putRow (encF n) w z 0 d).heap[j]? = _
  simp only [putRow, mapBlock, Array.getElem?_modify]
  rw [if_neg (fun e => h e.symm)]
set_option maxRecDepth 100000 in
theorem insInner_size {α : Type} [Inhabited α] (lt : α → α → Bool) (a : Nat) : ∀ (j : Nat) (d : Array α), (insInner lt a j d).size = d.size
  | 0, _ => rfl
  | j + 1, d => by
    unfold insInner
    by_cases h : (decide (j + 1 > a) && lt d[j + 1]! d[j]!) = true
    · rw [if_pos h, insInner_size lt a j, swp_size]
    · rw [if_neg h]
set_option maxRecDepth 100000 in
theorem insOuter_size {α : Type} [Inhabited α] (lt : α → α → Bool) (a b : Nat) : ∀ (k i : Nat) (d : Array α), b - i = k → (insOuter lt a b i d).size = d.size
  | 0, i, d, h => by
    unfold insOuter
    rw [if_neg (by omega)]
  | k + 1, i, d, h => by
    unfold insOuter
    by_cases hb : i < b
    · rw [if_pos hb, insOuter_size lt a b k (i + 1) _ (by omega), insInner_size]
    · rw [if_neg hb]
set_option maxRecDepth 100000 in
theorem sortF_size (g : Nat → ByteArray) (n : Nat) (d : Array (Fin (n + 1))) : (sortF g n d).size = d.size := insOuter_size _ _ _ _ _ _ rfl
set_option maxRecDepth 100000 in
theorem info3 : (Tryz.prog.info? 3).map (fun i => (i.zero, i.size, i.bytes)) = some (some (.int .i64 0), 1, 8) := by kernel_rfl
set_option maxRecDepth 100000 in
theorem sort_ints {q nc n blk z b o : Nat} {g : Nat → ByteArray} {wr : World} {cur : Array Value} (hn12 : n + 1 ≤ 12) (hnq : n + 1 ≤ q) (hrow : wr.heap[blk]? = some (.cells cur 3 (0, 0))) (hcs : ∀ j, j < n + 1 → cur[j]? = some (.int .i64 (j : Int)))
    (hz : wr.cell? ⟨z, 0, none⟩ = some (.slice (some ⟨b, o, none⟩) q nc)) (hn : ∀ i, i < q → wr.cell? ⟨b, o + i, none⟩ = some (.string (g i))) (hzb : z ≠ blk) (hbb : b ≠ blk) :
    Calls Tryz.prog 34 #[.slice (some ⟨blk, 0, none⟩) (n + 1) (n + 1), .func (.func 35) #[] #[.pointer (some ⟨z, 0, none⟩)]] wr fun e w' => e = .returned (.tuple #[]) ∧ (∀ p, p < n + 1 → w'.cell? ⟨blk, p, none⟩ = some (.int .i64 (osF g n p : Int))) ∧ (∀ j, j ≠ blk → w'.heap[j]? = wr.heap[j]?) ∧ RowKit.Below blk wr w' ∧ w'.heap.size = wr.heap.size := by
  have hH : Holds (encF n) wr blk 0 (idF n) := fun j hj => by
    rw [idF_size] at hj
    rw [idF_get n j hj, Nat.zero_add]
    exact ⟨by rw [cell_of_row wr _ _ _ _ _ hrow, hcs j (by omega)]; rfl, frozen_of_row wr _ _ _ _ hrow⟩
  have hl := lt_of_row hrow
  have hsort := sort_any (cap := n + 1) (g := g) hn12 hnq hz hn hzb hbb (idF n) (idF_size n) hH
  have hsz' := sortF_size g n (idF n)
  have hH2 := holds_putRow (encF n) wr blk 0 (idF n) (sortF g n (idF n)) hH hsz'
  refine hsort.mono ?_
  rintro e w' ⟨rfl, k, rfl⟩
  refine ⟨rfl, fun p hp => ?_, fun j hj => heap_putF _ _ _ _ _ hj, ?_, size_putRow _ _ _ _ _⟩
  · have := (hH2 p (by rw [hsz', idF_size]; omega)).1
    rw [Nat.zero_add] at this
    exact this
  · exact (RowKit.Below.refl _ wr).grown (show wr.grownBy _ (some blk) from ⟨rfl, rfl, rfl, by rw [show ((putRow (encF n) wr blk 0 (sortF g n (idF n))).drewN k).heap.size = wr.heap.size from size_putRow _ _ _ _ _]; exact Nat.le_refl _, fun j _ hne => heap_putF _ _ _ _ _ (fun e => hne (by rw [e]))⟩) (by omega) (fun j hj => by injection hj with hj; omega)
set_option maxRecDepth 100000 in
theorem osF_lt (g : Nat → ByteArray) (n p : Nat) : osF g n p < n + 1 := (((sortF g n (idF n))[p]!)).isLt
end Go.Proofs.YtniljoojoafiaaaGreatDoor.V
