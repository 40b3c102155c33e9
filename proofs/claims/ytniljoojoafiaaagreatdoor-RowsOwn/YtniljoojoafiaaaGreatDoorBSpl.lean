/- The keys of a leaf that are in a span, handed to a loop's body one behind the other: span and its function. -/
import Derived.Test.YtniljoojoafiaaaGreatDoorXah
import Derived.Test.YtniljoojoafiaaaGreatDoorXad
namespace Go.Proofs.YtniljoojoafiaaaGreatDoor.B
open Go.RowKit Go.Shelf
attribute [local go_sem] Oper.semAt_some
def spanL (xs : List Im) (lo hi : ByteArray) (i : Nat) : List Im := (xs.drop i).takeWhile (fun x => hasB lo hi x.1)
set_option maxRecDepth 100000 in
theorem spanL_end {xs : List Im} {lo hi : ByteArray} {i : Nat} (h : xs.length ≤ i) : spanL xs lo hi i = [] := by unfold spanL; rw [List.drop_eq_nil_of_le h]; rfl
set_option maxRecDepth 100000 in
theorem spanL_no {xs : List Im} {lo hi : ByteArray} {i : Nat} (h : i < xs.length) (hn : hasB lo hi (xs[i]!).1 = false) : spanL xs lo hi i = [] := by
  unfold spanL
  rw [List.drop_eq_getElem_cons h, List.takeWhile_cons_of_neg]
  rw [getElem!_pos xs i h] at hn
  rw [hn]; simp
set_option maxRecDepth 100000 in
theorem spanL_yes {xs : List Im} {lo hi : ByteArray} {i : Nat} (h : i < xs.length) (hn : hasB lo hi (xs[i]!).1 = true) : spanL xs lo hi i = xs[i]! :: spanL xs lo hi (i + 1) := by
  unfold spanL
  rw [List.drop_eq_getElem_cons h, List.takeWhile_cons_of_pos]
  · rw [getElem!_pos xs i h]
  · rw [getElem!_pos xs i h] at hn
    exact hn
set_option maxRecDepth 100000 in
theorem YieldAt.inAny {P : Program} {l m m' : Nat} {args : Array Value} {W : World} {R : Ending → World → Prop} (h : YieldAt Fence.wide m P l args W R) : YieldAt Fence.wide m' P l args W R := by
  obtain ⟨fn, tmps, assign, body, h1, h2, h3⟩ := h
  exact ⟨fn, tmps, assign, body, h1, h2, fun c cs _ => h3 c cs (room_wide _)⟩
set_option maxRecDepth 100000 in
set_option maxHeartbeats 8000000 in
theorem span0_seq (xs : List Im) (hr : Ris xs) (hn0 : xs.length ≤ 50) (lo hi : ByteArray) (p : Option Addr) (c : Nat) (q : Option Addr) (d : Nat) (bn bs : Nat) (w0 w : World) (hS : Sl w0 p xs.length c (itC xs)) (hb0 : Below w0.heap.size w0 w)
    (hn : w.heap[bn]? = some (.cells #[.slice p xs.length c, .slice q 0 d] 108 (0, 0))) (hs : w.heap[bs]? = some (.cells #[.string lo, .string hi] 24 (0, 0))) :
    SeqB Tryz.prog 103 #[.pointer (some ⟨bn, 0, none⟩), .pointer (some ⟨bs, 0, none⟩)] (fun x : Im => #[.string x.1, .string x.2]) (spanL xs lo hi (posK xs lo)) (fun k => k < w0.heap.size ∨ k = bn ∨ k = bs) w := by
  intro C l J Jx W hbW hA hCW hJ hJx hY h0
  obtain ⟨W0, hW0⟩ : ∃ W0, W.alloc (.cells #[.func (.yield l) #[] #[]] 79) = W0 := ⟨_, rfl⟩
  have hbW0 : Below W.heap.size W W0 := by rw [← hW0]; exact (Below.refl _ W).alloc (Nat.le_refl _) _
  have ry0 : W0.heap[W.heap.size]? = some (.cells #[.func (.yield l) #[] #[]] 79 (0, 0)) := by rw [← hW0]; exact heap_alloc_new _ _
  have rn0 := (hbW0.block _ (Nat.lt_of_lt_of_le (lt_of_row hn) hbW.size)).trans ((hbW.block _ (lt_of_row hn)).trans hn)
  have rs0 := (hbW0.block _ (Nat.lt_of_lt_of_le (lt_of_row hs) hbW.size)).trans ((hbW.block _ (lt_of_row hs)).trans hs)
  have hS0 : Sl W0 p xs.length c (itC xs) := ((hS.later hb0).later hbW).later hbW0
  have hnC : ¬ C bn := hA _ (Or.inr (Or.inl rfl))
  have hsC : ¬ C bs := hA _ (Or.inr (Or.inr rfl))
  have hYC : ¬ C W.heap.size := fun h => absurd (hCW _ h) (by omega)
  have hbC : ∀ b o, p = some ⟨b, o, none⟩ → 0 < xs.length → ¬ C b := fun b o e h => by
    obtain ⟨b', o', e', hb', _⟩ := hS.lies h
    rw [e] at e'
    injection e' with e'
    injection e' with e1
    exact hA _ (Or.inl (by omega))
  have hJ0 : J [] W0 := hJ _ _ _ h0 hbW0
  have kf := find_any xs hr (by omega) lo p c q 0 d W0 hS0
  have kl := fun V => leaf_any p xs.length c q 0 d V
  obtain ⟨SP, hSP⟩ : ∃ SP, spanL xs lo hi (posK xs lo) = SP := ⟨_, rfl⟩
  rw [hSP] at hY ⊢
  have HSP : Hid (spanL xs lo hi (posK xs lo) = SP) := hSP
  have HY : Hid (∀ pre x A, J pre A → pre ++ [x] <+: SP → YieldAt Fence.wide 0 Tryz.prog l #[.string x.1, .string x.2] A fun e B => (e = .returned (.bool true) ∧ J (pre ++ [x]) B ∧ KC C A B) ∨ (e = .returned (.bool false) ∧ Jx (pre ++ [x]) B ∧ KC C A B)) := hY
  have HJ : Hid (∀ s A B, J s A → Below W.heap.size A B → J s B) := hJ
  have hpl := posK_le xs lo
  obtain ⟨i0, hi0⟩ : ∃ i0, posK xs lo = i0 := ⟨_, rfl⟩
  rw [hi0] at kf hpl
  have HSP0 : Hid (spanL xs lo hi i0 = SP) := by rw [← hi0]; exact hSP
  have hcap := hS.cap
  have hmx : maxLen = 9223372036854775807 := rfl
  have a0 := cell_of_row W0 bn 0 _ _ _ rn0
  have a1 := cell_of_row W0 bn 1 _ _ _ rn0
  have s0 := cell_of_row W0 bs 0 _ _ _ rs0
  have s1 := cell_of_row W0 bs 1 _ _ _ rs0
  have HXs : Hid (∃ ys, ys = xs) := ⟨xs, rfl⟩
  clear hSP HSP hY hJ hi0 hn hs h0
  refine callsIn_of_wp Tryz.func103 rfl trivial ?_ rfl
  simp only [Tryz.ntmps103, List.size_toArray, List.length_cons, List.length_nil, Nat.reduceAdd, Nat.reduceSub, Array.replicate_succ, Array.replicate_zero, List.push_toArray, List.append_toArray, List.nil_append, List.cons_append]
  gi_wp2_with fail
  refine ⟨trivial, rfl, ?_⟩
  refine (callsIn_wide.2 kf).mono ?_
  rintro e w1 ⟨rfl, hb1⟩
  have hJ1 : J [] w1 := HJ.out _ _ _ hJ0 (hb1.mono hbW0.size)
  have hk1 : KC C W0 w1 := KC.of hb1
  clear a0 a1 s0 s1 kf
  gi_wp2
  gi_loopw [4] (fun v4 wr => ∃ (i : Nat) (pre : List Im), v4 = .int .i64 (i : Int) ∧ i ≤ xs.length ∧ Hid (SP = pre ++ spanL xs lo hi i) ∧ J pre wr ∧ KC C W0 wr) (fun v4 _ => xs.length - (intOf v4).toNat)
  case atStart => exact ⟨i0, [], rfl, hpl, HSP0.out.symm, hJ1, hk1⟩
  case round =>
    clear hJ1 hk1 hb1
    obtain ⟨i, pre, rfl, hin, HI, hJr, hkr⟩ := hrel
    have sz := hbW0.size
    have hYs := lt_of_row ry0
    have rn1 := (hkr.block _ (lt_of_row rn0) hnC).trans rn0
    have a0 := cell_of_row wr bn 0 _ _ _ rn1
    have a1 := cell_of_row wr bn 1 _ _ _ rn1
    gi_wp2_with fail
    refine ⟨trivial, rfl, ?_⟩
    refine (callsIn_wide.2 (kl _)).mono ?_
    rintro e w2 ⟨rfl, hb2⟩
    have hk2 : KC C W0 w2 := hkr.trans (KC.of hb2)
    have hJ2 : J pre w2 := HJ.out _ _ _ hJr (hb2.mono (Nat.le_trans sz hkr.size))
    have rn := (hk2.block _ (lt_of_row rn0) hnC).trans rn0
    have rs := (hk2.block _ (lt_of_row rs0) hsC).trans rs0
    have ry := (hk2.block _ hYs hYC).trans ry0
    clear a0 a1 rn1 kl
    obtain ⟨Y, hY⟩ : ∃ Y, W.heap.size = Y := ⟨_, rfl⟩
    rw [hY] at ry
    simp only [hY]
    gi_wp2
    by_cases hlt : i < xs.length
    · obtain ⟨b, o, rfl, hb, hcs⟩ := hS0.lies (by omega)
      have hbC' := hbC b o rfl (by omega)
      obtain ⟨y1, y2⟩ := Sl.get hcs hlt
      have zk : ∀ V, Below w2.heap.size w2 V → V.cell? ⟨b, o + i * 2, none⟩ = some (.string (xs[i]!).1) := fun V h => (World.cell?_of_block (a := ⟨b, o + i * 2, none⟩) ((h.block b (Nat.lt_of_lt_of_le hb hk2.size)).trans (hk2.block b hb hbC'))).trans y1
      have zv : ∀ V, Below w2.heap.size w2 V → V.cell? ⟨b, o + i * 2 + 1, none⟩ = some (.string (xs[i]!).2) := fun V h => (World.cell?_of_block (a := ⟨b, o + i * 2 + 1, none⟩) ((h.block b (Nat.lt_of_lt_of_le hb hk2.size)).trans (hk2.block b hb hbC'))).trans y2
      have kh := fun V => has_any lo hi (xs[i]!).1 V
      have hlt' : (i : Int) < (xs.length : Int) := by omega
      cases hh : hasB lo hi (xs[i]!).1 with
      | false =>
        rw [hh] at kh
        have hsp := spanL_no hlt hh
        obtain ⟨⟨k, v⟩, hkv⟩ : ∃ x, xs[i]! = x := ⟨_, rfl⟩
        rw [hkv] at zk zv kh
        simp only at zk zv kh
        have HE : Hid (SP = pre) := by unfold Hid; rw [HI.out, hsp, List.append_nil]
        clear hsp hkv HI hcs y1 y2 hh
        refine any_tailIn (by kernel_rfl) 30 (by exact Nat.le_of_ble_eq_true rfl) (fun i => i + 34) (mixR [] [.int .i64 (i : Int), .pointer (some ⟨bn, 0, none⟩), .slice (some ⟨b, o, none⟩) xs.length c, .int .i64 (xs.length : Int), .bool false, .bool false, .agg #[.string lo, .string hi], .pointer (some ⟨bn, 0, none⟩), .slice (some ⟨b, o, none⟩) xs.length c, .int .i64 (i : Int), .pointer (some ⟨b, o + i * 2, none⟩), .pointer (some ⟨b, o + i * 2, none⟩), .string k, .bool false, .bool true, .bool true, .bool true, undef, undef, undef, undef, undef, undef, undef, undef, undef, undef, undef, undef, undef]) (by kernel_rfl) (by kernel_rfl) (by kernel_rfl) (by kernel_rfl) (mixR_later _ _ (stab_nil)) ?step ?post
        case step =>
          intro iq hiq a W hrest hb hk
          have hp1 : a.eval (.tmp 1) = .pointer (some ⟨bn, 0, none⟩) := (hrest 1 (by intro iq2 hiq2; (try split) <;> omega)).trans rfl
          have fp1 := ev hp1
          have hx1 : W.heap[bn]? = some (.cells #[.slice (some ⟨b, o, none⟩) xs.length c, .slice q 0 d] 108 (0, 0)) := (hb.block _ (lt_of_row rn)).trans rn
          have hp2 : a.eval (.tmp 2) = .pointer (some ⟨bs, 0, none⟩) := (hrest 2 (by intro iq2 hiq2; (try split) <;> omega)).trans rfl
          have fp2 := ev hp2
          have hx2 : W.heap[bs]? = some (.cells #[.string lo, .string hi] 24 (0, 0)) := (hb.block _ (lt_of_row rs)).trans rs
          have hp4 : a.eval (.tmp 4) = .int .i64 (i : Int) := (hrest 4 (by intro iq2 hiq2; (try split) <;> omega)).trans rfl
          have fp4 := ev hp4
          clear hrest
          obtain rfl | rfl | rfl | rfl | rfl | rfl | rfl | rfl | rfl | rfl | rfl | rfl | rfl | rfl | rfl | rfl | rfl | rfl | rfl | rfl | rfl | rfl | rfl | rfl | rfl | rfl | rfl | rfl | rfl | rfl : iq = 0 ∨ iq = 1 ∨ iq = 2 ∨ iq = 3 ∨ iq = 4 ∨ iq = 5 ∨ iq = 6 ∨ iq = 7 ∨ iq = 8 ∨ iq = 9 ∨ iq = 10 ∨ iq = 11 ∨ iq = 12 ∨ iq = 13 ∨ iq = 14 ∨ iq = 15 ∨ iq = 16 ∨ iq = 17 ∨ iq = 18 ∨ iq = 19 ∨ iq = 20 ∨ iq = 21 ∨ iq = 22 ∨ iq = 23 ∨ iq = 24 ∨ iq = 25 ∨ iq = 26 ∨ iq = 27 ∨ iq = 28 ∨ iq = 29 := by omega
          · clear hiq
            clear hk
            refine ⟨_, rfl, rfl, Or.inl ⟨wanted_none rfl, wpIn_value (v := .int .i64 (i : Int)) (w' := W) ?_ ⟨_, rfl, Below.refl _ _, rfl⟩⟩⟩
            go_simp
          · clear hiq
            clear hk
            refine ⟨_, rfl, rfl, Or.inl ⟨wanted_none rfl, wpIn_value (v := .pointer (some ⟨bn, 0, none⟩)) (w' := W) ?_ ⟨_, rfl, Below.refl _ _, rfl⟩⟩⟩
            go_simp
          · clear hiq
            have e1 : a.eval (.tmp 35) = .pointer (some ⟨bn, 0, none⟩) := hk 1 (mem_of (by kernel_rfl))
            have f1 := ev e1
            have hc : W.cell? ⟨bn, 0, none⟩ = some (.slice (some ⟨b, o, none⟩) xs.length c) := cell_of_row W _ 0 _ _ _ hx1
            clear hk
            refine ⟨_, rfl, rfl, Or.inl ⟨wanted_none rfl, wpIn_value (v := .slice (some ⟨b, o, none⟩) xs.length c) (w' := W) ?_ ⟨_, rfl, Below.refl _ _, rfl⟩⟩⟩
            go_simp
          · clear hiq
            have e2 : a.eval (.tmp 36) = .slice (some ⟨b, o, none⟩) xs.length c := hk 2 (mem_of (by kernel_rfl))
            have f2 := ev e2
            clear hk
            refine ⟨_, rfl, rfl, Or.inl ⟨wanted_none rfl, wpIn_value (v := .int .i64 (xs.length : Int)) (w' := W) ?_ ⟨_, rfl, Below.refl _ _, rfl⟩⟩⟩
            go_simp
          · clear hiq
            have e0 : a.eval (.tmp 34) = .int .i64 (i : Int) := hk 0 (mem_of (by kernel_rfl))
            have f0 := ev e0
            have e3 : a.eval (.tmp 37) = .int .i64 (xs.length : Int) := hk 3 (mem_of (by kernel_rfl))
            have f3 := ev e3
            clear hk
            refine ⟨_, rfl, rfl, Or.inl ⟨wanted_none rfl, wpIn_value (v := .bool false) (w' := W) ?_ ⟨_, rfl, Below.refl _ _, rfl⟩⟩⟩
            go_simp
            omega
          · clear hiq
            have e4 : a.eval (.tmp 38) = .bool false := hk 4 (mem_of (by kernel_rfl))
            have f4 := ev e4
            clear hk
            refine ⟨_, rfl, rfl, Or.inl ⟨wanted_none rfl, wpIn_value (v := .bool false) (w' := W) ?_ ⟨_, rfl, Below.refl _ _, rfl⟩⟩⟩
            go_simp
          · clear hiq
            have e5 : a.eval (.tmp 39) = .bool false := hk 5 (mem_of (by kernel_rfl))
            have f5 := ev e5
            have hc0 := cell_of_row W _ 0 _ _ _ hx2
            have hc1 := cell_of_row W _ 1 _ _ _ hx2
            clear hk
            refine ⟨_, rfl, rfl, Or.inl ⟨wanted_of (k := 5) (b := false) rfl rfl e5, wpIn_value (v := .agg #[.string lo, .string hi]) (w' := W) ?_ ⟨_, rfl, Below.refl _ _, rfl⟩⟩⟩
            go_simp
          · clear hiq
            have e5 : a.eval (.tmp 39) = .bool false := hk 5 (mem_of (by kernel_rfl))
            have f5 := ev e5
            clear hk
            refine ⟨_, rfl, rfl, Or.inl ⟨wanted_of (k := 5) (b := false) rfl rfl e5, wpIn_value (v := .pointer (some ⟨bn, 0, none⟩)) (w' := W) ?_ ⟨_, rfl, Below.refl _ _, rfl⟩⟩⟩
            go_simp
          · clear hiq
            have e5 : a.eval (.tmp 39) = .bool false := hk 5 (mem_of (by kernel_rfl))
            have f5 := ev e5
            have e7 : a.eval (.tmp 41) = .pointer (some ⟨bn, 0, none⟩) := hk 7 (mem_of (by kernel_rfl))
            have f7 := ev e7
            have hc : W.cell? ⟨bn, 0, none⟩ = some (.slice (some ⟨b, o, none⟩) xs.length c) := cell_of_row W _ 0 _ _ _ hx1
            clear hk
            refine ⟨_, rfl, rfl, Or.inl ⟨wanted_of (k := 5) (b := false) rfl rfl e5, wpIn_value (v := .slice (some ⟨b, o, none⟩) xs.length c) (w' := W) ?_ ⟨_, rfl, Below.refl _ _, rfl⟩⟩⟩
            go_simp
          · clear hiq
            have e5 : a.eval (.tmp 39) = .bool false := hk 5 (mem_of (by kernel_rfl))
            have f5 := ev e5
            clear hk
            refine ⟨_, rfl, rfl, Or.inl ⟨wanted_of (k := 5) (b := false) rfl rfl e5, wpIn_value (v := .int .i64 (i : Int)) (w' := W) ?_ ⟨_, rfl, Below.refl _ _, rfl⟩⟩⟩
            go_simp
          · clear hiq
            have e5 : a.eval (.tmp 39) = .bool false := hk 5 (mem_of (by kernel_rfl))
            have f5 := ev e5
            have e8 : a.eval (.tmp 42) = .slice (some ⟨b, o, none⟩) xs.length c := hk 8 (mem_of (by kernel_rfl))
            have f8 := ev e8
            have e9 : a.eval (.tmp 43) = .int .i64 (i : Int) := hk 9 (mem_of (by kernel_rfl))
            have f9 := ev e9
            clear hk
            refine ⟨_, rfl, rfl, Or.inl ⟨wanted_of (k := 5) (b := false) rfl rfl e5, wpIn_value (v := .pointer (some ⟨b, o + i * 2, none⟩)) (w' := W) ?_ ⟨_, rfl, Below.refl _ _, rfl⟩⟩⟩
            go_simp
          · clear hiq
            have e5 : a.eval (.tmp 39) = .bool false := hk 5 (mem_of (by kernel_rfl))
            have f5 := ev e5
            have e10 : a.eval (.tmp 44) = .pointer (some ⟨b, o + i * 2, none⟩) := hk 10 (mem_of (by kernel_rfl))
            have f10 := ev e10
            clear hk
            refine ⟨_, rfl, rfl, Or.inl ⟨wanted_of (k := 5) (b := false) rfl rfl e5, wpIn_value (v := .pointer (some ⟨b, o + i * 2, none⟩)) (w' := W) ?_ ⟨_, rfl, Below.refl _ _, rfl⟩⟩⟩
            go_simp
          · clear hiq
            have e5 : a.eval (.tmp 39) = .bool false := hk 5 (mem_of (by kernel_rfl))
            have f5 := ev e5
            have e11 : a.eval (.tmp 45) = .pointer (some ⟨b, o + i * 2, none⟩) := hk 11 (mem_of (by kernel_rfl))
            have f11 := ev e11
            have hc := zk W hb
            clear hk
            refine ⟨_, rfl, rfl, Or.inl ⟨wanted_of (k := 5) (b := false) rfl rfl e5, wpIn_value (v := .string k) (w' := W) ?_ ⟨_, rfl, Below.refl _ _, rfl⟩⟩⟩
            go_simp
          · clear hiq
            have e5 : a.eval (.tmp 39) = .bool false := hk 5 (mem_of (by kernel_rfl))
            have f5 := ev e5
            have e6 : a.eval (.tmp 40) = .agg #[.string lo, .string hi] := hk 6 (mem_of (by kernel_rfl))
            have f6 := ev e6
            have e12 : a.eval (.tmp 46) = .string k := hk 12 (mem_of (by kernel_rfl))
            have f12 := ev e12
            clear hk
            refine ⟨_, rfl, rfl, Or.inl ⟨wanted_of (k := 5) (b := false) rfl rfl e5, wpIn_enter (f := 104) (args := #[.agg #[.string lo, .string hi], .string k]) ?_ ((kh W).mono ?_)⟩⟩
            · go_simp
            · rintro e w2 ⟨rfl, hb2⟩
              exact ⟨_, rfl, _, rfl, hb2, rfl⟩
          · clear hiq
            have e5 : a.eval (.tmp 39) = .bool false := hk 5 (mem_of (by kernel_rfl))
            have f5 := ev e5
            have e13 : a.eval (.tmp 47) = .bool false := hk 13 (mem_of (by kernel_rfl))
            have f13 := ev e13
            clear hk
            refine ⟨_, rfl, rfl, Or.inl ⟨wanted_of (k := 5) (b := false) rfl rfl e5, wpIn_value (v := .bool true) (w' := W) ?_ ⟨_, rfl, Below.refl _ _, rfl⟩⟩⟩
            go_simp
          · clear hiq
            have e5 : a.eval (.tmp 39) = .bool false := hk 5 (mem_of (by kernel_rfl))
            have f5 := ev e5
            have e14 : a.eval (.tmp 48) = .bool true := hk 14 (mem_of (by kernel_rfl))
            have f14 := ev e14
            clear hk
            refine ⟨_, rfl, rfl, Or.inl ⟨wanted_none rfl, wpIn_value (v := .bool true) (w' := W) ?_ ⟨_, rfl, Below.refl _ _, rfl⟩⟩⟩
            go_simp
          · clear hiq
            have e15 : a.eval (.tmp 49) = .bool true := hk 15 (mem_of (by kernel_rfl))
            have f15 := ev e15
            clear hk
            refine ⟨_, rfl, rfl, Or.inl ⟨wanted_none rfl, wpIn_value (v := .bool true) (w' := W) ?_ ⟨_, rfl, Below.refl _ _, rfl⟩⟩⟩
            go_simp
          · clear hiq
            have e16 : a.eval (.tmp 50) = .bool true := hk 16 (mem_of (by kernel_rfl))
            have f16 := ev e16
            exact ⟨_, rfl, rfl, Or.inr ⟨unwanted_of (k := 16) (b := false) (c := true) rfl rfl e16 rfl, rfl⟩⟩
          · clear hiq
            have e16 : a.eval (.tmp 50) = .bool true := hk 16 (mem_of (by kernel_rfl))
            have f16 := ev e16
            exact ⟨_, rfl, rfl, Or.inr ⟨unwanted_of (k := 16) (b := false) (c := true) rfl rfl e16 rfl, rfl⟩⟩
          · clear hiq
            have e16 : a.eval (.tmp 50) = .bool true := hk 16 (mem_of (by kernel_rfl))
            have f16 := ev e16
            exact ⟨_, rfl, rfl, Or.inr ⟨unwanted_of (k := 16) (b := false) (c := true) rfl rfl e16 rfl, rfl⟩⟩
          · clear hiq
            have e16 : a.eval (.tmp 50) = .bool true := hk 16 (mem_of (by kernel_rfl))
            have f16 := ev e16
            exact ⟨_, rfl, rfl, Or.inr ⟨unwanted_of (k := 16) (b := false) (c := true) rfl rfl e16 rfl, rfl⟩⟩
          · clear hiq
            have e16 : a.eval (.tmp 50) = .bool true := hk 16 (mem_of (by kernel_rfl))
            have f16 := ev e16
            exact ⟨_, rfl, rfl, Or.inr ⟨unwanted_of (k := 16) (b := false) (c := true) rfl rfl e16 rfl, rfl⟩⟩
          · clear hiq
            have e16 : a.eval (.tmp 50) = .bool true := hk 16 (mem_of (by kernel_rfl))
            have f16 := ev e16
            exact ⟨_, rfl, rfl, Or.inr ⟨unwanted_of (k := 16) (b := false) (c := true) rfl rfl e16 rfl, rfl⟩⟩
          · clear hiq
            have e16 : a.eval (.tmp 50) = .bool true := hk 16 (mem_of (by kernel_rfl))
            have f16 := ev e16
            exact ⟨_, rfl, rfl, Or.inr ⟨unwanted_of (k := 16) (b := false) (c := true) rfl rfl e16 rfl, rfl⟩⟩
          · clear hiq
            have e16 : a.eval (.tmp 50) = .bool true := hk 16 (mem_of (by kernel_rfl))
            have f16 := ev e16
            exact ⟨_, rfl, rfl, Or.inr ⟨unwanted_of (k := 16) (b := false) (c := true) rfl rfl e16 rfl, rfl⟩⟩
          · clear hiq
            have e16 : a.eval (.tmp 50) = .bool true := hk 16 (mem_of (by kernel_rfl))
            have f16 := ev e16
            exact ⟨_, rfl, rfl, Or.inr ⟨unwanted_of (k := 16) (b := false) (c := true) rfl rfl e16 rfl, rfl⟩⟩
          · clear hiq
            have e16 : a.eval (.tmp 50) = .bool true := hk 16 (mem_of (by kernel_rfl))
            have f16 := ev e16
            exact ⟨_, rfl, rfl, Or.inr ⟨unwanted_of (k := 16) (b := false) (c := true) rfl rfl e16 rfl, rfl⟩⟩
          · clear hiq
            have e16 : a.eval (.tmp 50) = .bool true := hk 16 (mem_of (by kernel_rfl))
            have f16 := ev e16
            exact ⟨_, rfl, rfl, Or.inr ⟨unwanted_of (k := 16) (b := false) (c := true) rfl rfl e16 rfl, rfl⟩⟩
          · clear hiq
            have e16 : a.eval (.tmp 50) = .bool true := hk 16 (mem_of (by kernel_rfl))
            have f16 := ev e16
            exact ⟨_, rfl, rfl, Or.inr ⟨unwanted_of (k := 16) (b := false) (c := true) rfl rfl e16 rfl, rfl⟩⟩
          · clear hiq
            have e16 : a.eval (.tmp 50) = .bool true := hk 16 (mem_of (by kernel_rfl))
            have f16 := ev e16
            exact ⟨_, rfl, rfl, Or.inr ⟨unwanted_of (k := 16) (b := false) (c := true) rfl rfl e16 rfl, rfl⟩⟩
        case post =>
          intro V W hb hV
          have v16 : V 16 = .bool true := hV 16 (by omega)
          clear hV
          simp only [putAll, Nat.reduceAdd]
          simp only [Act.put, List.setIfInBounds_toArray, List.set_cons_zero, List.set_cons_succ]
          rw [v16]
          change wpListIn _ _ _ _ _ [_, _, _] _ _
          refine wpListIn_skip (unwanted_of (k := 16) (b := false) (c := true) rfl rfl rfl rfl) ?_
          refine wpListIn_skip (unwanted_of (k := 16) (b := false) (c := true) rfl rfl rfl rfl) ?_
          simp only [Act.put, List.setIfInBounds_toArray, List.set_cons_zero, List.set_cons_succ]
          gi_wp2
          refine bodyPost_ret (results_none rfl _ _ _) rfl ?_
          refine ⟨⟨_, rfl⟩, Or.inl ?_, ?_⟩
          · rw [HE.out]; exact HJ.out _ _ _ hJ2 (hb.mono (Nat.le_trans sz hk2.size))
          · exact ((KC.of hbW0).trans hk2).trans (KC.of hb)
      | true =>
        rw [hh] at kh
        have hsp := spanL_yes hlt hh
        obtain ⟨⟨k, v⟩, hkv⟩ : ∃ x, xs[i]! = x := ⟨_, rfl⟩
        rw [hkv] at zk zv kh hsp
        simp only at zk zv kh
        have HE : Hid (SP = pre ++ [(k, v)] ++ spanL xs lo hi (i + 1)) := by unfold Hid; rw [HI.out, hsp, List.append_assoc]; rfl
        clear hsp hkv HI hcs y1 y2 hh
        refine any_tailIn (by kernel_rfl) 30 (by exact Nat.le_of_ble_eq_true rfl) (fun i => i + 34) (mixR [] [.int .i64 (i : Int), .pointer (some ⟨bn, 0, none⟩), .slice (some ⟨b, o, none⟩) xs.length c, .int .i64 (xs.length : Int), .bool false, .bool false, .agg #[.string lo, .string hi], .pointer (some ⟨bn, 0, none⟩), .slice (some ⟨b, o, none⟩) xs.length c, .int .i64 (i : Int), .pointer (some ⟨b, o + i * 2, none⟩), .pointer (some ⟨b, o + i * 2, none⟩), .string k, .bool true, .bool false, .bool false, .bool false, .func (.yield l) #[] #[], .pointer (some ⟨bn, 0, none⟩), .slice (some ⟨b, o, none⟩) xs.length c, .int .i64 (i : Int), .pointer (some ⟨b, o + i * 2, none⟩), .pointer (some ⟨b, o + i * 2, none⟩), .string k, .pointer (some ⟨bn, 0, none⟩), .slice (some ⟨b, o, none⟩) xs.length c, .int .i64 (i : Int), .pointer (some ⟨b, o + i * 2, none⟩), .pointer (some ⟨b, o + i * 2 + 1, none⟩), .string v]) (by kernel_rfl) (by kernel_rfl) (by kernel_rfl) (by kernel_rfl) (mixR_later _ _ (stab_nil)) ?step ?post
        case step =>
          intro iq hiq a W hrest hb hk
          have hp1 : a.eval (.tmp 1) = .pointer (some ⟨bn, 0, none⟩) := (hrest 1 (by intro iq2 hiq2; (try split) <;> omega)).trans rfl
          have fp1 := ev hp1
          have hx1 : W.heap[bn]? = some (.cells #[.slice (some ⟨b, o, none⟩) xs.length c, .slice q 0 d] 108 (0, 0)) := (hb.block _ (lt_of_row rn)).trans rn
          have hp2 : a.eval (.tmp 2) = .pointer (some ⟨bs, 0, none⟩) := (hrest 2 (by intro iq2 hiq2; (try split) <;> omega)).trans rfl
          have fp2 := ev hp2
          have hx2 : W.heap[bs]? = some (.cells #[.string lo, .string hi] 24 (0, 0)) := (hb.block _ (lt_of_row rs)).trans rs
          have hp3 : a.eval (.tmp 3) = .pointer (some ⟨Y, 0, none⟩) := (hrest 3 (by intro iq2 hiq2; (try split) <;> omega)).trans rfl
          have fp3 := ev hp3
          have hx3 : W.heap[Y]? = some (.cells #[.func (.yield l) #[] #[]] 79 (0, 0)) := (hb.block _ (lt_of_row ry)).trans ry
          have hp4 : a.eval (.tmp 4) = .int .i64 (i : Int) := (hrest 4 (by intro iq2 hiq2; (try split) <;> omega)).trans rfl
          have fp4 := ev hp4
          clear hrest
          obtain rfl | rfl | rfl | rfl | rfl | rfl | rfl | rfl | rfl | rfl | rfl | rfl | rfl | rfl | rfl | rfl | rfl | rfl | rfl | rfl | rfl | rfl | rfl | rfl | rfl | rfl | rfl | rfl | rfl | rfl : iq = 0 ∨ iq = 1 ∨ iq = 2 ∨ iq = 3 ∨ iq = 4 ∨ iq = 5 ∨ iq = 6 ∨ iq = 7 ∨ iq = 8 ∨ iq = 9 ∨ iq = 10 ∨ iq = 11 ∨ iq = 12 ∨ iq = 13 ∨ iq = 14 ∨ iq = 15 ∨ iq = 16 ∨ iq = 17 ∨ iq = 18 ∨ iq = 19 ∨ iq = 20 ∨ iq = 21 ∨ iq = 22 ∨ iq = 23 ∨ iq = 24 ∨ iq = 25 ∨ iq = 26 ∨ iq = 27 ∨ iq = 28 ∨ iq = 29 := by omega
          · clear hiq
            clear hk
            refine ⟨_, rfl, rfl, Or.inl ⟨wanted_none rfl, wpIn_value (v := .int .i64 (i : Int)) (w' := W) ?_ ⟨_, rfl, Below.refl _ _, rfl⟩⟩⟩
            go_simp
          · clear hiq
            clear hk
            refine ⟨_, rfl, rfl, Or.inl ⟨wanted_none rfl, wpIn_value (v := .pointer (some ⟨bn, 0, none⟩)) (w' := W) ?_ ⟨_, rfl, Below.refl _ _, rfl⟩⟩⟩
            go_simp
          · clear hiq
            have e1 : a.eval (.tmp 35) = .pointer (some ⟨bn, 0, none⟩) := hk 1 (mem_of (by kernel_rfl))
            have f1 := ev e1
            have hc : W.cell? ⟨bn, 0, none⟩ = some (.slice (some ⟨b, o, none⟩) xs.length c) := cell_of_row W _ 0 _ _ _ hx1
            clear hk
            refine ⟨_, rfl, rfl, Or.inl ⟨wanted_none rfl, wpIn_value (v := .slice (some ⟨b, o, none⟩) xs.length c) (w' := W) ?_ ⟨_, rfl, Below.refl _ _, rfl⟩⟩⟩
            go_simp
          · clear hiq
            have e2 : a.eval (.tmp 36) = .slice (some ⟨b, o, none⟩) xs.length c := hk 2 (mem_of (by kernel_rfl))
            have f2 := ev e2
            clear hk
            refine ⟨_, rfl, rfl, Or.inl ⟨wanted_none rfl, wpIn_value (v := .int .i64 (xs.length : Int)) (w' := W) ?_ ⟨_, rfl, Below.refl _ _, rfl⟩⟩⟩
            go_simp
          · clear hiq
            have e0 : a.eval (.tmp 34) = .int .i64 (i : Int) := hk 0 (mem_of (by kernel_rfl))
            have f0 := ev e0
            have e3 : a.eval (.tmp 37) = .int .i64 (xs.length : Int) := hk 3 (mem_of (by kernel_rfl))
            have f3 := ev e3
            clear hk
            refine ⟨_, rfl, rfl, Or.inl ⟨wanted_none rfl, wpIn_value (v := .bool false) (w' := W) ?_ ⟨_, rfl, Below.refl _ _, rfl⟩⟩⟩
            go_simp
            omega
          · clear hiq
            have e4 : a.eval (.tmp 38) = .bool false := hk 4 (mem_of (by kernel_rfl))
            have f4 := ev e4
            clear hk
            refine ⟨_, rfl, rfl, Or.inl ⟨wanted_none rfl, wpIn_value (v := .bool false) (w' := W) ?_ ⟨_, rfl, Below.refl _ _, rfl⟩⟩⟩
            go_simp
          · clear hiq
            have e5 : a.eval (.tmp 39) = .bool false := hk 5 (mem_of (by kernel_rfl))
            have f5 := ev e5
            have hc0 := cell_of_row W _ 0 _ _ _ hx2
            have hc1 := cell_of_row W _ 1 _ _ _ hx2
            clear hk
            refine ⟨_, rfl, rfl, Or.inl ⟨wanted_of (k := 5) (b := false) rfl rfl e5, wpIn_value (v := .agg #[.string lo, .string hi]) (w' := W) ?_ ⟨_, rfl, Below.refl _ _, rfl⟩⟩⟩
            go_simp
          · clear hiq
            have e5 : a.eval (.tmp 39) = .bool false := hk 5 (mem_of (by kernel_rfl))
            have f5 := ev e5
            clear hk
            refine ⟨_, rfl, rfl, Or.inl ⟨wanted_of (k := 5) (b := false) rfl rfl e5, wpIn_value (v := .pointer (some ⟨bn, 0, none⟩)) (w' := W) ?_ ⟨_, rfl, Below.refl _ _, rfl⟩⟩⟩
            go_simp
          · clear hiq
            have e5 : a.eval (.tmp 39) = .bool false := hk 5 (mem_of (by kernel_rfl))
            have f5 := ev e5
            have e7 : a.eval (.tmp 41) = .pointer (some ⟨bn, 0, none⟩) := hk 7 (mem_of (by kernel_rfl))
            have f7 := ev e7
            have hc : W.cell? ⟨bn, 0, none⟩ = some (.slice (some ⟨b, o, none⟩) xs.length c) := cell_of_row W _ 0 _ _ _ hx1
            clear hk
            refine ⟨_, rfl, rfl, Or.inl ⟨wanted_of (k := 5) (b := false) rfl rfl e5, wpIn_value (v := .slice (some ⟨b, o, none⟩) xs.length c) (w' := W) ?_ ⟨_, rfl, Below.refl _ _, rfl⟩⟩⟩
            go_simp
          · clear hiq
            have e5 : a.eval (.tmp 39) = .bool false := hk 5 (mem_of (by kernel_rfl))
            have f5 := ev e5
            clear hk
            refine ⟨_, rfl, rfl, Or.inl ⟨wanted_of (k := 5) (b := false) rfl rfl e5, wpIn_value (v := .int .i64 (i : Int)) (w' := W) ?_ ⟨_, rfl, Below.refl _ _, rfl⟩⟩⟩
            go_simp
          · clear hiq
            have e5 : a.eval (.tmp 39) = .bool false := hk 5 (mem_of (by kernel_rfl))
            have f5 := ev e5
            have e8 : a.eval (.tmp 42) = .slice (some ⟨b, o, none⟩) xs.length c := hk 8 (mem_of (by kernel_rfl))
            have f8 := ev e8
            have e9 : a.eval (.tmp 43) = .int .i64 (i : Int) := hk 9 (mem_of (by kernel_rfl))
            have f9 := ev e9
            clear hk
            refine ⟨_, rfl, rfl, Or.inl ⟨wanted_of (k := 5) (b := false) rfl rfl e5, wpIn_value (v := .pointer (some ⟨b, o + i * 2, none⟩)) (w' := W) ?_ ⟨_, rfl, Below.refl _ _, rfl⟩⟩⟩
            go_simp
          · clear hiq
            have e5 : a.eval (.tmp 39) = .bool false := hk 5 (mem_of (by kernel_rfl))
            have f5 := ev e5
            have e10 : a.eval (.tmp 44) = .pointer (some ⟨b, o + i * 2, none⟩) := hk 10 (mem_of (by kernel_rfl))
            have f10 := ev e10
            clear hk
            refine ⟨_, rfl, rfl, Or.inl ⟨wanted_of (k := 5) (b := false) rfl rfl e5, wpIn_value (v := .pointer (some ⟨b, o + i * 2, none⟩)) (w' := W) ?_ ⟨_, rfl, Below.refl _ _, rfl⟩⟩⟩
            go_simp
          · clear hiq
            have e5 : a.eval (.tmp 39) = .bool false := hk 5 (mem_of (by kernel_rfl))
            have f5 := ev e5
            have e11 : a.eval (.tmp 45) = .pointer (some ⟨b, o + i * 2, none⟩) := hk 11 (mem_of (by kernel_rfl))
            have f11 := ev e11
            have hc := zk W hb
            clear hk
            refine ⟨_, rfl, rfl, Or.inl ⟨wanted_of (k := 5) (b := false) rfl rfl e5, wpIn_value (v := .string k) (w' := W) ?_ ⟨_, rfl, Below.refl _ _, rfl⟩⟩⟩
            go_simp
          · clear hiq
            have e5 : a.eval (.tmp 39) = .bool false := hk 5 (mem_of (by kernel_rfl))
            have f5 := ev e5
            have e6 : a.eval (.tmp 40) = .agg #[.string lo, .string hi] := hk 6 (mem_of (by kernel_rfl))
            have f6 := ev e6
            have e12 : a.eval (.tmp 46) = .string k := hk 12 (mem_of (by kernel_rfl))
            have f12 := ev e12
            clear hk
            refine ⟨_, rfl, rfl, Or.inl ⟨wanted_of (k := 5) (b := false) rfl rfl e5, wpIn_enter (f := 104) (args := #[.agg #[.string lo, .string hi], .string k]) ?_ ((kh W).mono ?_)⟩⟩
            · go_simp
            · rintro e w2 ⟨rfl, hb2⟩
              exact ⟨_, rfl, _, rfl, hb2, rfl⟩
          · clear hiq
            have e5 : a.eval (.tmp 39) = .bool false := hk 5 (mem_of (by kernel_rfl))
            have f5 := ev e5
            have e13 : a.eval (.tmp 47) = .bool true := hk 13 (mem_of (by kernel_rfl))
            have f13 := ev e13
            clear hk
            refine ⟨_, rfl, rfl, Or.inl ⟨wanted_of (k := 5) (b := false) rfl rfl e5, wpIn_value (v := .bool false) (w' := W) ?_ ⟨_, rfl, Below.refl _ _, rfl⟩⟩⟩
            go_simp
          · clear hiq
            have e5 : a.eval (.tmp 39) = .bool false := hk 5 (mem_of (by kernel_rfl))
            have f5 := ev e5
            have e14 : a.eval (.tmp 48) = .bool false := hk 14 (mem_of (by kernel_rfl))
            have f14 := ev e14
            clear hk
            refine ⟨_, rfl, rfl, Or.inl ⟨wanted_none rfl, wpIn_value (v := .bool false) (w' := W) ?_ ⟨_, rfl, Below.refl _ _, rfl⟩⟩⟩
            go_simp
          · clear hiq
            have e15 : a.eval (.tmp 49) = .bool false := hk 15 (mem_of (by kernel_rfl))
            have f15 := ev e15
            clear hk
            refine ⟨_, rfl, rfl, Or.inl ⟨wanted_none rfl, wpIn_value (v := .bool false) (w' := W) ?_ ⟨_, rfl, Below.refl _ _, rfl⟩⟩⟩
            go_simp
          · clear hiq
            have e16 : a.eval (.tmp 50) = .bool false := hk 16 (mem_of (by kernel_rfl))
            have f16 := ev e16
            have hc : W.cell? ⟨Y, 0, none⟩ = some (.func (.yield l) #[] #[]) := cell_of_row W _ 0 _ _ _ hx3
            clear hk
            refine ⟨_, rfl, rfl, Or.inl ⟨wanted_of (k := 16) (b := false) rfl rfl e16, wpIn_value (v := .func (.yield l) #[] #[]) (w' := W) ?_ ⟨_, rfl, Below.refl _ _, rfl⟩⟩⟩
            go_simp
          · clear hiq
            have e16 : a.eval (.tmp 50) = .bool false := hk 16 (mem_of (by kernel_rfl))
            have f16 := ev e16
            clear hk
            refine ⟨_, rfl, rfl, Or.inl ⟨wanted_of (k := 16) (b := false) rfl rfl e16, wpIn_value (v := .pointer (some ⟨bn, 0, none⟩)) (w' := W) ?_ ⟨_, rfl, Below.refl _ _, rfl⟩⟩⟩
            go_simp
          · clear hiq
            have e16 : a.eval (.tmp 50) = .bool false := hk 16 (mem_of (by kernel_rfl))
            have f16 := ev e16
            have e18 : a.eval (.tmp 52) = .pointer (some ⟨bn, 0, none⟩) := hk 18 (mem_of (by kernel_rfl))
            have f18 := ev e18
            have hc : W.cell? ⟨bn, 0, none⟩ = some (.slice (some ⟨b, o, none⟩) xs.length c) := cell_of_row W _ 0 _ _ _ hx1
            clear hk
            refine ⟨_, rfl, rfl, Or.inl ⟨wanted_of (k := 16) (b := false) rfl rfl e16, wpIn_value (v := .slice (some ⟨b, o, none⟩) xs.length c) (w' := W) ?_ ⟨_, rfl, Below.refl _ _, rfl⟩⟩⟩
            go_simp
          · clear hiq
            have e16 : a.eval (.tmp 50) = .bool false := hk 16 (mem_of (by kernel_rfl))
            have f16 := ev e16
            clear hk
            refine ⟨_, rfl, rfl, Or.inl ⟨wanted_of (k := 16) (b := false) rfl rfl e16, wpIn_value (v := .int .i64 (i : Int)) (w' := W) ?_ ⟨_, rfl, Below.refl _ _, rfl⟩⟩⟩
            go_simp
          · clear hiq
            have e16 : a.eval (.tmp 50) = .bool false := hk 16 (mem_of (by kernel_rfl))
            have f16 := ev e16
            have e19 : a.eval (.tmp 53) = .slice (some ⟨b, o, none⟩) xs.length c := hk 19 (mem_of (by kernel_rfl))
            have f19 := ev e19
            have e20 : a.eval (.tmp 54) = .int .i64 (i : Int) := hk 20 (mem_of (by kernel_rfl))
            have f20 := ev e20
            clear hk
            refine ⟨_, rfl, rfl, Or.inl ⟨wanted_of (k := 16) (b := false) rfl rfl e16, wpIn_value (v := .pointer (some ⟨b, o + i * 2, none⟩)) (w' := W) ?_ ⟨_, rfl, Below.refl _ _, rfl⟩⟩⟩
            go_simp
          · clear hiq
            have e16 : a.eval (.tmp 50) = .bool false := hk 16 (mem_of (by kernel_rfl))
            have f16 := ev e16
            have e21 : a.eval (.tmp 55) = .pointer (some ⟨b, o + i * 2, none⟩) := hk 21 (mem_of (by kernel_rfl))
            have f21 := ev e21
            clear hk
            refine ⟨_, rfl, rfl, Or.inl ⟨wanted_of (k := 16) (b := false) rfl rfl e16, wpIn_value (v := .pointer (some ⟨b, o + i * 2, none⟩)) (w' := W) ?_ ⟨_, rfl, Below.refl _ _, rfl⟩⟩⟩
            go_simp
          · clear hiq
            have e16 : a.eval (.tmp 50) = .bool false := hk 16 (mem_of (by kernel_rfl))
            have f16 := ev e16
            have e22 : a.eval (.tmp 56) = .pointer (some ⟨b, o + i * 2, none⟩) := hk 22 (mem_of (by kernel_rfl))
            have f22 := ev e22
            have hc := zk W hb
            clear hk
            refine ⟨_, rfl, rfl, Or.inl ⟨wanted_of (k := 16) (b := false) rfl rfl e16, wpIn_value (v := .string k) (w' := W) ?_ ⟨_, rfl, Below.refl _ _, rfl⟩⟩⟩
            go_simp
          · clear hiq
            have e16 : a.eval (.tmp 50) = .bool false := hk 16 (mem_of (by kernel_rfl))
            have f16 := ev e16
            clear hk
            refine ⟨_, rfl, rfl, Or.inl ⟨wanted_of (k := 16) (b := false) rfl rfl e16, wpIn_value (v := .pointer (some ⟨bn, 0, none⟩)) (w' := W) ?_ ⟨_, rfl, Below.refl _ _, rfl⟩⟩⟩
            go_simp
          · clear hiq
            have e16 : a.eval (.tmp 50) = .bool false := hk 16 (mem_of (by kernel_rfl))
            have f16 := ev e16
            have e24 : a.eval (.tmp 58) = .pointer (some ⟨bn, 0, none⟩) := hk 24 (mem_of (by kernel_rfl))
            have f24 := ev e24
            have hc : W.cell? ⟨bn, 0, none⟩ = some (.slice (some ⟨b, o, none⟩) xs.length c) := cell_of_row W _ 0 _ _ _ hx1
            clear hk
            refine ⟨_, rfl, rfl, Or.inl ⟨wanted_of (k := 16) (b := false) rfl rfl e16, wpIn_value (v := .slice (some ⟨b, o, none⟩) xs.length c) (w' := W) ?_ ⟨_, rfl, Below.refl _ _, rfl⟩⟩⟩
            go_simp
          · clear hiq
            have e16 : a.eval (.tmp 50) = .bool false := hk 16 (mem_of (by kernel_rfl))
            have f16 := ev e16
            clear hk
            refine ⟨_, rfl, rfl, Or.inl ⟨wanted_of (k := 16) (b := false) rfl rfl e16, wpIn_value (v := .int .i64 (i : Int)) (w' := W) ?_ ⟨_, rfl, Below.refl _ _, rfl⟩⟩⟩
            go_simp
          · clear hiq
            have e16 : a.eval (.tmp 50) = .bool false := hk 16 (mem_of (by kernel_rfl))
            have f16 := ev e16
            have e25 : a.eval (.tmp 59) = .slice (some ⟨b, o, none⟩) xs.length c := hk 25 (mem_of (by kernel_rfl))
            have f25 := ev e25
            have e26 : a.eval (.tmp 60) = .int .i64 (i : Int) := hk 26 (mem_of (by kernel_rfl))
            have f26 := ev e26
            clear hk
            refine ⟨_, rfl, rfl, Or.inl ⟨wanted_of (k := 16) (b := false) rfl rfl e16, wpIn_value (v := .pointer (some ⟨b, o + i * 2, none⟩)) (w' := W) ?_ ⟨_, rfl, Below.refl _ _, rfl⟩⟩⟩
            go_simp
          · clear hiq
            have e16 : a.eval (.tmp 50) = .bool false := hk 16 (mem_of (by kernel_rfl))
            have f16 := ev e16
            have e27 : a.eval (.tmp 61) = .pointer (some ⟨b, o + i * 2, none⟩) := hk 27 (mem_of (by kernel_rfl))
            have f27 := ev e27
            clear hk
            refine ⟨_, rfl, rfl, Or.inl ⟨wanted_of (k := 16) (b := false) rfl rfl e16, wpIn_value (v := .pointer (some ⟨b, o + i * 2 + 1, none⟩)) (w' := W) ?_ ⟨_, rfl, Below.refl _ _, rfl⟩⟩⟩
            go_simp
          · clear hiq
            have e16 : a.eval (.tmp 50) = .bool false := hk 16 (mem_of (by kernel_rfl))
            have f16 := ev e16
            have e28 : a.eval (.tmp 62) = .pointer (some ⟨b, o + i * 2 + 1, none⟩) := hk 28 (mem_of (by kernel_rfl))
            have f28 := ev e28
            have hc := zv W hb
            clear hk
            refine ⟨_, rfl, rfl, Or.inl ⟨wanted_of (k := 16) (b := false) rfl rfl e16, wpIn_value (v := .string v) (w' := W) ?_ ⟨_, rfl, Below.refl _ _, rfl⟩⟩⟩
            go_simp
        case post =>
          intro V W hb hV
          have v16 : V 16 = .bool false := hV 16 (by omega)
          have v17 : V 17 = .func (.yield l) #[] #[] := hV 17 (by omega)
          have v23 : V 23 = .string k := hV 23 (by omega)
          have v29 : V 29 = .string v := hV 29 (by omega)
          clear hV
          simp only [putAll, Nat.reduceAdd]
          simp only [Act.put, List.setIfInBounds_toArray, List.set_cons_zero, List.set_cons_succ]
          rw [v16, v17, v23, v29]
          change wpListIn _ _ _ _ _ [_, _, _] _ _
          have hJ3 : J pre W := HJ.out _ _ _ hJ2 (hb.mono (Nat.le_trans sz hk2.size))
          have hk3 : KC C W0 W := hk2.trans (KC.of hb)
          obtain ⟨fn, tm, as_, bo, hy, hR⟩ := YieldAt.inAny (m' := 0) (HY.out pre (k, v) W hJ3 ⟨_, HE.out.symm⟩)
          dsimp only at hy
          gi_wp2
          refine ⟨rfl, ?_⟩
          refine hR.mono ?_
          rintro e B (⟨rfl, hJB, hkB⟩ | ⟨rfl, hJB, hkB⟩)
          · gi_wp2
            go_roundw
            case rel => subst hY; exact ⟨_, _, _, _, _, _, _, _, _, _, _, _, _, _, _, _, _, _, _, _, _, _, _, _, _, _, _, _, _, _, _, _, _, _, _, _, _, _, _, _, _, _, _, _, _, _, _, _, _, _, _, _, _, ⟨i + 1, pre ++ [(k, v)], congrArg (Value.int .i64) (Int.natCast_succ i).symm, hlt, HE, hJB, hk3.trans hkB⟩, rfl⟩
            case measure => simp [intOf]; omega
          · gi_wp2
            refine bodyPost_ret (results_none rfl _ _ _) rfl ?_
            exact ⟨⟨_, rfl⟩, Or.inr ⟨_, ⟨_, HE.out.symm⟩, hJB⟩, ((KC.of hbW0).trans hk3).trans hkB⟩
    · obtain rfl : i = xs.length := by omega
      have hsp : spanL xs lo hi xs.length = [] := spanL_end (Nat.le_refl _)
      have HE : Hid (SP = pre) := by unfold Hid; rw [HI.out, hsp, List.append_nil]
      clear hsp HI
      refine any_tailIn (by kernel_rfl) 30 (by exact Nat.le_of_ble_eq_true rfl) (fun i => i + 34) (mixR [] [.int .i64 (xs.length : Int), .pointer (some ⟨bn, 0, none⟩), .slice p xs.length c, .int .i64 (xs.length : Int), .bool true, .bool true, undef, undef, undef, undef, undef, undef, undef, undef, undef, .bool true, .bool true, undef, undef, undef, undef, undef, undef, undef, undef, undef, undef, undef, undef, undef]) (by kernel_rfl) (by kernel_rfl) (by kernel_rfl) (by kernel_rfl) (mixR_later _ _ (stab_nil)) ?step ?post
      case step =>
        intro iq hiq a W hrest hb hk
        have hp1 : a.eval (.tmp 1) = .pointer (some ⟨bn, 0, none⟩) := (hrest 1 (by intro iq2 hiq2; (try split) <;> omega)).trans rfl
        have fp1 := ev hp1
        have hx1 : W.heap[bn]? = some (.cells #[.slice p xs.length c, .slice q 0 d] 108 (0, 0)) := (hb.block _ (lt_of_row rn)).trans rn
        have hp2 : a.eval (.tmp 2) = .pointer (some ⟨bs, 0, none⟩) := (hrest 2 (by intro iq2 hiq2; (try split) <;> omega)).trans rfl
        have fp2 := ev hp2
        have hx2 : W.heap[bs]? = some (.cells #[.string lo, .string hi] 24 (0, 0)) := (hb.block _ (lt_of_row rs)).trans rs
        have hp4 : a.eval (.tmp 4) = .int .i64 (xs.length : Int) := (hrest 4 (by intro iq2 hiq2; (try split) <;> omega)).trans rfl
        have fp4 := ev hp4
        clear hrest
        obtain rfl | rfl | rfl | rfl | rfl | rfl | rfl | rfl | rfl | rfl | rfl | rfl | rfl | rfl | rfl | rfl | rfl | rfl | rfl | rfl | rfl | rfl | rfl | rfl | rfl | rfl | rfl | rfl | rfl | rfl : iq = 0 ∨ iq = 1 ∨ iq = 2 ∨ iq = 3 ∨ iq = 4 ∨ iq = 5 ∨ iq = 6 ∨ iq = 7 ∨ iq = 8 ∨ iq = 9 ∨ iq = 10 ∨ iq = 11 ∨ iq = 12 ∨ iq = 13 ∨ iq = 14 ∨ iq = 15 ∨ iq = 16 ∨ iq = 17 ∨ iq = 18 ∨ iq = 19 ∨ iq = 20 ∨ iq = 21 ∨ iq = 22 ∨ iq = 23 ∨ iq = 24 ∨ iq = 25 ∨ iq = 26 ∨ iq = 27 ∨ iq = 28 ∨ iq = 29 := by omega
        · clear hiq
          clear hk
          refine ⟨_, rfl, rfl, Or.inl ⟨wanted_none rfl, wpIn_value (v := .int .i64 (xs.length : Int)) (w' := W) ?_ ⟨_, rfl, Below.refl _ _, rfl⟩⟩⟩
          go_simp
        · clear hiq
          clear hk
          refine ⟨_, rfl, rfl, Or.inl ⟨wanted_none rfl, wpIn_value (v := .pointer (some ⟨bn, 0, none⟩)) (w' := W) ?_ ⟨_, rfl, Below.refl _ _, rfl⟩⟩⟩
          go_simp
        · clear hiq
          have e1 : a.eval (.tmp 35) = .pointer (some ⟨bn, 0, none⟩) := hk 1 (mem_of (by kernel_rfl))
          have f1 := ev e1
          have hc : W.cell? ⟨bn, 0, none⟩ = some (.slice p xs.length c) := cell_of_row W _ 0 _ _ _ hx1
          clear hk
          refine ⟨_, rfl, rfl, Or.inl ⟨wanted_none rfl, wpIn_value (v := .slice p xs.length c) (w' := W) ?_ ⟨_, rfl, Below.refl _ _, rfl⟩⟩⟩
          go_simp
        · clear hiq
          have e2 : a.eval (.tmp 36) = .slice p xs.length c := hk 2 (mem_of (by kernel_rfl))
          have f2 := ev e2
          clear hk
          refine ⟨_, rfl, rfl, Or.inl ⟨wanted_none rfl, wpIn_value (v := .int .i64 (xs.length : Int)) (w' := W) ?_ ⟨_, rfl, Below.refl _ _, rfl⟩⟩⟩
          go_simp
        · clear hiq
          have e0 : a.eval (.tmp 34) = .int .i64 (xs.length : Int) := hk 0 (mem_of (by kernel_rfl))
          have f0 := ev e0
          have e3 : a.eval (.tmp 37) = .int .i64 (xs.length : Int) := hk 3 (mem_of (by kernel_rfl))
          have f3 := ev e3
          clear hk
          refine ⟨_, rfl, rfl, Or.inl ⟨wanted_none rfl, wpIn_value (v := .bool true) (w' := W) ?_ ⟨_, rfl, Below.refl _ _, rfl⟩⟩⟩
          go_simp
        · clear hiq
          have e4 : a.eval (.tmp 38) = .bool true := hk 4 (mem_of (by kernel_rfl))
          have f4 := ev e4
          clear hk
          refine ⟨_, rfl, rfl, Or.inl ⟨wanted_none rfl, wpIn_value (v := .bool true) (w' := W) ?_ ⟨_, rfl, Below.refl _ _, rfl⟩⟩⟩
          go_simp
        · clear hiq
          have e5 : a.eval (.tmp 39) = .bool true := hk 5 (mem_of (by kernel_rfl))
          have f5 := ev e5
          exact ⟨_, rfl, rfl, Or.inr ⟨unwanted_of (k := 5) (b := false) (c := true) rfl rfl e5 rfl, rfl⟩⟩
        · clear hiq
          have e5 : a.eval (.tmp 39) = .bool true := hk 5 (mem_of (by kernel_rfl))
          have f5 := ev e5
          exact ⟨_, rfl, rfl, Or.inr ⟨unwanted_of (k := 5) (b := false) (c := true) rfl rfl e5 rfl, rfl⟩⟩
        · clear hiq
          have e5 : a.eval (.tmp 39) = .bool true := hk 5 (mem_of (by kernel_rfl))
          have f5 := ev e5
          exact ⟨_, rfl, rfl, Or.inr ⟨unwanted_of (k := 5) (b := false) (c := true) rfl rfl e5 rfl, rfl⟩⟩
        · clear hiq
          have e5 : a.eval (.tmp 39) = .bool true := hk 5 (mem_of (by kernel_rfl))
          have f5 := ev e5
          exact ⟨_, rfl, rfl, Or.inr ⟨unwanted_of (k := 5) (b := false) (c := true) rfl rfl e5 rfl, rfl⟩⟩
        · clear hiq
          have e5 : a.eval (.tmp 39) = .bool true := hk 5 (mem_of (by kernel_rfl))
          have f5 := ev e5
          exact ⟨_, rfl, rfl, Or.inr ⟨unwanted_of (k := 5) (b := false) (c := true) rfl rfl e5 rfl, rfl⟩⟩
        · clear hiq
          have e5 : a.eval (.tmp 39) = .bool true := hk 5 (mem_of (by kernel_rfl))
          have f5 := ev e5
          exact ⟨_, rfl, rfl, Or.inr ⟨unwanted_of (k := 5) (b := false) (c := true) rfl rfl e5 rfl, rfl⟩⟩
        · clear hiq
          have e5 : a.eval (.tmp 39) = .bool true := hk 5 (mem_of (by kernel_rfl))
          have f5 := ev e5
          exact ⟨_, rfl, rfl, Or.inr ⟨unwanted_of (k := 5) (b := false) (c := true) rfl rfl e5 rfl, rfl⟩⟩
        · clear hiq
          have e5 : a.eval (.tmp 39) = .bool true := hk 5 (mem_of (by kernel_rfl))
          have f5 := ev e5
          exact ⟨_, rfl, rfl, Or.inr ⟨unwanted_of (k := 5) (b := false) (c := true) rfl rfl e5 rfl, rfl⟩⟩
        · clear hiq
          have e5 : a.eval (.tmp 39) = .bool true := hk 5 (mem_of (by kernel_rfl))
          have f5 := ev e5
          exact ⟨_, rfl, rfl, Or.inr ⟨unwanted_of (k := 5) (b := false) (c := true) rfl rfl e5 rfl, rfl⟩⟩
        · clear hiq
          have e5 : a.eval (.tmp 39) = .bool true := hk 5 (mem_of (by kernel_rfl))
          have f5 := ev e5
          have e14 : a.eval (.tmp 48) = undef := hk 14 (mem_of (by kernel_rfl))
          have f14 := ev e14
          clear hk
          refine ⟨_, rfl, rfl, Or.inl ⟨wanted_none rfl, wpIn_value (v := .bool true) (w' := W) ?_ ⟨_, rfl, Below.refl _ _, rfl⟩⟩⟩
          go_simp
        · clear hiq
          have e15 : a.eval (.tmp 49) = .bool true := hk 15 (mem_of (by kernel_rfl))
          have f15 := ev e15
          clear hk
          refine ⟨_, rfl, rfl, Or.inl ⟨wanted_none rfl, wpIn_value (v := .bool true) (w' := W) ?_ ⟨_, rfl, Below.refl _ _, rfl⟩⟩⟩
          go_simp
        · clear hiq
          have e16 : a.eval (.tmp 50) = .bool true := hk 16 (mem_of (by kernel_rfl))
          have f16 := ev e16
          exact ⟨_, rfl, rfl, Or.inr ⟨unwanted_of (k := 16) (b := false) (c := true) rfl rfl e16 rfl, rfl⟩⟩
        · clear hiq
          have e16 : a.eval (.tmp 50) = .bool true := hk 16 (mem_of (by kernel_rfl))
          have f16 := ev e16
          exact ⟨_, rfl, rfl, Or.inr ⟨unwanted_of (k := 16) (b := false) (c := true) rfl rfl e16 rfl, rfl⟩⟩
        · clear hiq
          have e16 : a.eval (.tmp 50) = .bool true := hk 16 (mem_of (by kernel_rfl))
          have f16 := ev e16
          exact ⟨_, rfl, rfl, Or.inr ⟨unwanted_of (k := 16) (b := false) (c := true) rfl rfl e16 rfl, rfl⟩⟩
        · clear hiq
          have e16 : a.eval (.tmp 50) = .bool true := hk 16 (mem_of (by kernel_rfl))
          have f16 := ev e16
          exact ⟨_, rfl, rfl, Or.inr ⟨unwanted_of (k := 16) (b := false) (c := true) rfl rfl e16 rfl, rfl⟩⟩
        · clear hiq
          have e16 : a.eval (.tmp 50) = .bool true := hk 16 (mem_of (by kernel_rfl))
          have f16 := ev e16
          exact ⟨_, rfl, rfl, Or.inr ⟨unwanted_of (k := 16) (b := false) (c := true) rfl rfl e16 rfl, rfl⟩⟩
        · clear hiq
          have e16 : a.eval (.tmp 50) = .bool true := hk 16 (mem_of (by kernel_rfl))
          have f16 := ev e16
          exact ⟨_, rfl, rfl, Or.inr ⟨unwanted_of (k := 16) (b := false) (c := true) rfl rfl e16 rfl, rfl⟩⟩
        · clear hiq
          have e16 : a.eval (.tmp 50) = .bool true := hk 16 (mem_of (by kernel_rfl))
          have f16 := ev e16
          exact ⟨_, rfl, rfl, Or.inr ⟨unwanted_of (k := 16) (b := false) (c := true) rfl rfl e16 rfl, rfl⟩⟩
        · clear hiq
          have e16 : a.eval (.tmp 50) = .bool true := hk 16 (mem_of (by kernel_rfl))
          have f16 := ev e16
          exact ⟨_, rfl, rfl, Or.inr ⟨unwanted_of (k := 16) (b := false) (c := true) rfl rfl e16 rfl, rfl⟩⟩
        · clear hiq
          have e16 : a.eval (.tmp 50) = .bool true := hk 16 (mem_of (by kernel_rfl))
          have f16 := ev e16
          exact ⟨_, rfl, rfl, Or.inr ⟨unwanted_of (k := 16) (b := false) (c := true) rfl rfl e16 rfl, rfl⟩⟩
        · clear hiq
          have e16 : a.eval (.tmp 50) = .bool true := hk 16 (mem_of (by kernel_rfl))
          have f16 := ev e16
          exact ⟨_, rfl, rfl, Or.inr ⟨unwanted_of (k := 16) (b := false) (c := true) rfl rfl e16 rfl, rfl⟩⟩
        · clear hiq
          have e16 : a.eval (.tmp 50) = .bool true := hk 16 (mem_of (by kernel_rfl))
          have f16 := ev e16
          exact ⟨_, rfl, rfl, Or.inr ⟨unwanted_of (k := 16) (b := false) (c := true) rfl rfl e16 rfl, rfl⟩⟩
        · clear hiq
          have e16 : a.eval (.tmp 50) = .bool true := hk 16 (mem_of (by kernel_rfl))
          have f16 := ev e16
          exact ⟨_, rfl, rfl, Or.inr ⟨unwanted_of (k := 16) (b := false) (c := true) rfl rfl e16 rfl, rfl⟩⟩
        · clear hiq
          have e16 : a.eval (.tmp 50) = .bool true := hk 16 (mem_of (by kernel_rfl))
          have f16 := ev e16
          exact ⟨_, rfl, rfl, Or.inr ⟨unwanted_of (k := 16) (b := false) (c := true) rfl rfl e16 rfl, rfl⟩⟩
      case post =>
        intro V W hb hV
        have v16 : V 16 = .bool true := hV 16 (by omega)
        clear hV
        simp only [putAll, Nat.reduceAdd]
        simp only [Act.put, List.setIfInBounds_toArray, List.set_cons_zero, List.set_cons_succ]
        rw [v16]
        change wpListIn _ _ _ _ _ [_, _, _] _ _
        refine wpListIn_skip (unwanted_of (k := 16) (b := false) (c := true) rfl rfl rfl rfl) ?_
        refine wpListIn_skip (unwanted_of (k := 16) (b := false) (c := true) rfl rfl rfl rfl) ?_
        simp only [Act.put, List.setIfInBounds_toArray, List.set_cons_zero, List.set_cons_succ]
        gi_wp2
        refine bodyPost_ret (results_none rfl _ _ _) rfl ?_
        refine ⟨⟨_, rfl⟩, Or.inl ?_, ?_⟩
        · rw [HE.out]; exact HJ.out _ _ _ hJ2 (hb.mono (Nat.le_trans sz hk2.size))
        · exact ((KC.of hbW0).trans hk2).trans (KC.of hb)
end Go.Proofs.YtniljoojoafiaaaGreatDoor.B
