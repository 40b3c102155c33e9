/- Expr: its walk. -/
import Derived.Test.YtcniebkehekliaaGreatDoorExl
namespace Go.Proofs.YtcniebkehekliaaGreatDoor
open Go.RowKit Go.Shelf
attribute [local go_sem] Oper.semAt_some
set_option maxRecDepth 100000 in
set_option maxHeartbeats 8000000 in
theorem conv_one {w : World} {S : Nat → Prop} {d : Nat} {t : Et} {R : XR} (hx : LiesE w S (d + 1) t (rowX R)) (hn : R.n ≤ 1000)
    (kb : ∀ (W : World) (T : Nat → Prop) (i : Nat) (A : Array Value), i < R.n → LiesE W T d (t.sub i) (.agg A) → Calls Tryz.prog 10 #[.agg A] W (GivesX T W d (t.sub i))) :
    Calls Tryz.prog 10 #[rowX R] w (GivesX S w (d + 1) t) := by
  obtain ⟨w1, hw1⟩ : ∃ w1, (w.alloc (.cells #[.int .i64 R.k, .string R.s, .int .i64 R.vk, .bool R.vb, .int .i64 R.vn, .string R.vs, .slice none 0 0, .slice none 0 0, .slice R.kp R.n R.kc, .slice R.np R.m R.nc] 28)).alloc (.cells #[.int .i64 0, .string ⟨#[]⟩, .int .i64 0, .bool false, .int .i64 0, .string ⟨#[]⟩, .slice none 0 0, .slice none 0 0, .slice none 0 0, .slice none 0 0] 44) = w1 := ⟨_, rfl⟩
  have hb1 : Below w.heap.size w w1 := by rw [← hw1]; exact ((Below.refl _ w).alloc (Nat.le_refl _) _).alloc (by simp) _
  have s1 : w1.heap.size = w.heap.size + 2 := by rw [← hw1]; simp
  have r0 : w1.heap[w.heap.size]? = some (.cells #[.int .i64 R.k, .string R.s, .int .i64 R.vk, .bool R.vb, .int .i64 R.vn, .string R.vs, .slice none 0 0, .slice none 0 0, .slice R.kp R.n R.kc, .slice R.np R.m R.nc] 28 (0, 0)) := by
    rw [← hw1, Below.heap_alloc _ _ _ (by simp)]; exact heap_alloc_new _ _
  have r1 : w1.heap[w.heap.size + 1]? = some (.cells zero10 44 (0, 0)) := by
    rw [← hw1]
    have e := heap_alloc_new (w.alloc (.cells #[.int .i64 R.k, .string R.s, .int .i64 R.vk, .bool R.vb, .int .i64 R.vn, .string R.vs, .slice none 0 0, .slice none 0 0, .slice R.kp R.n R.kc, .slice R.np R.m R.nc] 28)) (.cells #[.int .i64 0, .string ⟨#[]⟩, .int .i64 0, .bool false, .int .i64 0, .string ⟨#[]⟩, .slice none 0 0, .slice none 0 0, .slice none 0 0, .slice none 0 0] 44)
    have e2 : (w.alloc (.cells #[.int .i64 R.k, .string R.s, .int .i64 R.vk, .bool R.vb, .int .i64 R.vn, .string R.vs, .slice none 0 0, .slice none 0 0, .slice R.kp R.n R.kc, .slice R.np R.m R.nc] 28)).heap.size = w.heap.size + 1 := by simp
    rw [e2] at e
    exact e
  have HX : Hid (LiesE w S (d + 1) t (rowX R)) := hx
  have HH : Hid (Below w.heap.size w w1 ∧ w1.heap.size = w.heap.size + 2 ∧ w1.heap[w.heap.size]? = some (.cells #[.int .i64 R.k, .string R.s, .int .i64 R.vk, .bool R.vb, .int .i64 R.vn, .string R.vs, .slice none 0 0, .slice none 0 0, .slice R.kp R.n R.kc, .slice R.np R.m R.nc] 28 (0, 0)) ∧ w1.heap[w.heap.size + 1]? = some (.cells zero10 44 (0, 0))) := ⟨hb1, s1, r0, r1⟩
  unfold rowX
  clear hb1 s1 r1 hx
  go_enter Tryz.func10, Tryz.ntmps10
  go_wp2_with fail
  clear hw1
  refine any_tail (by kernel_rfl) 11 (by exact Nat.le_of_ble_eq_true rfl) (fun i => if i = 10 then 3 else i + 5) (mixR [(10, NwP w1.heap.size 44 zero10)] [.pointer (some ⟨w.heap.size, 0, none⟩), .int .i64 R.k, .pointer (some ⟨w.heap.size, 1, none⟩), .string R.s, .pointer (some ⟨w.heap.size, 2, none⟩), .agg #[.int .i64 R.vk, .bool R.vb, .int .i64 R.vn, .string R.vs, .slice none 0 0, .slice none 0 0], .agg #[.int .i64 R.vk, .bool R.vb, .int .i64 R.vn, .string R.vs, .slice none 0 0, .slice none 0 0], .pointer (some ⟨w.heap.size, 9, none⟩), .slice R.np R.m R.nc, .agg #[.int .i64 R.k, .string R.s, .int .i64 R.vk, .bool R.vb, .int .i64 R.vn, .string R.vs, .slice none 0 0, .slice none 0 0, .slice none 0 0, .slice R.np R.m R.nc], undef]) (by kernel_rfl) (by kernel_rfl) (by kernel_rfl) (by kernel_rfl) (mixR_later _ _ (stab_cons NwP.later stab_nil)) ?step ?post
  case step =>
    intro iq hiq a W hrest hb hk
    have hp1 : a.eval (.tmp 1) = .pointer (some ⟨w.heap.size, 0, none⟩) := (hrest 1 (by intro iq2 hiq2; (repeat' split) <;> omega)).trans rfl
    have fp1 := ev hp1
    have hx1 : W.heap[w.heap.size]? = some (.cells #[.int .i64 R.k, .string R.s, .int .i64 R.vk, .bool R.vb, .int .i64 R.vn, .string R.vs, .slice none 0 0, .slice none 0 0, .slice R.kp R.n R.kc, .slice R.np R.m R.nc] 28 (0, 0)) := (hb.block _ (lt_of_row r0)).trans r0
    clear hrest
    obtain rfl | rfl | rfl | rfl | rfl | rfl | rfl | rfl | rfl | rfl | rfl : iq = 0 ∨ iq = 1 ∨ iq = 2 ∨ iq = 3 ∨ iq = 4 ∨ iq = 5 ∨ iq = 6 ∨ iq = 7 ∨ iq = 8 ∨ iq = 9 ∨ iq = 10 := by omega
    · clear hiq
      clear hk
      refine ⟨_, rfl, rfl, rfl, wp_value (v := .pointer (some ⟨w.heap.size, 0, none⟩)) (w' := W) ?_ ⟨_, rfl, Below.refl _ _, rfl⟩⟩
      go_simp
    · clear hiq
      have e0 : a.eval (.tmp 5) = .pointer (some ⟨w.heap.size, 0, none⟩) := hk 0 (mem_of (by kernel_rfl))
      have f0 := ev e0
      have hc : W.cell? ⟨w.heap.size, 0, none⟩ = some (.int .i64 R.k) := cell_of_row W _ 0 _ _ _ hx1
      clear hk
      refine ⟨_, rfl, rfl, rfl, wp_value (v := .int .i64 R.k) (w' := W) ?_ ⟨_, rfl, Below.refl _ _, rfl⟩⟩
      go_simp
    · clear hiq
      clear hk
      refine ⟨_, rfl, rfl, rfl, wp_value (v := .pointer (some ⟨w.heap.size, 1, none⟩)) (w' := W) ?_ ⟨_, rfl, Below.refl _ _, rfl⟩⟩
      go_simp
    · clear hiq
      have e2 : a.eval (.tmp 7) = .pointer (some ⟨w.heap.size, 1, none⟩) := hk 2 (mem_of (by kernel_rfl))
      have f2 := ev e2
      have hc : W.cell? ⟨w.heap.size, 1, none⟩ = some (.string R.s) := cell_of_row W _ 1 _ _ _ hx1
      clear hk
      refine ⟨_, rfl, rfl, rfl, wp_value (v := .string R.s) (w' := W) ?_ ⟨_, rfl, Below.refl _ _, rfl⟩⟩
      go_simp
    · clear hiq
      clear hk
      refine ⟨_, rfl, rfl, rfl, wp_value (v := .pointer (some ⟨w.heap.size, 2, none⟩)) (w' := W) ?_ ⟨_, rfl, Below.refl _ _, rfl⟩⟩
      go_simp
    · clear hiq
      have e4 : a.eval (.tmp 9) = .pointer (some ⟨w.heap.size, 2, none⟩) := hk 4 (mem_of (by kernel_rfl))
      have f4 := ev e4
      clear hk
      have hrg : W.rangeAt w.heap.size 2 [.int .i64 R.vk, .bool R.vb, .int .i64 R.vn, .string R.vs, .slice none 0 0, .slice none 0 0] := fun j u hu => by
        have hj : j < 6 := by have := (List.getElem?_eq_some_iff.1 hu).1; simpa using this
        rw [cell_of_row W _ _ _ _ _ hx1]
        obtain rfl | rfl | rfl | rfl | rfl | rfl : j = 0 ∨ j = 1 ∨ j = 2 ∨ j = 3 ∨ j = 4 ∨ j = 5 := by omega
        all_goals simpa using hu
      refine ⟨_, rfl, rfl, rfl, wp_load_mid 25 (.tmp 9) rfl w.heap.size 2 e4 _ _ hrg Tryz.underlying25 rfl info25 ?_⟩
      exact ⟨_, rfl, Below.refl _ _, rfl⟩
    · clear hiq
      have e5 : a.eval (.tmp 10) = .agg #[.int .i64 R.vk, .bool R.vb, .int .i64 R.vn, .string R.vs, .slice none 0 0, .slice none 0 0] := hk 5 (mem_of (by kernel_rfl))
      have f5 := ev e5
      clear hk
      refine ⟨_, rfl, rfl, rfl, wp_enter (f := 15) (args := #[.agg #[.int .i64 R.vk, .bool R.vb, .int .i64 R.vn, .string R.vs, .slice none 0 0, .slice none 0 0]]) ?_ ((ref_leaf R.vk R.vb R.vn R.vs W).mono ?_)⟩
      · go_simp
      · rintro e w2 ⟨rfl, hb2⟩
        exact ⟨_, rfl, _, rfl, hb2, rfl⟩
    · clear hiq
      clear hk
      refine ⟨_, rfl, rfl, rfl, wp_value (v := .pointer (some ⟨w.heap.size, 9, none⟩)) (w' := W) ?_ ⟨_, rfl, Below.refl _ _, rfl⟩⟩
      go_simp
    · clear hiq
      have e7 : a.eval (.tmp 12) = .pointer (some ⟨w.heap.size, 9, none⟩) := hk 7 (mem_of (by kernel_rfl))
      have f7 := ev e7
      have hc : W.cell? ⟨w.heap.size, 9, none⟩ = some (.slice R.np R.m R.nc) := cell_of_row W _ 9 _ _ _ hx1
      clear hk
      refine ⟨_, rfl, rfl, rfl, wp_value (v := .slice R.np R.m R.nc) (w' := W) ?_ ⟨_, rfl, Below.refl _ _, rfl⟩⟩
      go_simp
    · clear hiq
      have e1 : a.eval (.tmp 6) = .int .i64 R.k := hk 1 (mem_of (by kernel_rfl))
      have f1 := ev e1
      have e3 : a.eval (.tmp 8) = .string R.s := hk 3 (mem_of (by kernel_rfl))
      have f3 := ev e3
      have e6 : a.eval (.tmp 11) = .agg #[.int .i64 R.vk, .bool R.vb, .int .i64 R.vn, .string R.vs, .slice none 0 0, .slice none 0 0] := hk 6 (mem_of (by kernel_rfl))
      have f6 := ev e6
      have e8 : a.eval (.tmp 13) = .slice R.np R.m R.nc := hk 8 (mem_of (by kernel_rfl))
      have f8 := ev e8
      clear hk
      refine ⟨_, rfl, rfl, rfl, wp_value (v := .agg #[.int .i64 R.k, .string R.s, .int .i64 R.vk, .bool R.vb, .int .i64 R.vn, .string R.vs, .slice none 0 0, .slice none 0 0, .slice none 0 0, .slice R.np R.m R.nc]) (w' := W) ?_ ⟨_, rfl, Below.refl _ _, rfl⟩⟩
      go_simp
    · clear hiq
      clear hk
      refine ⟨_, rfl, rfl, rfl, wp_value (v := .pointer (some ⟨W.heap.size, 0, none⟩)) (w' := W.alloc (.cells #[.int .i64 0, .string ⟨#[]⟩, .int .i64 0, .bool false, .int .i64 0, .string ⟨#[]⟩, .slice none 0 0, .slice none 0 0, .slice none 0 0, .slice none 0 0] 44)) ?_ ⟨_, rfl, (Below.refl _ _).alloc (Nat.le_refl _) _, ⟨_, rfl, hb.size, heap_alloc_new _ _⟩⟩⟩
      go_simp
  case post =>
    intro V W hbW hV
    have v9 : V 9 = .agg #[.int .i64 R.k, .string R.s, .int .i64 R.vk, .bool R.vb, .int .i64 R.vn, .string R.vs, .slice none 0 0, .slice none 0 0, .slice none 0 0, .slice R.np R.m R.nc] := hV 9 (by omega)
    obtain ⟨g, v10, hgB, hgr⟩ : NwP w1.heap.size 44 zero10 (V 10) W := hV 10 (by omega)
    clear hV
    simp only [putAll]
    rw [v9, v10]
    simp only [Act.put, List.setIfInBounds_toArray, List.set_cons_zero, List.set_cons_succ, Nat.reduceAdd, Nat.reduceEqDiff, if_true, if_false, List.drop_succ_cons, List.drop_zero]
    obtain ⟨w2, hw2⟩ : ∃ w2, put W g #[.int .i64 R.k, .string R.s, .int .i64 R.vk, .bool R.vb, .int .i64 R.vn, .string R.vs, .slice none 0 0, .slice none 0 0, .slice none 0 0, .slice R.np R.m R.nc] = w2 := ⟨_, rfl⟩
    have H2 : Hid (Xs w w2 g R S d t 0 (.slice none 0 0)) := by
      have hs1 := HH.out.2.1
      have hbs := hbW.size
      have hB : Below w.heap.size w W := HH.out.1.trans (hbW.mono HH.out.1.size)
      have hgl := lt_of_row hgr
      have X2 : Xs w w2 g R S d t 0 (.slice none 0 0) := by
        rw [← hw2]
        refine ⟨put_below hB _ (by omega) _, ?_, ?_, put_row _ hgr rfl, by omega, [], World.ownsRow_nil _ _ _ _, rfl⟩
        · exact (put_other (by omega) _).trans ((hbW.block _ (by omega)).trans HH.out.2.2.1)
        · exact (put_other (by omega) _).trans ((hbW.block _ (by omega)).trans HH.out.2.2.2)
      exact X2
    have HG : Hid (W.heap[g]? = some (.cells zero10 44 (0, 0))) := hgr
    clear v9 v10 hgr hgB hbW HH r0
    go_wp2_with (first | (refine wpList_put rfl 44 (.tmp 3) (.tmp 14) rfl rfl rfl rfl HG.out rfl info44 (by simp [Value.oneCell']) ?_; rw [hw2]) | fail)
    clear hw2 HG
    go_loopw [4] (fun c4 wr => ∃ (i : Nat), i ≤ R.n ∧ c4 = .int .i64 (i : Int) ∧ Hid (∃ v, Xs w wr g R S d t i v)) (fun c4 _ => R.n - (intOf c4).toNat)
    case atStart =>
      have hh : ∃ v, Xs w w2 g R S d t 0 v := ⟨_, H2.out⟩
      exact ⟨0, Nat.zero_le _, rfl, hh⟩
    case round =>
      obtain ⟨i, hi, rfl, hh⟩ := hrel
      obtain ⟨v, hX⟩ := hh.out
      have rX := hX.rx
      have x8 : wr.cell? ⟨w.heap.size, 8, none⟩ = some (.slice R.kp R.n R.kc) := cell_of_row wr _ 8 _ _ _ rX
      by_cases hlt : i < R.n
      · have hlt' : (i : Int) < (R.n : Int) := by omega
        obtain ⟨L, hown, hE⟩ := hX.own
        obtain ⟨q0, k0, rfl⟩ := own_len hown
        have rY := hX.ry
        have hlw := hX.hb
        have hgt := hX.gt
        have hgl := lt_of_row rY
        obtain ⟨kp, kc, np, nc, K, eR, -, hK, hk⟩ := HX.out
        have eR2 : R.kp = kp ∧ R.n = (t []).n ∧ R.kc = kc := by
          unfold rowX enV at eR
          injection eR with e
          have e' := congrArg Array.toList e
          simp only [List.cons.injEq, Value.int.injEq, Value.string.injEq, Value.slice.injEq, Value.bool.injEq] at e'
          obtain ⟨h1, h2, h3, h4, h5, h6, h7, h8, h9, h10, -⟩ := e'
          exact ⟨h9.1, h9.2.1, h9.2.2⟩
        have hcap := hK.cap
        rw [← eR2.2.1, ← eR2.2.2] at hcap
        obtain ⟨kg, ko, hkp, hSg, hkg, hcl⟩ := hK.lies (by omega)
        have hkp2 : R.kp = some ⟨kg, ko, none⟩ := eR2.1.trans hkp
        have hki := hk i (by omega)
        obtain ⟨A, hA, hA10, hA1⟩ := hki.agg
        rw [hA] at hki
        have hrg0 : wr.rangeAt kg (ko + i * 10) A.toList := fun j u hu => by
          have hj : j < 10 := by have := (List.getElem?_eq_some_iff.1 hu).1; simpa [hA10] using this
          have h1 := hcl i (by omega) j hj
          rw [← cell_later hlw hkg] at h1
          rw [h1]
          unfold row10 at hA
          injection hA with hA2
          rw [← hA2] at hu
          rcases (by omega : j = 0 ∨ j = 1 ∨ j = 2 ∨ j = 3 ∨ j = 4 ∨ j = 5 ∨ j = 6 ∨ j = 7 ∨ j = 8 ∨ j = 9) with rfl | rfl | rfl | rfl | rfl | rfl | rfl | rfl | rfl | rfl <;> simpa using hu
        have hki2 : LiesE wr (fun k => S k ∧ k < w.heap.size) d (t.sub i) (.agg A) := ((hki.imp (fun k hk hl => ⟨hk, hl⟩) : LiesE w (fun k => S k ∧ k < w.heap.size) d (t.sub i) (.agg A))).since (Since.below hlw)
        have kc7 := fun W (hW : Below wr.heap.size wr W) => kb W (fun k => S k ∧ k < w.heap.size) i A hlt (hki2.since (Since.below hW))
        have HI : Hid ((Tryz.prog.info? 28).map (·.size) = some A.toList.length) := by rw [Array.length_toList]; exact i28 hA10
        have HE : Hid (Xs w wr g R S d t i (.slice q0 i k0) ∧ wr.ownsRow (g + 1) 44 10 (.slice q0 i k0) i L ∧ Els (EExd d) wr (SX S w g (.slice q0 i k0)) ((List.range i).map t.sub) L) := ⟨hX, hown, hE⟩
        have HRg : Hid (wr.rangeAt kg (ko + i * 10) A.toList ∧ kg < wr.heap.size) := ⟨hrg0, Nat.lt_of_lt_of_le hkg hlw.size⟩
        have HT : Hid (R.kp = some ⟨kg, ko, none⟩) := hkp2
        obtain ⟨i0, hi0, hz0, hz1, hz2⟩ := info_parts info44c
        clear hrg0 hki hki2 hcl hkp hkg hSg hK hk eR eR2 hA10 hA1 hA hown hE hX hlw hkp2 H2 hh kb
        unfold arrY at rY
        go_wp2_with fail
        refine any_tail (by kernel_rfl) 9 (by exact Nat.le_of_ble_eq_true rfl) (fun i => i + 22) (mixR [(7, AgV (fun k => (S k ∧ k < w.heap.size) ∨ wr.heap.size ≤ k) d (t.sub i)), (8, OnV (fun k => (S k ∧ k < w.heap.size) ∨ wr.heap.size ≤ k) d (t.sub i))] [.pointer (some ⟨g, 8, none⟩), .slice q0 i k0, .pointer (some ⟨w.heap.size, 8, none⟩), .slice R.kp R.n R.kc, .int .i64 (i : Int), .pointer (some ⟨kg, ko + i * 10, none⟩), .agg A, undef, undef]) (by kernel_rfl) (by kernel_rfl) (by kernel_rfl) (by kernel_rfl) (mixR_later _ _ (stab_cons AgV.later (stab_cons OnV.later stab_nil))) ?step ?post
        case step =>
          intro iq hiq a W hrest hb hk
          have hp3 : a.eval (.tmp 3) = .pointer (some ⟨g, 0, none⟩) := (hrest 3 (by intro iq2 hiq2; (repeat' split) <;> omega)).trans rfl
          have fp3 := ev hp3
          have hx3 : W.heap[g]? = some (.cells #[.int .i64 R.k, .string R.s, .int .i64 R.vk, .bool R.vb, .int .i64 R.vn, .string R.vs, .slice none 0 0, .slice none 0 0, .slice q0 i k0, .slice R.np R.m R.nc] 44 (0, 0)) := (hb.block _ (lt_of_row rY)).trans rY
          have hp1 : a.eval (.tmp 1) = .pointer (some ⟨w.heap.size, 0, none⟩) := (hrest 1 (by intro iq2 hiq2; (repeat' split) <;> omega)).trans rfl
          have fp1 := ev hp1
          have hx1 : W.heap[w.heap.size]? = some (.cells (arrX R) 28 (0, 0)) := (hb.block _ (lt_of_row rX)).trans rX
          have hp4 : a.eval (.tmp 4) = .int .i64 (i : Int) := (hrest 4 (by intro iq2 hiq2; (repeat' split) <;> omega)).trans rfl
          have fp4 := ev hp4
          clear hrest
          obtain rfl | rfl | rfl | rfl | rfl | rfl | rfl | rfl | rfl : iq = 0 ∨ iq = 1 ∨ iq = 2 ∨ iq = 3 ∨ iq = 4 ∨ iq = 5 ∨ iq = 6 ∨ iq = 7 ∨ iq = 8 := by omega
          · clear hiq
            clear hk
            refine ⟨_, rfl, rfl, rfl, wp_value (v := .pointer (some ⟨g, 8, none⟩)) (w' := W) ?_ ⟨_, rfl, Below.refl _ _, rfl⟩⟩
            go_simp
          · clear hiq
            have e0 : a.eval (.tmp 22) = .pointer (some ⟨g, 8, none⟩) := hk 0 (mem_of (by kernel_rfl))
            have f0 := ev e0
            have hc : W.cell? ⟨g, 8, none⟩ = some (.slice q0 i k0) := cell_of_row W _ 8 _ _ _ hx3
            clear hk
            refine ⟨_, rfl, rfl, rfl, wp_value (v := .slice q0 i k0) (w' := W) ?_ ⟨_, rfl, Below.refl _ _, rfl⟩⟩
            go_simp
          · clear hiq
            clear hk
            refine ⟨_, rfl, rfl, rfl, wp_value (v := .pointer (some ⟨w.heap.size, 8, none⟩)) (w' := W) ?_ ⟨_, rfl, Below.refl _ _, rfl⟩⟩
            go_simp
          · clear hiq
            have e2 : a.eval (.tmp 24) = .pointer (some ⟨w.heap.size, 8, none⟩) := hk 2 (mem_of (by kernel_rfl))
            have f2 := ev e2
            have hc : W.cell? ⟨w.heap.size, 8, none⟩ = some (.slice R.kp R.n R.kc) := cell_of_row W _ 8 _ _ _ hx1
            clear hk
            refine ⟨_, rfl, rfl, rfl, wp_value (v := .slice R.kp R.n R.kc) (w' := W) ?_ ⟨_, rfl, Below.refl _ _, rfl⟩⟩
            go_simp
          · clear hiq
            clear hk
            refine ⟨_, rfl, rfl, rfl, wp_value (v := .int .i64 (i : Int)) (w' := W) ?_ ⟨_, rfl, Below.refl _ _, rfl⟩⟩
            go_simp
          · clear hiq
            have e3 : a.eval (.tmp 25) = .slice R.kp R.n R.kc := hk 3 (mem_of (by kernel_rfl))
            have f3 := ev e3
            have e4 : a.eval (.tmp 26) = .int .i64 (i : Int) := hk 4 (mem_of (by kernel_rfl))
            have f4 := ev e4
            have hT := HT.out
            rw [hT] at e3 f3
            clear hk
            refine ⟨_, rfl, rfl, rfl, wp_value (v := .pointer (some ⟨kg, ko + i * 10, none⟩)) (w' := W) ?_ ⟨_, rfl, Below.refl _ _, rfl⟩⟩
            go_simp
          · clear hiq
            have e5 : a.eval (.tmp 27) = .pointer (some ⟨kg, ko + i * 10, none⟩) := hk 5 (mem_of (by kernel_rfl))
            have f5 := ev e5
            clear hk
            have hrg : W.rangeAt kg (ko + i * 10) A.toList := fun j u hu => (cell_later hb HRg.out.2).trans (HRg.out.1 j u hu)
            refine ⟨_, rfl, rfl, rfl, wp_load_mid 28 (.tmp 27) rfl kg (ko + i * 10) e5 _ _ hrg Tryz.underlying28 rfl HI.out ?_⟩
            exact ⟨_, rfl, Below.refl _ _, by rw [Array.toArray_toList]; rfl⟩
          · clear hiq
            have e6 : a.eval (.tmp 28) = .agg A := hk 6 (mem_of (by kernel_rfl))
            have f6 := ev e6
            clear hk
            refine ⟨_, rfl, rfl, rfl, wp_enter (f := 10) (args := #[.agg A]) ?_ ((kc7 W hb).mono ?_)⟩
            · go_simp
            · rintro e w2 ⟨A2, rfl, hA2, hb2⟩
              exact ⟨_, rfl, _, rfl, hb2, ⟨A2, rfl, hA2.imp fun k hk _ => by rcases hk with hk | hk; exact Or.inl hk; exact Or.inr (Nat.le_trans hb.size hk)⟩⟩
          · clear hiq
            obtain ⟨A2, e7, hA2⟩ := show AgV (fun k => (S k ∧ k < w.heap.size) ∨ wr.heap.size ≤ k) d (t.sub i) (a.eval (.tmp 29)) W from hk 7 (mem_of (by kernel_rfl))
            have f7 := ev e7
            obtain ⟨R2, hR2⟩ := hA2.row
            have hR3 : Value.agg A2 = .agg #[.int .i64 R2.k, .string R2.s, .int .i64 R2.vk, .bool R2.vb, .int .i64 R2.vn, .string R2.vs, .slice none 0 0, .slice none 0 0, .slice R2.kp R2.n R2.kc, .slice R2.np R2.m R2.nc] := hR2
            rw [hR3] at e7 f7 hA2
            clear hk
            refine ⟨_, rfl, rfl, rfl, wp_value (v := .slice (some ⟨W.heap.size, 0, none⟩) 1 1) (w' := W.alloc (.cells #[.int .i64 R2.k, .string R2.s, .int .i64 R2.vk, .bool R2.vb, .int .i64 R2.vn, .string R2.vs, .slice none 0 0, .slice none 0 0, .slice R2.kp R2.n R2.kc, .slice R2.np R2.m R2.nc] 44)) ?_ ⟨_, rfl, (Below.refl _ _).alloc (Nat.le_refl _) _, ⟨_, _, rfl, heap_alloc_new _ _, hA2.since (Since.below ((Below.refl _ _).alloc (Nat.le_refl _) _))⟩⟩⟩
            go_simp
        case post =>
          intro V W hbW hV
          have v1 : V 1 = .slice q0 i k0 := hV 1 (by omega)
          obtain ⟨g2, A2, v8, hg2, hA2⟩ : OnV (fun k => (S k ∧ k < w.heap.size) ∨ wr.heap.size ≤ k) d (t.sub i) (V 8) W := hV 8 (by omega)
          obtain ⟨V2, hV2, h10, hon⟩ := hA2.agg
          injection hV2 with hV2
          rw [← hV2] at h10 hon
          clear hV kc7
          have oW := own_laterN HE.out.2.1 hbW
          have hsW := hbW.size
          have HB : Hid (Below wr.heap.size wr W ∧ W.heap[g2]? = some (.cells A2 44 (0, 0)) ∧ A2.size = 10 ∧ A2.all (·.oneCell') = true) := ⟨hbW, hg2, h10, hon⟩
          have HA2 : Hid (LiesE W (fun k => (S k ∧ k < w.heap.size) ∨ wr.heap.size ≤ k) d (t.sub i) (.agg A2)) := hA2
          clear hbW hg2 h10 hon hA2 hV2
          simp only [putAll]
          rw [v1, v8]
          simp only [Act.put, List.setIfInBounds_toArray, List.set_cons_zero, List.set_cons_succ, Nat.reduceAdd, List.drop_succ_cons, List.drop_zero]
          go_wp2_with (at_builtin; refine wpList_append_own_at _ rfl _ _ 42 rfl (g + 1) 44 i0 (.agg #[.int .i64 0, .string ⟨#[]⟩, .int .i64 0, .bool false, .int .i64 0, .string ⟨#[]⟩, .slice none 0 0, .slice none 0 0, .slice none 0 0, .slice none 0 0]) 10 160 Tryz.underlying42 hi0 hz0 hz1 hz2 rfl (by decide) _ _ _ rfl oW ⟨g2, 0, none⟩ 1 1 A2.toList rfl ?c0 ?c1 ?c2 ?c3 ?c4 ?c5 ?_)
          case c0 => simpa using HB.out.2.2.1
          case c1 => exact World.news_of_block HB.out.2.1
          case c2 => exact fun u hu => (Array.all_eq_true_iff_forall_mem.1 HB.out.2.2.2) u (by simpa using hu)
          case c3 => unfold maxLen; omega
          case c4 => omega
          case c5 => omega
          intro v' w5 hown5 hgr5 _ hat5
          have X6 := HE.out.1.more HE.out.2.1 HE.out.2.2 HB.out.1 HA2.out hown5 hgr5 hat5
          have r5 : w5.heap[g]? = some (.cells #[.int .i64 R.k, .string R.s, .int .i64 R.vk, .bool R.vb, .int .i64 R.vn, .string R.vs, .slice none 0 0, .slice none 0 0, .slice q0 i k0, .slice R.np R.m R.nc] 44 (0, 0)) := ((hgr5.block g (by omega) (fun e => by have := HE.out.2.1.lt g e.symm; omega)).trans (HB.out.1.block g hgl)).trans rY
          have y8 : w5.cell? ⟨g, 8, none⟩ = some (.slice q0 i k0) := cell_of_row w5 _ 8 _ _ _ r5
          have y8f := frozen_of_row w5 g 8 _ _ r5
          have lg5 := lt_of_row r5
          obtain ⟨q6, k6, rfl⟩ := own_len hown5
          have H6 : Hid (Xs w (w5.setCell ⟨g, 8, none⟩ (.slice q6 (i + 1) k6)) g R S d t (i + 1) (.slice q6 (i + 1) k6)) := X6
          clear oW hown5 hgr5 hat5 X6 HB HA2 HE rY rX r5 HRg HT HI v1 v8
          go_wp2_with fail
          go_roundw
          case rel =>
            have hh : ∃ v, Xs w (w5.setCell ⟨g, 8, none⟩ (.slice q6 (i + 1) k6)) g R S d t (i + 1) v := ⟨_, H6.out⟩
            exact ⟨i + 1, by omega, by go_num, hh⟩
          case measure => simp [intOf]; omega
      · obtain rfl : i = R.n := by omega
        have hlt' : ¬ ((R.n : Int) < (R.n : Int)) := by omega
        have HE : Hid (Xs w wr g R S d t R.n v) := hX
        have rY := hX.ry
        have rZ := hX.rz
        have hown := hX.own
        obtain ⟨L, hown, -⟩ := hown
        obtain ⟨q0, k0, rfl⟩ := own_len hown
        have HR : Hid (wr.heap[g]? = some (.cells (arrY R (.slice q0 R.n k0)) 44 (0, 0)) ∧ wr.heap[w.heap.size + 1]? = some (.cells zero10 44 (0, 0))) := ⟨rY, rZ⟩
        clear hX hown rY rZ hh H2 kb rX
        go_wp2_with (first | (refine wpList_get rfl 44 (.tmp 3) rfl rfl HR.out.1 Tryz.underlying44 rfl info44 ?_; simp only [Act.put, List.setIfInBounds_toArray, List.set_cons_zero, List.set_cons_succ]) | (refine wpList_put rfl 44 (.tmp 2) (.tmp 33) rfl rfl rfl rfl HR.out.2 rfl info44 (by simp [arrY, Value.oneCell']) ?_) | fail)
        exact bodyPost_ret (results_cell_row Tryz.results10 _ _ (w.heap.size + 1) 44 _ (0, 0) _ rfl (put_row _ HR.out.2 rfl) Tryz.underlying44 rfl info44) rfl (HE.out.done HX.out)
end Go.Proofs.YtcniebkehekliaaGreatDoor
