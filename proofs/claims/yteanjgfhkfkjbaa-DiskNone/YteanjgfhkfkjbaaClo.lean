/- A clone of a disk with one file (Clone). -/
import Derived.Test.YteanjgfhkfkjbaaAny
import Derived.Test.YteanjgfhkfkjbaaDk5
import Derived.Maps.RangeWalk
namespace Go.Proofs.Yteanjgfhkfkjbaa
open Go.RowKit Go.Shelf
set_option maxRecDepth 100000 in
theorem sclone_nil (w : World) : Calls Try.prog 45 #[.slice none 0 0] w fun e w' => e = .returned (.slice none 0 0) ∧ w' = w := by
  have heq : (binOp .eql 55 (.slice none 0 0) (.slice none 0 0)).run Try.prog w = .ok (.bool true) w := by kernel_rfl
  go_enter Try.func45, Try.ntmps45
  go_wp2
  go_ret
  exact ⟨rfl, rfl⟩
theorem make75 (w : World) : (Instr.makeMap 75 (some (.int .i64 1))).run Try.prog w = .ok (.map (some w.heap.size)) (w.alloc (.map #[] 0)) := by kernel_rfl
theorem mp_len {w : World} {m : Nat} {n : Int} {v : DataW Unit} (h : Mp w m 1 (D1 n v)) (ty : TypeId) : (Builtin.len_ #[75] ty #[.map (some m)]).run Try.prog w = .ok (.int .i64 1) w := World.ownsMap.len h Try.underlying75 ty
/- A file that a clone made. -/
def ClV (n0 nb : Nat) (xs : List Value) (u : Value) (W : World) : Prop := ∃ f' v, u = .pointer (some ⟨f', 0, none⟩) ∧ n0 ≤ f' ∧ Fl W f' v 0 (.map none) ∧ W.ownsRow n0 5 1 v nb xs ∧ v.ownBlock ≠ some f'
theorem ClV.later {n0 nb : Nat} {xs : List Value} : ∀ u W W', ClV n0 nb xs u W → Below W.heap.size W W' → ClV n0 nb xs u W' := fun _ _ _ ⟨f', v, h1, h2, h3, h4, h5⟩ hb =>
  ⟨f', v, h1, h2, (hb.block _ (lt_of_row h3)).trans h3, own_kept h4 (fun g hg => hb.block g (h4.lt g hg).2), h5⟩
set_option maxRecDepth 100000 in
set_option maxHeartbeats 8000000 in
theorem clone_one {w : World} {d m f g nb cap : Nat} {sec used ch : Int} (n : Int) (hI : I64 n) (xs : List Value) (hn0 : 0 < nb) (hnb : nb ≤ 1000000) (hxl : xs.length = nb) (hone : ∀ u ∈ xs, u.oneCell' = true) (h : Dk w d (.map (some m)) sec used ch (.slice none 0 0) false) (hm : Mp w m 1 (D1 n (.lit (.int .u64 (f : Int))))) (hF : Fl w f (.slice (some ⟨g, 0, none⟩) nb cap) 0 (.map none)) (hgl : g < w.heap.size) (hc : ∀ i x, xs[i]? = some x → w.cell? ⟨g, i, none⟩ = some x) :
    Calls Try.prog 23 #[.pointer (some ⟨d, 0, none⟩)] w fun e w' => ∃ c mc f' v, e = .returned (.pointer (some ⟨c, 0, none⟩)) ∧ w.heap.size ≤ c ∧ w.heap.size ≤ mc ∧ w.heap.size ≤ f' ∧ c ≠ mc ∧ c ≠ f' ∧ mc ≠ f' ∧ Dk w' c (.map (some mc)) sec used ch (.slice none 0 0) false ∧ Mp w' mc 1 (D1 n (.lit (.int .u64 (f' : Int)))) ∧ Fl w' f' v 0 (.map none) ∧ w'.ownsRow w.heap.size 5 1 v nb xs ∧ v.ownBlock ≠ some f' ∧ v.ownBlock ≠ some c ∧ v.ownBlock ≠ some mc ∧ Below w.heap.size w w' := by
  have ltd := lt_of_row h
  have ltf := lt_of_row hF
  have ltm := hm.lt
  obtain ⟨c0, c1, c2, c3, c4, c5⟩ := h.cells
  obtain ⟨w1, hw1⟩ : ∃ w1, w.alloc (.cells #[.map (some m), .int .i64 sec, .int .i64 used, .int .i64 ch, .slice none 0 0, .bool false] 78) = w1 := ⟨_, rfl⟩
  have hb1 : Below w.heap.size w w1 := by rw [← hw1]; exact (Below.refl _ w).alloc (Nat.le_refl _) _
  have s1 : w1.heap.size = w.heap.size + 1 := by rw [← hw1]; simp
  have r1 : Dk w1 w.heap.size (.map (some m)) sec used ch (.slice none 0 0) false := by rw [← hw1]; exact heap_alloc_new _ _
  have HX1 : Hid (w.alloc (.cells #[.map (some m), .int .i64 sec, .int .i64 used, .int .i64 ch, .slice none 0 0, .bool false] 78) = w1) := hw1
  have h1 : Dk w1 d (.map (some m)) sec used ch (.slice none 0 0) false := (hb1.block _ ltd).trans h
  clear hw1
  go_enter Try.func23, Try.ntmps23
  go_wp2_with fail
  rw [HX1.out]
  refine (sclone_nil w1).mono ?_
  rintro e w1b ⟨rfl, hq⟩
  rw [hq]
  clear hq c0 c1 c2 c3 c4 c5
  obtain ⟨w2, hw2⟩ : ∃ w2, w1.setCell ⟨w.heap.size, 4, none⟩ (.slice none 0 0) = w2 := ⟨_, rfl⟩
  have r2 : Dk w2 w.heap.size (.map (some m)) sec used ch (.slice none 0 0) false := by rw [← hw2]; exact row_setCell (k := 4) r1 _
  have s2 : w2.heap.size = w.heap.size + 1 := by rw [← hw2]; simp [s1]
  have hb2 : Below w.heap.size w w2 := by rw [← hw2]; exact hb1.setCell (p := ⟨w.heap.size, 4, none⟩) (Nat.le_refl _) _
  have h2 : Dk w2 d (.map (some m)) sec used ch (.slice none 0 0) false := (hb2.block _ ltd).trans h
  have m2 : Mp w2 m 1 (D1 n (.lit (.int .u64 (f : Int)))) := mp_kept hm (hb2.block _ ltm)
  have hlen := fun ty => mp_len m2 ty
  have hmk := make75 w2
  obtain ⟨w3, hw3⟩ : ∃ w3, w2.alloc (.map #[] 0) = w3 := ⟨_, rfl⟩
  rw [hw3] at hmk
  have hb3 : Below w2.heap.size w2 w3 := by rw [← hw3]; exact (Below.refl _ w2).alloc (Nat.le_refl _) _
  have s3 : w3.heap.size = w.heap.size + 2 := by rw [← hw3]; simp [s2]
  have o3 : w3.ownsMap Try.prog 3 ptrR (w.heap.size + 1) 0 (.map []) := by rw [← hw3, ← s2]; exact World.ownsMap_made w2 _ _ _
  have r3 : Dk w3 w.heap.size (.map (some m)) sec used ch (.slice none 0 0) false := (hb3.block _ (lt_of_row r2)).trans r2
  obtain ⟨w4, hw4⟩ : ∃ w4, w3.setCell ⟨w.heap.size, 0, none⟩ (.map (some (w.heap.size + 1))) = w4 := ⟨_, rfl⟩
  have r4 : Dk w4 w.heap.size (.map (some (w.heap.size + 1))) sec used ch (.slice none 0 0) false := by rw [← hw4]; exact row_setCell (k := 0) r3 _
  have n4 : ∀ k, k ≠ w.heap.size → w4.heap[k]? = w3.heap[k]? := fun k hk => by rw [← hw4]; exact Below.heap_setCell _ _ _ _ (by show k ≠ w.heap.size; exact hk)
  have s4 : w4.heap.size = w.heap.size + 2 := by rw [← hw4]; simp [s3]
  have hb4 : Below w.heap.size w w4 := by rw [← hw4]; exact (hb2.trans (hb3.mono (by omega))).setCell (p := ⟨w.heap.size, 0, none⟩) (Nat.le_refl _) _
  have o4 : w4.ownsMap Try.prog 3 ptrR (w.heap.size + 1) 0 (.map []) := by
    obtain ⟨es, clock, h1, F, h2, hD⟩ := o3
    exact ⟨es, clock, (n4 _ (by omega)).trans h1, F, h2, hD⟩
  have h4 : Dk w4 d (.map (some m)) sec used ch (.slice none 0 0) false := (hb4.block _ ltd).trans h
  have hown : w4.ownsMap Try.prog 3 ptrR m 1 (D1 n (.lit (.int .u64 (f : Int)))) := mp_kept hm (hb4.block _ ltm)
  obtain ⟨d0, d1, d2, d3, d4, d5⟩ := h2.cells
  have e0 := h4.cells.1
  have x1 := r1.cells.2.2.2.2.1
  have f1 := r1.fro 4
  have y3 := r3.cells.1
  have f3 := r3.fro 0
  have HX2 : Hid (w1.setCell ⟨w.heap.size, 4, none⟩ (.slice none 0 0) = w2 ∧ w3.setCell ⟨w.heap.size, 0, none⟩ (.map (some (w.heap.size + 1))) = w4) := ⟨hw2, hw4⟩
  have HS2 : Hid (w2.heap.size = w.heap.size + 1) := s2
  rw [s2] at hmk
  clear hw2 hw3 hw4
  go_wp2_with (first
    | (at_range; refine wpList_range_own _ rfl _ 75 rfl 3 76 keyed3 Try.underlying75 _ m 1 _ rfl hown ?_; intro w5 hrg5 hg5 hs5)
    | rw [HX2.out.1]
    | rw [HX2.out.2]
    | go_in)
  try go_frame
  rw [s4] at hrg5
  try rw [s4]
  have b5 : Below w.heap.size w w5 := hb4.trans ⟨hg5.os, hg5.tape, hg5.output, hg5.size, fun k hk => hg5.block k (by omega) (by simp)⟩
  have r5 : Dk w5 w.heap.size (.map (some (w.heap.size + 1))) sec used ch (.slice none 0 0) false := (hg5.block _ (lt_of_row r4) (by simp)).trans r4
  have o5 : w5.ownsMap Try.prog 3 ptrR (w.heap.size + 1) 0 (.map []) := o4.kept (row := none) hg5 (by simp)
  have s5 : w5.heap.size = w.heap.size + 3 := by omega
  clear d0 d1 d2 d3 d4 d5 e0 x1 f1 y3 f3 hmk hlen
  go_loopw [4] (fun _ wr => ∃ (left : Lit → Bool) (cnt : Nat), wr.ranges Try.prog 3 ptrR m (w.heap.size + 2) 1 (D1 n (.lit (.int .u64 (f : Int)))) left cnt ∧ Dk wr w.heap.size (.map (some (w.heap.size + 1))) sec used ch (.slice none 0 0) false ∧ Below w.heap.size w wr ∧ w.heap.size + 3 ≤ wr.heap.size ∧
      ((left = Maps.has (D1 n (.lit (.int .u64 (f : Int)))) ∧ wr.ownsMap Try.prog 3 ptrR (w.heap.size + 1) 0 (.map [])) ∨ ((∀ kl, left kl = false) ∧ ∃ f' v, w.heap.size + 3 ≤ f' ∧ Mp wr (w.heap.size + 1) 1 (D1 n (.lit (.int .u64 (f' : Int)))) ∧ Fl wr f' v 0 (.map none) ∧ wr.ownsRow (w.heap.size + 3) 5 1 v nb xs ∧ v.ownBlock ≠ some f'))) (fun _ wr => wr.rangeLeft m (w.heap.size + 2))
  case atStart => exact ⟨_, _, hrg5, r5, b5, by omega, Or.inl ⟨rfl, o5⟩⟩
  case round =>
    clear hrg5 r5 b5 o5
    obtain ⟨left, cnt, hrg, hrr, hbr, hsr, hst⟩ := hrel
    go_wp2_with (first
      | (at_next; refine wpList_next_ranges _ rfl _ rfl 3 keyed3 ptrR (Value.int .i64) id (fun key kl hk => by obtain ⟨x, hx, _⟩ := Maps.keyOf_int_inv Try.underlying3 hk; exact ⟨x, hx⟩) (fun v _ _ => ⟨v, rfl⟩) m (w.heap.size + 2) 1 _ _ _ rfl hrg ?_ ?_)
      | go_in)
    · intro hc0 hl0
      rcases hst with ⟨hl, -⟩ | ⟨-, f', v, hf', mr, Fr, ownr, hvf⟩
      · have := hl0 (.int .i64 n)
        rw [hl, D1_has] at this
        cases this
      · go_wp2
        go_ret
        have hlow := ownr.lt
        refine ⟨w.heap.size, w.heap.size + 1, f', v, rfl, Nat.le_refl _, by omega, by omega, by omega, by omega, by omega, hrr, mr, Fr, ?_, hvf, fun e => by have := (hlow _ e).1; omega, fun e => by have := (hlow _ e).1; omega, hbr⟩
        refine ⟨ownr.1, ?_⟩
        rcases ownr.2 with e1 | ⟨g, cap, cur, e1, e2, e3⟩
        · exact Or.inl e1
        · exact Or.inr ⟨g, cap, cur, e1, by omega, e3⟩
    · intro x c kl yd yp w6 cnt6 hkey hlk hv hat hrg6 hlt hg6 hs6 hen
      obtain ⟨x', ex, rfl, _⟩ := Maps.keyOf_int_inv Try.underlying3 hkey
      injection ex with _ ex
      subst ex
      have hx : left = Maps.has (D1 n (.lit (.int .u64 (f : Int)))) ∧ x = n ∧ wr.ownsMap Try.prog 3 ptrR (w.heap.size + 1) 0 (.map []) := by
        rcases hst with ⟨h1, h2⟩ | ⟨h1, -⟩
        · refine ⟨h1, ?_, h2⟩
          by_cases he : x = n
          · exact he
          · have h3 := D1_no (d := n) (k := .int .i64 x) (fun e => he (by injection e)) (.lit (.int .u64 (f : Int)))
            rw [h1, h3] at hlk
            cases hlk
        · rw [h1] at hlk
          cases hlk
      obtain ⟨rfl, rfl, hor⟩ := hx
      have hcf : c = .pointer (some ⟨f, 0, none⟩) := by
        have h1 := hat .nil
        rw [show (D1 x (.lit (.int .u64 (f : Int)))).atKey (.int .i64 x) .nil = .lit (.int .u64 (f : Int)) from at_one x _] at h1
        subst h1
        exact ptrR_inv hv
      subst hcf
      have hs6r : w6.heap.size = wr.heap.size := hs6
      have b6 : Below w.heap.size w w6 := hbr.trans ⟨hg6.os, hg6.tape, hg6.output, hg6.size, fun k hk => hg6.block k (by omega) (fun e => by injection e with e; omega)⟩
      have hc6 : Dk w6 w.heap.size (.map (some (w.heap.size + 1))) sec used ch (.slice none 0 0) false := (hg6.block _ (lt_of_row hrr) (fun e => by injection e with e; omega)).trans hrr
      have o6 : w6.ownsMap Try.prog 3 ptrR (w.heap.size + 1) 0 (.map []) := hor.kept (row := some (w.heap.size + 2)) hg6 (fun e => by injection e with e; omega)
      have F6 : Fl w6 f (.slice (some ⟨g, 0, none⟩) nb cap) 0 (.map none) := (b6.block _ ltf).trans hF
      have kfc : ∀ W, Below w6.heap.size w6 W → Calls Try.prog 49 #[.pointer (some ⟨f, 0, none⟩)] W fun e w' => (∃ u, e = .returned u ∧ ClV w6.heap.size nb xs u w') ∧ Below W.heap.size W w' := fun W hb => by
        have hsz := hb.size
        have sz6 := b6.size
        have hbW : Below w.heap.size w W := b6.trans (hb.mono b6.size)
        refine (fclone hn0 hnb xs hxl hone W ((hbW.block _ ltf).trans hF) (by omega) (fun i x hx => (World.cell?_of_block (a := ⟨g, i, none⟩) (hbW.block g hgl)).trans (hc i x hx))).mono ?_
        rintro e w' ⟨f', v, rfl, h1, h2, h3, h4, hb'⟩
        refine ⟨⟨_, rfl, f', v, rfl, by omega, h2, ⟨h3.1, ?_⟩, h4⟩, hb'⟩
        rcases h3.2 with e1 | ⟨g, cap, cur, e1, e2, e3⟩
        · exact Or.inl e1
        · exact Or.inr ⟨g, cap, cur, e1, by omega, e3⟩
      clear hst hlk hv hat
      go_wp2
      refine any_tail (by kernel_rfl) 5 (by exact Nat.le_of_ble_eq_true rfl) (fun i => i + 34) (mixR [(4, ClV w6.heap.size nb xs)] [.pointer (some ⟨w.heap.size, 0, none⟩), .map (some (w.heap.size + 1)), .int .i64 x, .pointer (some ⟨f, 0, none⟩), undef]) (by kernel_rfl) (by kernel_rfl) (by kernel_rfl) (by kernel_rfl) (mixR_later _ _ ((by intro y hy; simp only [List.mem_cons, List.not_mem_nil, or_false] at hy; subst hy; exact ClV.later))) ?step ?post
      case step =>
        intro iq hiq a W hrest hb hk
        have hp3 : a.eval (.tmp 3) = .pointer (some ⟨w.heap.size, 0, none⟩) := (hrest 3 (by intro iq2 hiq2; (repeat' split) <;> omega)).trans rfl
        have fp3 := ev hp3
        have hx3 : W.heap[w.heap.size]? = some (.cells #[.map (some (w.heap.size + 1)), .int .i64 sec, .int .i64 used, .int .i64 ch, .slice none 0 0, .bool false] 78 (0, 0)) := (hb.block _ (lt_of_row hc6)).trans hc6
        have hp4 : a.eval (.tmp 4) = .int .i64 x := (hrest 4 (by intro iq2 hiq2; (repeat' split) <;> omega)).trans rfl
        have fp4 := ev hp4
        have hp5 : a.eval (.tmp 5) = .pointer (some ⟨f, 0, none⟩) := (hrest 5 (by intro iq2 hiq2; (repeat' split) <;> omega)).trans rfl
        have fp5 := ev hp5
        clear hrest
        obtain rfl | rfl | rfl | rfl | rfl : iq = 0 ∨ iq = 1 ∨ iq = 2 ∨ iq = 3 ∨ iq = 4 := by omega
        · clear hiq
          clear hk
          refine ⟨_, rfl, rfl, rfl, wp_value (v := .pointer (some ⟨w.heap.size, 0, none⟩)) (w' := W) ?_ ⟨_, rfl, Below.refl _ _, rfl⟩⟩
          go_simp
        · clear hiq
          have e0 : a.eval (.tmp 34) = .pointer (some ⟨w.heap.size, 0, none⟩) := hk 0 (mem_of (by kernel_rfl))
          have f0 := ev e0
          have hc : W.cell? ⟨w.heap.size, 0, none⟩ = some (.map (some (w.heap.size + 1))) := cell_of_row W _ 0 _ _ _ hx3
          clear hk
          refine ⟨_, rfl, rfl, rfl, wp_value (v := .map (some (w.heap.size + 1))) (w' := W) ?_ ⟨_, rfl, Below.refl _ _, rfl⟩⟩
          go_simp
        · clear hiq
          clear hk
          refine ⟨_, rfl, rfl, rfl, wp_value (v := .int .i64 x) (w' := W) ?_ ⟨_, rfl, Below.refl _ _, rfl⟩⟩
          go_simp
        · clear hiq
          clear hk
          refine ⟨_, rfl, rfl, rfl, wp_value (v := .pointer (some ⟨f, 0, none⟩)) (w' := W) ?_ ⟨_, rfl, Below.refl _ _, rfl⟩⟩
          go_simp
        · clear hiq
          have e3 : a.eval (.tmp 37) = .pointer (some ⟨f, 0, none⟩) := hk 3 (mem_of (by kernel_rfl))
          have f3 := ev e3
          clear hk
          refine ⟨_, rfl, rfl, rfl, wp_enter (f := 49) (args := #[.pointer (some ⟨f, 0, none⟩)]) ?_ ((kfc W hb).mono ?_)⟩
          · go_simp
          · rintro e wq ⟨⟨u, rfl, hu⟩, hbq⟩
            exact ⟨_, rfl, _, rfl, hbq, hu⟩
      case post =>
        intro VV W hbW hV
        have e1 : VV 1 = .map (some (w.heap.size + 1)) := hV 1 (by omega)
        have e2 : VV 2 = .int .i64 x := hV 2 (by omega)
        obtain ⟨f', v, e4, hf', Fw, ownw, hvf⟩ : ClV w6.heap.size nb xs (VV 4) W := hV 4 (by omega)
        clear hV
        simp only [putAll, Nat.reduceAdd]
        rw [e1, e2, e4]
        simp only [Act.put, List.setIfInBounds_toArray, List.set_cons_zero, List.set_cons_succ]
        have oW : W.ownsMap Try.prog 3 ptrR (w.heap.size + 1) 0 (.map []) := o6.kept (row := none) ⟨hbW.os, hbW.tape, hbW.output, hbW.size, fun k hk _ => hbW.block k hk⟩ (by simp)
        obtain ⟨w7, hup, m7, hg7⟩ := oW.update keyed3 Try.underlying75 (by decide) (key3 hI) (R := ptrR) (val := .pointer (some ⟨f', 0, none⟩)) (ptrR_some f')
        have szW := hbW.size
        have hlow := ownw.lt
        have rg7 : w7.ranges Try.prog 3 ptrR m (w.heap.size + 2) 1 (D1 x (.lit (.int .u64 (f : Int)))) (fun z => Maps.has (D1 x (.lit (.int .u64 (f : Int)))) z && !z.sameKey (.int .i64 x)) cnt6 :=
          (hrg6.kept (row := none) ⟨hbW.os, hbW.tape, hbW.output, hbW.size, fun k hk _ => hbW.block k hk⟩ (by simp) (by simp)).kept hg7 (fun e => by injection e with e; omega) (fun e => by injection e with e; omega)
        have k7 : ∀ k, k < W.heap.size → k ≠ w.heap.size + 1 → w7.heap[k]? = W.heap[k]? := fun k hk hne => hg7.block k hk (fun e => by injection e with e; omega)
        have c7 : Dk w7 w.heap.size (.map (some (w.heap.size + 1))) sec used ch (.slice none 0 0) false := (k7 _ (by omega) (by omega)).trans ((hbW.block _ (lt_of_row hc6)).trans hc6)
        have b7 : Below w.heap.size w w7 := (b6.trans (hbW.mono b6.size)).trans ⟨hg7.os, hg7.tape, hg7.output, hg7.size, fun k hk => k7 k (by omega) (by omega)⟩
        have F7 : Fl w7 f' v 0 (.map none) := (k7 _ (lt_of_row Fw) (by omega)).trans Fw
        have own7 : w7.ownsRow w6.heap.size 5 1 v nb xs := own_kept ownw (fun g hg => k7 g (hlow g hg).2 (by have := (hlow g hg).1; omega))
        have hs7 := hg7.size
        go_wp2
        go_roundw
        case rel =>
          refine ⟨_, cnt6, rg7, c7, b7, by omega, Or.inr ⟨fun kl => ?_, f', v, by omega, m7, F7, ⟨own7.1, ?_⟩, hvf⟩⟩
          · by_cases he : kl = .int .i64 x
            · subst he
              simp [Lit.sameKey]
            · rw [D1_no he]; rfl
          · rcases own7.2 with e1 | ⟨g, cap, cur, e1, e2, e3⟩
            · exact Or.inl e1
            · exact Or.inr ⟨g, cap, cur, e1, by omega, e3⟩
        case measure => rw [rg7.left_eq, hrg.left_eq]; exact hlt
end Go.Proofs.Yteanjgfhkfkjbaa
