/- plan.ownValue: of a value without parts. plan.each over expressions, with own: as many as there were. plan.own: of any expression. plan.Parts: how many. What expressions that were parsed look like: their literals, their fields' texts, how many parts. -/
import Derived.Test.YtfemippjaokcmaaGreatDoorXba
import Derived.Deep.RegionLaw
import Derived.Test.YtfemippjaokcmaaGreatDoorXap
namespace Go.Proofs.YtfemippjaokcmaaGreatDoor
open Go.RowKit Go.Shelf
attribute [local go_sem] Oper.semAt_some fw0 fw1 fw2
set_option maxRecDepth 100000 in
theorem each_none90 (w : World) : Calls Tryz.prog 90 #[.slice none 0 0, .func (.func 60) #[] #[]] w fun e w' => e = .returned (.slice none 0 0) ∧ w' = w := by
  go_enter Tryz.func90, Tryz.ntmps90
  go_wp2_with fail
  go_loopw [5, 10] (fun c5 c10 wr => c5 = .slice none 0 0 ∧ c10 = .int .i64 0 ∧ wr = w) (fun _ _ _ => 0)
  case atStart => exact ⟨rfl, rfl, rfl⟩
  case round =>
    obtain ⟨rfl, rfl, rfl⟩ := hrel
    go_wp2
    go_ret
    exact ⟨rfl, rfl⟩
set_option maxRecDepth 100000 in
set_option maxHeartbeats 4000000 in
theorem own_value (vk : Int) (vb : Bool) (vn : Int) (vs : ByteArray) (w : World) : Calls Tryz.prog 60 #[.agg #[.int .i64 vk, .bool vb, .int .i64 vn, .string vs, .slice none 0 0, .slice none 0 0]] w fun e w' => e = .returned (.agg #[.int .i64 vk, .bool vb, .int .i64 vn, .string vs, .slice none 0 0, .slice none 0 0]) ∧ Below w.heap.size w w' := by
  obtain ⟨w2, hw2⟩ : ∃ u, (w.alloc (.cells #[.int .i64 vk, .bool vb, .int .i64 vn, .string vs, .slice none 0 0, .slice none 0 0] 25)).alloc (.cells #[.int .i64 0, .bool false, .int .i64 0, .string ⟨#[]⟩, .slice none 0 0, .slice none 0 0] 25) = u := ⟨_, rfl⟩
  obtain ⟨r0, r1, bw⟩ := alloc2 hw2
  have HW := mkHid hw2
  obtain ⟨bx, hbx⟩ : ∃ z, w.heap.size = z := ⟨_, rfl⟩
  obtain ⟨bz, hbz⟩ : ∃ z, bx + 1 = z := ⟨_, rfl⟩
  rw [hbx] at r0 r1 bw
  rw [hbz] at r1
  have cx4 := cell_of_row w2 _ 4 _ _ _ r0
  have fx4 := frozen_of_row w2 _ 4 _ _ r0
  have cx5 := cell_of_row w2 _ 5 _ _ _ r0
  have fx5 := frozen_of_row w2 _ 5 _ _ r0
  have HB : Hid (Below bx w w2 ∧ w2.heap[bx]? = some (.cells #[.int .i64 vk, .bool vb, .int .i64 vn, .string vs, .slice none 0 0, .slice none 0 0] 25 (0, 0)) ∧ w2.heap[bz]? = some (.cells #[.int .i64 0, .bool false, .int .i64 0, .string ⟨#[]⟩, .slice none 0 0, .slice none 0 0] 25 (0, 0)) ∧ bx < bz) := ⟨bw, r0, r1, by omega⟩
  obtain ⟨X, hX⟩ : ∃ X, ((w2.setCell ⟨bx, 4, none⟩ (.slice none 0 0)).setCell ⟨bx, 5, none⟩ (.slice none 0 0)) = X := ⟨_, rfl⟩
  have HX := mkHid hX
  have q0 : X.heap[bx]? = some (.cells #[.int .i64 vk, .bool vb, .int .i64 vn, .string vs, .slice none 0 0, .slice none 0 0] 25 (0, 0)) := by rw [← hX]; exact row_setCell (k := 5) (row_setCell (k := 4) r0 (.slice none 0 0)) (.slice none 0 0)
  have q1 : X.heap[bz]? = some (.cells #[.int .i64 0, .bool false, .int .i64 0, .string ⟨#[]⟩, .slice none 0 0, .slice none 0 0] 25 (0, 0)) := by rw [← hX]; exact (Below.heap_setCell _ _ _ bz (by show bz ≠ bx; omega)).trans ((Below.heap_setCell _ _ _ bz (by show bz ≠ bx; omega)).trans r1)
  have qb : Below bx w X := by rw [← hX]; exact (bw.setCell (p := ⟨bx, 4, none⟩) (Nat.le_refl bx) _).setCell (p := ⟨bx, 5, none⟩) (Nat.le_refl bx) _
  have HQ : Hid (X.drew.heap[bx]? = some (.cells #[.int .i64 vk, .bool vb, .int .i64 vn, .string vs, .slice none 0 0, .slice none 0 0] 25 (0, 0)) ∧ X.drew.heap[bz]? = some (.cells #[.int .i64 0, .bool false, .int .i64 0, .string ⟨#[]⟩, .slice none 0 0, .slice none 0 0] 25 (0, 0)) ∧ Below bx w X.drew) := ⟨q0, q1, qb.drew⟩
  clear hw2 r0 r1 bw hX q0 q1 qb
  go_enter Tryz.func60, Tryz.ntmps60
  go_wp2_with (first | rw [HW.out] | rw [hbx] | rw [hbz] | fail)
  go_region_law (first | (go_simp; go_at_call 90; refine (each_none90 _).mono ?_; rintro e w3 ⟨rfl, rfl⟩; dsimp only) | (go_simp; go_at_call 61; refine (Tryz.slices_Clone_string_nil 0 0 _).mono ?_; rintro e w3 ⟨rfl, rfl⟩; dsimp only))
  all_goals
    rw [HX.out]
    obtain ⟨Y, hY⟩ : ∃ Y, X.drew = Y := ⟨_, rfl⟩
    have hq := HQ.out
    rw [hY] at hq ⊢
    obtain ⟨q0, q1, qb⟩ := hq
    have y0 := cell_of_row Y _ 0 _ _ _ q0
    have y1 := cell_of_row Y _ 1 _ _ _ q0
    have y2 := cell_of_row Y _ 2 _ _ _ q0
    have y3 := cell_of_row Y _ 3 _ _ _ q0
    have y4 := cell_of_row Y _ 4 _ _ _ q0
    have y5 := cell_of_row Y _ 5 _ _ _ q0
    clear hY
    go_wp2_with (first | (refine wpList_put rfl 25 (.tmp 2) (.tmp 11) rfl rfl rfl rfl q1 rfl info25s (by simp [Value.oneCell']) ?_) | fail)
    have hro : (put Y bz #[.int .i64 vk, .bool vb, .int .i64 vn, .string vs, .slice none 0 0, .slice none 0 0]).heap[bz]? = some (.cells #[.int .i64 vk, .bool vb, .int .i64 vn, .string vs, .slice none 0 0, .slice none 0 0] 25 (0, 0)) := put_row _ q1 rfl
    have hbf : Below bx w (put Y bz #[.int .i64 vk, .bool vb, .int .i64 vn, .string vs, .slice none 0 0, .slice none 0 0]) := put_below qb bz (by have := HB.out.2.2.2; omega) _
    obtain ⟨wf, hwf⟩ : ∃ wf, put Y bz #[.int .i64 vk, .bool vb, .int .i64 vn, .string vs, .slice none 0 0, .slice none 0 0] = wf := ⟨_, rfl⟩
    rw [hwf] at hro hbf ⊢
    clear hwf
    obtain ⟨o0, o1, o2, o3, o4, o5⟩ := res33 hro
    exact bodyPost_ret (v := .agg #[.int .i64 vk, .bool vb, .int .i64 vn, .string vs, .slice none 0 0, .slice none 0 0]) (by simp [results, Tryz.results60, go_sem, o0, o1, o2, o3, o4, o5]) rfl ⟨rfl, by rw [hbx]; exact hbf⟩
end Go.Proofs.YtfemippjaokcmaaGreatDoor
namespace Go.Proofs.YtfemippjaokcmaaGreatDoor
open Go.RowKit Go.Shelf
attribute [local go_sem] Oper.semAt_some fw0 fw1 fw2
def GivesOwn (W : World) (e : Ending) (W' : World) : Prop := ∃ R : XR, e = .returned (rowX R) ∧ Below W.heap.size W W'
def GivesN (W : World) (n : Nat) (e : Ending) (W' : World) : Prop := ∃ p c, e = .returned (.slice p n c) ∧ Below W.heap.size W W'
set_option maxRecDepth 100000 in
set_option maxHeartbeats 8000000 in
theorem each_own {W : World} {pp : Option Addr} {n cp : Nat} (hn1 : n ≤ 100000) (hcap : n ≤ cp ∧ cp ≤ maxLen)
    (hlie : 0 < n → ∃ g o, pp = some ⟨g, o, none⟩ ∧ g < W.heap.size ∧ ∀ i, i < n → ∃ R : XR, (∀ j, j < 10 → W.cell? ⟨g, o + i * 10 + j, none⟩ = (arrX R)[j]?) ∧ ∀ W', Below W.heap.size W W' → Calls Tryz.prog 35 #[rowX R] W' (GivesOwn W')) :
    Calls Tryz.prog 34 #[.slice pp n cp, .func (.func 35) #[] #[]] W (GivesN W n) := by
  obtain ⟨i0, hi, hz0, hz1, hz2⟩ := info_parts info28c
  have HL := mkHid hlie
  clear hlie
  go_enter Tryz.func34, Tryz.ntmps34
  go_wp2_with fail
  go_loopw [5, 10] (fun c5 c10 wr => ∃ (i : Nat) (L : List Value), i ≤ n ∧ c10 = .int .i64 (i : Int) ∧ Hid (wr.ownsRow W.heap.size 28 10 c5 i L ∧ Below W.heap.size W wr)) (fun _ c10 _ => n - (intOf c10).toNat)
  case atStart =>
    refine ⟨0, [], Nat.zero_le _, rfl, ?_⟩
    have hh : W.ownsRow W.heap.size 28 10 (.slice none 0 0) 0 [] ∧ Below W.heap.size W W := ⟨World.ownsRow_nil _ _ _ _, Below.refl _ _⟩
    exact hh
  case round =>
    obtain ⟨i, L5, hi0, rfl, hh⟩ := hrel
    obtain ⟨hown5, hb⟩ := hh.out
    obtain ⟨q5, k5, rfl⟩ := own_len hown5
    by_cases hin : i < n
    · obtain ⟨g, o, hv, hgl, hc⟩ := HL.out (by omega)
      obtain ⟨R, hcs, kx⟩ := hc i hin
      subst hv
      obtain ⟨k, s, vk, vb, vn, vs, kp, nk, kc, np, nm, nc⟩ := R
      have hin' : (i : Int) < (n : Int) := by omega
      have a0 : wr.cell? ⟨g, o + i * 10, none⟩ = some (.int .i64 k) := (World.cell?_of_block (a := ⟨g, o + i * 10, none⟩) (hb.block g hgl)).trans (hcs 0 (by decide))
      have a1 : wr.cell? ⟨g, o + i * 10 + 1, none⟩ = some (.string s) := (World.cell?_of_block (a := ⟨g, o + i * 10 + 1, none⟩) (hb.block g hgl)).trans (hcs 1 (by decide))
      have a2 : wr.cell? ⟨g, o + i * 10 + 2, none⟩ = some (.int .i64 vk) := (World.cell?_of_block (a := ⟨g, o + i * 10 + 2, none⟩) (hb.block g hgl)).trans (hcs 2 (by decide))
      have a3 : wr.cell? ⟨g, o + i * 10 + 3, none⟩ = some (.bool vb) := (World.cell?_of_block (a := ⟨g, o + i * 10 + 3, none⟩) (hb.block g hgl)).trans (hcs 3 (by decide))
      have a4 : wr.cell? ⟨g, o + i * 10 + 4, none⟩ = some (.int .i64 vn) := (World.cell?_of_block (a := ⟨g, o + i * 10 + 4, none⟩) (hb.block g hgl)).trans (hcs 4 (by decide))
      have a5 : wr.cell? ⟨g, o + i * 10 + 5, none⟩ = some (.string vs) := (World.cell?_of_block (a := ⟨g, o + i * 10 + 5, none⟩) (hb.block g hgl)).trans (hcs 5 (by decide))
      have a6 : wr.cell? ⟨g, o + i * 10 + 6, none⟩ = some (.slice none 0 0) := (World.cell?_of_block (a := ⟨g, o + i * 10 + 6, none⟩) (hb.block g hgl)).trans (hcs 6 (by decide))
      have a7 : wr.cell? ⟨g, o + i * 10 + 7, none⟩ = some (.slice none 0 0) := (World.cell?_of_block (a := ⟨g, o + i * 10 + 7, none⟩) (hb.block g hgl)).trans (hcs 7 (by decide))
      have a8 : wr.cell? ⟨g, o + i * 10 + 8, none⟩ = some (.slice kp nk kc) := (World.cell?_of_block (a := ⟨g, o + i * 10 + 8, none⟩) (hb.block g hgl)).trans (hcs 8 (by decide))
      have a9 : wr.cell? ⟨g, o + i * 10 + 9, none⟩ = some (.slice np nm nc) := (World.cell?_of_block (a := ⟨g, o + i * 10 + 9, none⟩) (hb.block g hgl)).trans (hcs 9 (by decide))
      have hsz := hb.size
      obtain ⟨W1, hW1⟩ : ∃ u, wr.alloc (.cells #[.int .i64 k, .string s, .int .i64 vk, .bool vb, .int .i64 vn, .string vs, .slice none 0 0, .slice none 0 0, .slice kp nk kc, .slice np nm nc] 28) = u := ⟨_, rfl⟩
      obtain ⟨r1, bw1⟩ := alloc1 hW1
      have HW1 := mkHid hW1
      have hbA : Below W.heap.size W W1 := hb.trans (bw1.mono hsz)
      have kx := kx W1 hbA
      have cx0 := cell_of_row W1 _ 0 _ _ _ r1
      have cx1 := cell_of_row W1 _ 1 _ _ _ r1
      have cx2 := cell_of_row W1 _ 2 _ _ _ r1
      have cx3 := cell_of_row W1 _ 3 _ _ _ r1
      have cx4 := cell_of_row W1 _ 4 _ _ _ r1
      have cx5 := cell_of_row W1 _ 5 _ _ _ r1
      have cx6 := cell_of_row W1 _ 6 _ _ _ r1
      have cx7 := cell_of_row W1 _ 7 _ _ _ r1
      have cx8 := cell_of_row W1 _ 8 _ _ _ r1
      have cx9 := cell_of_row W1 _ 9 _ _ _ r1
      have hown1 : W1.ownsRow W.heap.size 28 10 (.slice q5 i k5) i L5 := by rw [← hW1]; exact hown5.alloc _
      have HH : Hid (Below W.heap.size W W1) := hbA
      clear hh hcs hc hW1 r1 bw1 hbA hb hown5 hgl
      go_wp2_with (first | rw [HW1.out] | fail)
      refine kx.mono ?_
      rintro e W2 ⟨R2, rfl, hb2⟩
      obtain ⟨k2, s2, vk2, vb2, vn2, vs2, kp2, nk2, kc2, np2, nm2, nc2⟩ := R2
      have hown2 : W2.ownsRow W.heap.size 28 10 (.slice q5 i k5) i L5 := own_lat hown1 hb2
      have H2 : Hid (Below W.heap.size W W2) := HH.out.trans (hb2.mono HH.out.size)
      have hz2w : W.heap.size ≤ W2.heap.size := H2.out.size
      dsimp only [rowX]
      clear kx hown1 hb2 a0 cx0 a1 cx1 a2 cx2 a3 cx3 a4 cx4 a5 cx5 a6 cx6 a7 cx7 a8 cx8 a9 cx9
      go_wp2_with (first | (at_builtin; refine wpList_append_own_at _ rfl _ _ 26 rfl W.heap.size 28 i0 (.agg #[.int .i64 0, .string ⟨#[]⟩, .int .i64 0, .bool false, .int .i64 0, .string ⟨#[]⟩, .slice none 0 0, .slice none 0 0, .slice none 0 0, .slice none 0 0]) 10 160 Tryz.underlying26 hi hz0 hz1 hz2 rfl (by decide) _ _ _ rfl (hown2.alloc _) ⟨W2.heap.size, 0, none⟩ 1 1 [.int .i64 k2, .string s2, .int .i64 vk2, .bool vb2, .int .i64 vn2, .string vs2, .slice none 0 0, .slice none 0 0, .slice kp2 nk2 kc2, .slice np2 nm2 nc2] rfl rfl ?c1 ?c2 ?c3 ?c4 ?c5 ?_) | fail)
      case c1 => exact World.news_of_block (heap_alloc_new W2 _)
      case c2 => intro u hu; simp at hu; rcases hu with rfl | rfl | rfl | rfl | rfl | rfl | rfl | rfl | rfl <;> rfl
      case c3 => unfold maxLen; omega
      case c4 => omega
      case c5 => simp; omega
      intro v' w5 hown5 hgr5 _ hat5
      obtain ⟨q6, k6, rfl⟩ := own_len hown5
      have HF : Hid (w5.ownsRow W.heap.size 28 10 (.slice q6 (i + 1) k6) (i + 1) (L5 ++ [.int .i64 k2, .string s2, .int .i64 vk2, .bool vb2, .int .i64 vn2, .string vs2, .slice none 0 0, .slice none 0 0, .slice kp2 nk2 kc2, .slice np2 nm2 nc2]) ∧ Below W.heap.size W w5) := by
        have hbA : Below W2.heap.size W2 (W2.alloc (.cells #[.int .i64 k2, .string s2, .int .i64 vk2, .bool vb2, .int .i64 vn2, .string vs2, .slice none 0 0, .slice none 0 0, .slice kp2 nk2 kc2, .slice np2 nm2 nc2] 28)) := (Below.refl _ W2).alloc (Nat.le_refl _) _
        have hbW := H2.out.trans (hbA.mono H2.out.size)
        exact ⟨hown5, below_grown hbW hgr5 (fun k hk => (hown2.lt k hk).1)⟩
      clear hown2 hown5 hgr5 hat5
      go_wp2
      go_roundw
      case rel => exact ⟨i + 1, _, by omega, by go_num, HF⟩
      case measure => simp [intOf]; omega
    · obtain rfl : i = n := by omega
      have HF : Hid (Below W.heap.size W wr) := hb
      clear hh hown5 hb
      go_wp2
      go_ret
      exact ⟨_, _, rfl, HF.out⟩
end Go.Proofs.YtfemippjaokcmaaGreatDoor
namespace Go.Proofs.YtfemippjaokcmaaGreatDoor
open Go.RowKit Go.Shelf
attribute [local go_sem] Oper.semAt_some fw0 fw1 fw2
def GivesNs (W : World) (m : Nat) (e : Ending) (W' : World) : Prop := ∃ p c, e = .returned (.slice p m c) ∧ Below W.heap.size W W'
theorem clone_names {w : World} {S : Nat → Prop} {np : Option Addr} {m nc : Nat} {g : Nat → ByteArray} (h : Nms w S np m nc g) (hm : m ≤ 100000) : Calls Tryz.prog 61 #[.slice np m nc] w (GivesNs w m) := by
  rcases np with _ | a
  · have h0 : m = 0 := by
      rcases Nat.eq_zero_or_pos m with h0 | h0
      · exact h0
      · obtain ⟨b, o, e, -⟩ := h.lies h0
        cases e
    subst h0
    refine (Tryz.slices_Clone_string_nil 0 nc w).mono ?_
    rintro e w' ⟨rfl, rfl⟩
    exact ⟨none, 0, rfl, Below.refl _ _⟩
  · rcases Nat.eq_zero_or_pos m with h0 | h0
    · subst h0
      refine (Tryz.slices_Clone_string_zero a nc w).mono ?_
      rintro e w' ⟨v', rfl, ho, -, hb⟩
      obtain ⟨q, k, rfl⟩ := own_len ho
      exact ⟨q, k, rfl, hb⟩
    · obtain ⟨b, o, e, -, -, hc⟩ := h.lies h0
      injection e with e
      subst e
      refine (Tryz.slices_Clone_string b o m nc ((List.range m).map g) w (by simp) (by omega) (fun j hj => ?_)).mono ?_
      · have hj' : j < m := by simpa using hj
        rw [hc j hj', List.getD_eq_getElem?_getD, List.getElem?_map, List.getElem?_range hj']
        rfl
      · rintro e w' ⟨v', rfl, ho, -, hb⟩
        obtain ⟨q, k, rfl⟩ := own_len ho
        exact ⟨q, k, rfl, hb⟩
/- How many parts and names: not too many. -/
def cntE : Nat → Et → Prop
  | 0, _ => True
  | d + 1, t => (t []).n ≤ 100000 ∧ (t []).m ≤ 100000 ∧ ∀ i, i < (t []).n → cntE d (t.sub i)
def OwnC (d : Nat) : Prop := ∀ (t : Et) (R : XR) (base : Nat) (W : World), LiesE W (fun k => k < base) d t (rowX R) → cntE d t → Calls Tryz.prog 35 #[rowX R] W (GivesOwn W)
theorem info28s : (Tryz.prog.info? 28).map (·.size) = some 10 := by kernel_rfl
theorem own_nest {k : Int} {s : ByteArray} {vk : Int} {vb : Bool} {vn : Int} {vs : ByteArray} {kp : Option Addr} {nk kc : Nat} {np : Option Addr} {nm nc : Nat} {w w5 : World} {bx bz : Nat} (r5 : w5.heap[bx]? = some (.cells #[.int .i64 k, .string s, .int .i64 vk, .bool vb, .int .i64 vn, .string vs, .slice none 0 0, .slice none 0 0, .slice kp nk kc, .slice np nm nc] 28 (0, 0))) (z5 : w5.heap[bz]? = some (.cells #[.int .i64 0, .string ⟨#[]⟩, .int .i64 0, .bool false, .int .i64 0, .string ⟨#[]⟩, .slice none 0 0, .slice none 0 0, .slice none 0 0, .slice none 0 0] 28 (0, 0))) (b5 : Below bx w w5) (hlt : bx < bz) (kp1 : Option Addr) (kc1 : Nat) (np1 : Option Addr) (nc1 : Nat) :
    ∃ Y, ((((((((w5.setCell ⟨bx, 2, none⟩ (.int .i64 vk)).setCell ⟨bx, 3, none⟩ (.bool vb)).setCell ⟨bx, 4, none⟩ (.int .i64 vn)).setCell ⟨bx, 5, none⟩ (.string vs)).setCell ⟨bx, 6, none⟩ (.slice none 0 0)).setCell ⟨bx, 7, none⟩ (.slice none 0 0)).setCell ⟨bx, 8, none⟩ (.slice kp1 nk kc1)).setCell ⟨bx, 9, none⟩ (.slice np1 nm nc1)) = Y ∧ Y.heap[bx]? = some (.cells #[.int .i64 k, .string s, .int .i64 vk, .bool vb, .int .i64 vn, .string vs, .slice none 0 0, .slice none 0 0, .slice kp1 nk kc1, .slice np1 nm nc1] 28 (0, 0)) ∧ Y.heap[bz]? = some (.cells #[.int .i64 0, .string ⟨#[]⟩, .int .i64 0, .bool false, .int .i64 0, .string ⟨#[]⟩, .slice none 0 0, .slice none 0 0, .slice none 0 0, .slice none 0 0] 28 (0, 0)) ∧ Below bx w Y := by
  obtain ⟨w_2, h_2⟩ : ∃ x, w5.setCell ⟨bx, 2, none⟩ (.int .i64 vk) = x := ⟨_, rfl⟩
  have r_2 : w_2.heap[bx]? = some (.cells #[.int .i64 k, .string s, .int .i64 vk, .bool vb, .int .i64 vn, .string vs, .slice none 0 0, .slice none 0 0, .slice kp nk kc, .slice np nm nc] 28 (0, 0)) := by rw [← h_2]; exact row_setCell (k := 2) r5 (.int .i64 vk)
  have z_2 : w_2.heap[bz]? = some (.cells #[.int .i64 0, .string ⟨#[]⟩, .int .i64 0, .bool false, .int .i64 0, .string ⟨#[]⟩, .slice none 0 0, .slice none 0 0, .slice none 0 0, .slice none 0 0] 28 (0, 0)) := by rw [← h_2]; exact (Below.heap_setCell _ _ _ bz (by show bz ≠ bx; omega)).trans z5
  have b_2 : Below bx w w_2 := by rw [← h_2]; exact b5.setCell (p := ⟨bx, 2, none⟩) (Nat.le_refl bx) _
  obtain ⟨w_3, h_3⟩ : ∃ x, w_2.setCell ⟨bx, 3, none⟩ (.bool vb) = x := ⟨_, rfl⟩
  have r_3 : w_3.heap[bx]? = some (.cells #[.int .i64 k, .string s, .int .i64 vk, .bool vb, .int .i64 vn, .string vs, .slice none 0 0, .slice none 0 0, .slice kp nk kc, .slice np nm nc] 28 (0, 0)) := by rw [← h_3]; exact row_setCell (k := 3) r_2 (.bool vb)
  have z_3 : w_3.heap[bz]? = some (.cells #[.int .i64 0, .string ⟨#[]⟩, .int .i64 0, .bool false, .int .i64 0, .string ⟨#[]⟩, .slice none 0 0, .slice none 0 0, .slice none 0 0, .slice none 0 0] 28 (0, 0)) := by rw [← h_3]; exact (Below.heap_setCell _ _ _ bz (by show bz ≠ bx; omega)).trans z_2
  have b_3 : Below bx w w_3 := by rw [← h_3]; exact b_2.setCell (p := ⟨bx, 3, none⟩) (Nat.le_refl bx) _
  obtain ⟨w_4, h_4⟩ : ∃ x, w_3.setCell ⟨bx, 4, none⟩ (.int .i64 vn) = x := ⟨_, rfl⟩
  have r_4 : w_4.heap[bx]? = some (.cells #[.int .i64 k, .string s, .int .i64 vk, .bool vb, .int .i64 vn, .string vs, .slice none 0 0, .slice none 0 0, .slice kp nk kc, .slice np nm nc] 28 (0, 0)) := by rw [← h_4]; exact row_setCell (k := 4) r_3 (.int .i64 vn)
  have z_4 : w_4.heap[bz]? = some (.cells #[.int .i64 0, .string ⟨#[]⟩, .int .i64 0, .bool false, .int .i64 0, .string ⟨#[]⟩, .slice none 0 0, .slice none 0 0, .slice none 0 0, .slice none 0 0] 28 (0, 0)) := by rw [← h_4]; exact (Below.heap_setCell _ _ _ bz (by show bz ≠ bx; omega)).trans z_3
  have b_4 : Below bx w w_4 := by rw [← h_4]; exact b_3.setCell (p := ⟨bx, 4, none⟩) (Nat.le_refl bx) _
  obtain ⟨w_5, h_5⟩ : ∃ x, w_4.setCell ⟨bx, 5, none⟩ (.string vs) = x := ⟨_, rfl⟩
  have r_5 : w_5.heap[bx]? = some (.cells #[.int .i64 k, .string s, .int .i64 vk, .bool vb, .int .i64 vn, .string vs, .slice none 0 0, .slice none 0 0, .slice kp nk kc, .slice np nm nc] 28 (0, 0)) := by rw [← h_5]; exact row_setCell (k := 5) r_4 (.string vs)
  have z_5 : w_5.heap[bz]? = some (.cells #[.int .i64 0, .string ⟨#[]⟩, .int .i64 0, .bool false, .int .i64 0, .string ⟨#[]⟩, .slice none 0 0, .slice none 0 0, .slice none 0 0, .slice none 0 0] 28 (0, 0)) := by rw [← h_5]; exact (Below.heap_setCell _ _ _ bz (by show bz ≠ bx; omega)).trans z_4
  have b_5 : Below bx w w_5 := by rw [← h_5]; exact b_4.setCell (p := ⟨bx, 5, none⟩) (Nat.le_refl bx) _
  obtain ⟨w_6, h_6⟩ : ∃ x, w_5.setCell ⟨bx, 6, none⟩ (.slice none 0 0) = x := ⟨_, rfl⟩
  have r_6 : w_6.heap[bx]? = some (.cells #[.int .i64 k, .string s, .int .i64 vk, .bool vb, .int .i64 vn, .string vs, .slice none 0 0, .slice none 0 0, .slice kp nk kc, .slice np nm nc] 28 (0, 0)) := by rw [← h_6]; exact row_setCell (k := 6) r_5 (.slice none 0 0)
  have z_6 : w_6.heap[bz]? = some (.cells #[.int .i64 0, .string ⟨#[]⟩, .int .i64 0, .bool false, .int .i64 0, .string ⟨#[]⟩, .slice none 0 0, .slice none 0 0, .slice none 0 0, .slice none 0 0] 28 (0, 0)) := by rw [← h_6]; exact (Below.heap_setCell _ _ _ bz (by show bz ≠ bx; omega)).trans z_5
  have b_6 : Below bx w w_6 := by rw [← h_6]; exact b_5.setCell (p := ⟨bx, 6, none⟩) (Nat.le_refl bx) _
  obtain ⟨w_7, h_7⟩ : ∃ x, w_6.setCell ⟨bx, 7, none⟩ (.slice none 0 0) = x := ⟨_, rfl⟩
  have r_7 : w_7.heap[bx]? = some (.cells #[.int .i64 k, .string s, .int .i64 vk, .bool vb, .int .i64 vn, .string vs, .slice none 0 0, .slice none 0 0, .slice kp nk kc, .slice np nm nc] 28 (0, 0)) := by rw [← h_7]; exact row_setCell (k := 7) r_6 (.slice none 0 0)
  have z_7 : w_7.heap[bz]? = some (.cells #[.int .i64 0, .string ⟨#[]⟩, .int .i64 0, .bool false, .int .i64 0, .string ⟨#[]⟩, .slice none 0 0, .slice none 0 0, .slice none 0 0, .slice none 0 0] 28 (0, 0)) := by rw [← h_7]; exact (Below.heap_setCell _ _ _ bz (by show bz ≠ bx; omega)).trans z_6
  have b_7 : Below bx w w_7 := by rw [← h_7]; exact b_6.setCell (p := ⟨bx, 7, none⟩) (Nat.le_refl bx) _
  obtain ⟨w_8, h_8⟩ : ∃ x, w_7.setCell ⟨bx, 8, none⟩ (.slice kp1 nk kc1) = x := ⟨_, rfl⟩
  have r_8 : w_8.heap[bx]? = some (.cells #[.int .i64 k, .string s, .int .i64 vk, .bool vb, .int .i64 vn, .string vs, .slice none 0 0, .slice none 0 0, .slice kp1 nk kc1, .slice np nm nc] 28 (0, 0)) := by rw [← h_8]; exact row_setCell (k := 8) r_7 (.slice kp1 nk kc1)
  have z_8 : w_8.heap[bz]? = some (.cells #[.int .i64 0, .string ⟨#[]⟩, .int .i64 0, .bool false, .int .i64 0, .string ⟨#[]⟩, .slice none 0 0, .slice none 0 0, .slice none 0 0, .slice none 0 0] 28 (0, 0)) := by rw [← h_8]; exact (Below.heap_setCell _ _ _ bz (by show bz ≠ bx; omega)).trans z_7
  have b_8 : Below bx w w_8 := by rw [← h_8]; exact b_7.setCell (p := ⟨bx, 8, none⟩) (Nat.le_refl bx) _
  obtain ⟨w_9, h_9⟩ : ∃ x, w_8.setCell ⟨bx, 9, none⟩ (.slice np1 nm nc1) = x := ⟨_, rfl⟩
  have r_9 : w_9.heap[bx]? = some (.cells #[.int .i64 k, .string s, .int .i64 vk, .bool vb, .int .i64 vn, .string vs, .slice none 0 0, .slice none 0 0, .slice kp1 nk kc1, .slice np1 nm nc1] 28 (0, 0)) := by rw [← h_9]; exact row_setCell (k := 9) r_8 (.slice np1 nm nc1)
  have z_9 : w_9.heap[bz]? = some (.cells #[.int .i64 0, .string ⟨#[]⟩, .int .i64 0, .bool false, .int .i64 0, .string ⟨#[]⟩, .slice none 0 0, .slice none 0 0, .slice none 0 0, .slice none 0 0] 28 (0, 0)) := by rw [← h_9]; exact (Below.heap_setCell _ _ _ bz (by show bz ≠ bx; omega)).trans z_8
  have b_9 : Below bx w w_9 := by rw [← h_9]; exact b_8.setCell (p := ⟨bx, 9, none⟩) (Nat.le_refl bx) _
  exact ⟨w_9, by rw [h_2, h_3, h_4, h_5, h_6, h_7, h_8, h_9], r_9, z_9, b_9⟩
set_option maxRecDepth 100000 in
set_option maxHeartbeats 4000000 in
theorem own_tail {k : Int} {s : ByteArray} {vk : Int} {vb : Bool} {vn : Int} {vs : ByteArray} {kp1 : Option Addr} {nk kc1 : Nat} {np1 : Option Addr} {nm nc1 : Nat} {w Y : World} {bx bz : Nat} (hbx : w.heap.size = bx) (hlt : bx < bz) (q0 : Y.heap[bx]? = some (.cells #[.int .i64 k, .string s, .int .i64 vk, .bool vb, .int .i64 vn, .string vs, .slice none 0 0, .slice none 0 0, .slice kp1 nk kc1, .slice np1 nm nc1] 28 (0, 0))) (q1 : Y.heap[bz]? = some (.cells #[.int .i64 0, .string ⟨#[]⟩, .int .i64 0, .bool false, .int .i64 0, .string ⟨#[]⟩, .slice none 0 0, .slice none 0 0, .slice none 0 0, .slice none 0 0] 28 (0, 0))) (qb : Below bx w Y) (y0 y3 y4 y5 y6 y7 y8 y9 y10 y11 y12 y13 y14 y15 : Value) (cc : Code) (hcc : cutSe (cutSe Tryz.f35.body) = some cc) :
    Code.wp Tryz.prog cc (bodyPost Tryz.prog Tryz.f35 (GivesOwn w)) ⟨List.toArray (y0 :: .pointer (some ⟨bx, 0, none⟩) :: .pointer (some ⟨bz, 0, none⟩) :: y3 :: y4 :: y5 :: y6 :: y7 :: y8 :: y9 :: y10 :: y11 :: y12 :: y13 :: y14 :: y15 :: []), []⟩ Y := by
  obtain rfl := Option.some.inj ((show cutSe (cutSe Tryz.f35.body) = some _ from rfl).symm.trans hcc)
  clear hcc
  have y_0 := cell_of_row Y _ 0 _ _ _ q0
  have y_1 := cell_of_row Y _ 1 _ _ _ q0
  have y_2 := cell_of_row Y _ 2 _ _ _ q0
  have y_3 := cell_of_row Y _ 3 _ _ _ q0
  have y_4 := cell_of_row Y _ 4 _ _ _ q0
  have y_5 := cell_of_row Y _ 5 _ _ _ q0
  have y_6 := cell_of_row Y _ 6 _ _ _ q0
  have y_7 := cell_of_row Y _ 7 _ _ _ q0
  have y_8 := cell_of_row Y _ 8 _ _ _ q0
  have y_9 := cell_of_row Y _ 9 _ _ _ q0
  go_wp2_with (first | (refine wpList_put rfl 28 (.tmp 2) (.tmp 15) rfl rfl rfl rfl q1 rfl info28s (by simp [Value.oneCell']) ?_) | fail)
  have hro : (put Y bz #[.int .i64 k, .string s, .int .i64 vk, .bool vb, .int .i64 vn, .string vs, .slice none 0 0, .slice none 0 0, .slice kp1 nk kc1, .slice np1 nm nc1]).heap[bz]? = some (.cells #[.int .i64 k, .string s, .int .i64 vk, .bool vb, .int .i64 vn, .string vs, .slice none 0 0, .slice none 0 0, .slice kp1 nk kc1, .slice np1 nm nc1] 28 (0, 0)) := put_row _ q1 rfl
  have hbf : Below bx w (put Y bz #[.int .i64 k, .string s, .int .i64 vk, .bool vb, .int .i64 vn, .string vs, .slice none 0 0, .slice none 0 0, .slice kp1 nk kc1, .slice np1 nm nc1]) := put_below qb bz (by omega) _
  obtain ⟨wf, hwf⟩ : ∃ wf, put Y bz #[.int .i64 k, .string s, .int .i64 vk, .bool vb, .int .i64 vn, .string vs, .slice none 0 0, .slice none 0 0, .slice kp1 nk kc1, .slice np1 nm nc1] = wf := ⟨_, rfl⟩
  rw [hwf] at hro hbf ⊢
  clear hwf
  have o0 := cell_of_row wf _ 0 _ _ _ hro
  have o1 := cell_of_row wf _ 1 _ _ _ hro
  have o2 := cell_of_row wf _ 2 _ _ _ hro
  have o3 := cell_of_row wf _ 3 _ _ _ hro
  have o4 := cell_of_row wf _ 4 _ _ _ hro
  have o5 := cell_of_row wf _ 5 _ _ _ hro
  have o6 := cell_of_row wf _ 6 _ _ _ hro
  have o7 := cell_of_row wf _ 7 _ _ _ hro
  have o8 := cell_of_row wf _ 8 _ _ _ hro
  have o9 := cell_of_row wf _ 9 _ _ _ hro
  exact bodyPost_ret (v := .agg #[.int .i64 k, .string s, .int .i64 vk, .bool vb, .int .i64 vn, .string vs, .slice none 0 0, .slice none 0 0, .slice kp1 nk kc1, .slice np1 nm nc1]) (by simp [results, Tryz.results35, go_sem, o0, o1, o2, o3, o4, o5, o6, o7, o8, o9]) rfl ⟨⟨k, s, vk, vb, vn, vs, kp1, nk, kc1, np1, nm, nc1⟩, rfl, by rw [hbx]; exact hbf⟩
set_option maxRecDepth 100000 in
set_option maxHeartbeats 8000000 in
theorem own_walk {k : Int} {s : ByteArray} {vk : Int} {vb : Bool} {vn : Int} {vs : ByteArray} {kp : Option Addr} {nk kc : Nat} {np : Option Addr} {nm nc : Nat} {w : World}
    (ke : ∀ W, Below w.heap.size w W → Calls Tryz.prog 34 #[.slice kp nk kc, .func (.func 35) #[] #[]] W (GivesN W nk)) (kn : ∀ W, Below w.heap.size w W → Calls Tryz.prog 61 #[.slice np nm nc] W (GivesNs W nm)) :
    Calls Tryz.prog 35 #[.agg #[.int .i64 k, .string s, .int .i64 vk, .bool vb, .int .i64 vn, .string vs, .slice none 0 0, .slice none 0 0, .slice kp nk kc, .slice np nm nc]] w (GivesOwn w) := by
  obtain ⟨w2, hw2⟩ : ∃ u, (w.alloc (.cells #[.int .i64 k, .string s, .int .i64 vk, .bool vb, .int .i64 vn, .string vs, .slice none 0 0, .slice none 0 0, .slice kp nk kc, .slice np nm nc] 28)).alloc (.cells #[.int .i64 0, .string ⟨#[]⟩, .int .i64 0, .bool false, .int .i64 0, .string ⟨#[]⟩, .slice none 0 0, .slice none 0 0, .slice none 0 0, .slice none 0 0] 28) = u := ⟨_, rfl⟩
  obtain ⟨r0, r1, bw⟩ := alloc2 hw2
  have HW := mkHid hw2
  have hw2s : w2.heap.size = w.heap.size + 2 := by rw [← hw2]; simp
  obtain ⟨bx, hbx⟩ : ∃ z, w.heap.size = z := ⟨_, rfl⟩
  obtain ⟨bz, hbz⟩ : ∃ z, bx + 1 = z := ⟨_, rfl⟩
  rw [hbx] at r0 r1 bw ke kn hw2s
  rw [hbz] at r1
  have cx0 := cell_of_row w2 _ 0 _ _ _ r0
  have cx1 := cell_of_row w2 _ 1 _ _ _ r0
  have cx2 := cell_of_row w2 _ 2 _ _ _ r0
  have cx3 := cell_of_row w2 _ 3 _ _ _ r0
  have cx4 := cell_of_row w2 _ 4 _ _ _ r0
  have cx5 := cell_of_row w2 _ 5 _ _ _ r0
  have cx6 := cell_of_row w2 _ 6 _ _ _ r0
  have cx7 := cell_of_row w2 _ 7 _ _ _ r0
  have cx8 := cell_of_row w2 _ 8 _ _ _ r0
  have cx9 := cell_of_row w2 _ 9 _ _ _ r0
  have HB : Hid (Below bx w w2 ∧ w2.heap[bx]? = some (.cells #[.int .i64 k, .string s, .int .i64 vk, .bool vb, .int .i64 vn, .string vs, .slice none 0 0, .slice none 0 0, .slice kp nk kc, .slice np nm nc] 28 (0, 0)) ∧ w2.heap[bz]? = some (.cells #[.int .i64 0, .string ⟨#[]⟩, .int .i64 0, .bool false, .int .i64 0, .string ⟨#[]⟩, .slice none 0 0, .slice none 0 0, .slice none 0 0, .slice none 0 0] 28 (0, 0)) ∧ bx < bz ∧ w2.heap.size = bx + 2) := ⟨bw, r0, r1, by omega, hw2s⟩
  have KE := mkHid ke
  have KN := mkHid kn
  have hl0 : bx < w2.heap.size := by omega
  clear hw2 r0 r1 bw ke kn hw2s
  obtain ⟨cT, hcT⟩ : ∃ c, cutSe (cutSe Tryz.f35.body) = some c := ⟨_, rfl⟩
  have HC := mkHid hcT
  clear hcT
  go_enter Tryz.func35, Tryz.ntmps35
  have hE := seq2_of (b := Tryz.f35.body) rfl rfl rfl HC.out
  refine (congrArg (fun c => Code.wp Tryz.prog c _ _ _) hE).mpr ?_
  clear hE
  go_wp2_with (first | rw [HW.out] | rw [hbx] | rw [hbz] | fail)
  go_region_law (first | (go_simp; go_at_call 60; refine (own_value vk vb vn vs _).mono ?_; rintro e w3 ⟨rfl, hb3⟩; have hb3 : Below w2.heap.size w2 w3 := ⟨hb3.os, hb3.tape, hb3.output, hb3.size, hb3.block⟩; have r3 := Below.row hb3 HB.out.2.1; have ca8 := cell_of_row w3 _ 8 _ _ _ r3; have ca9 := cell_of_row w3 _ 9 _ _ _ r3; clear r3; dsimp only) | (go_simp; go_at_call 34; refine (KE.out w3 (HB.out.1.trans (hb3.mono (by omega)))).mono ?_; rintro e w4 ⟨kp1, kc1, rfl, hb4⟩; have r4 := Below.row hb4 (Below.row hb3 HB.out.2.1); have cb9 := cell_of_row w4 _ 9 _ _ _ r4; clear r4; dsimp only) | (go_simp; go_at_call 61; refine (KN.out w4 ((HB.out.1.trans (hb3.mono (by omega))).trans (hb4.mono (by have := hb3.size; omega)))).mono ?_; rintro e w5 ⟨np1, nc1, rfl, hb5⟩; have r5 := Below.row hb5 (Below.row hb4 (Below.row hb3 HB.out.2.1)); have cc0 := cell_of_row w5 _ 0 _ _ _ r5; have fc0 := frozen_of_row w5 _ 0 _ _ r5; have cc1 := cell_of_row w5 _ 1 _ _ _ r5; have fc1 := frozen_of_row w5 _ 1 _ _ r5; have cc2 := cell_of_row w5 _ 2 _ _ _ r5; have fc2 := frozen_of_row w5 _ 2 _ _ r5; have cc3 := cell_of_row w5 _ 3 _ _ _ r5; have fc3 := frozen_of_row w5 _ 3 _ _ r5; have cc4 := cell_of_row w5 _ 4 _ _ _ r5; have fc4 := frozen_of_row w5 _ 4 _ _ r5; have cc5 := cell_of_row w5 _ 5 _ _ _ r5; have fc5 := frozen_of_row w5 _ 5 _ _ r5; have cc6 := cell_of_row w5 _ 6 _ _ _ r5; have fc6 := frozen_of_row w5 _ 6 _ _ r5; have cc7 := cell_of_row w5 _ 7 _ _ _ r5; have fc7 := frozen_of_row w5 _ 7 _ _ r5; have cc8 := cell_of_row w5 _ 8 _ _ _ r5; have fc8 := frozen_of_row w5 _ 8 _ _ r5; have cc9 := cell_of_row w5 _ 9 _ _ _ r5; have fc9 := frozen_of_row w5 _ 9 _ _ r5; dsimp only))
  all_goals
    have b3 := HB.out.1.trans (hb3.mono (by omega))
    have b4 := b3.trans (hb4.mono (by have := hb3.size; omega))
    have b5 := b4.trans (hb5.mono (by have := hb3.size; have := hb4.size; omega))
    have z5 := Below.row hb5 (Below.row hb4 (Below.row hb3 HB.out.2.2.1))
    obtain ⟨Y, hY, q0, q1, qb⟩ := own_nest r5 z5 b5 HB.out.2.2.2.1 kp1 kc1 np1 nc1
    rw [hY]
    clear hY b3 b4 b5 z5 r5 cx0 cc0 fc0 cx1 cc1 fc1 cx2 cc2 fc2 cx3 cc3 fc3 cx4 cc4 fc4 cx5 cc5 fc5 cx6 cc6 fc6 cx7 cc7 fc7 cx8 cc8 fc8 cx9 cc9 fc9 ca8 ca9 cb9
    go_wp2_with fail
    exact own_tail hbx HB.out.2.2.2.1 q0 q1 qb _ _ _ _ _ _ _ _ _ _ _ _ _ _ cT HC.out
theorem own_any : ∀ d, OwnC d
  | 0 => fun _ _ _ _ hx _ => hx.elim
  | d + 1 => fun t R base W hx hc => by
    obtain ⟨kp, kc, np, nc, K, e, hN, hK, hk⟩ := hx
    obtain ⟨c1, c2, c3⟩ := hc
    rw [e]
    unfold enV
    refine own_walk (fun W1 hb => ?_) (fun W1 hb => clone_names (hN.since (Since.below hb)) c2)
    refine each_own c1 hK.cap (fun h0 => ?_)
    obtain ⟨b, o, h1, h2, h3, h4⟩ := (hK.since (Since.below hb)).lies h0
    refine ⟨b, o, h1, h3, fun i hi => ?_⟩
    have hkid := (hk i hi).since (Since.below hb)
    obtain ⟨R1, eR⟩ := hkid.row
    refine ⟨R1, fun j hj => ?_, fun W' hb' => ?_⟩
    · exact at10_of eR (fun j hj => h4 i hi j hj) j hj
    · rw [eR] at hkid
      exact own_any d (t.sub i) R1 base W' (hkid.since (Since.below hb')) (c3 i hi)
end Go.Proofs.YtfemippjaokcmaaGreatDoor
namespace Go.Proofs.YtfemippjaokcmaaGreatDoor
open Go.RowKit Go.Shelf
attribute [local go_sem] Oper.semAt_some fw0 fw1 fw2
def cntA (t : Et) : Prop := ∀ p, (t p).n ≤ 100000 ∧ (t p).m ≤ 100000
theorem cntA.sub {t : Et} (h : cntA t) (i : Nat) : cntA (t.sub i) := fun p => h (i :: p)
theorem cntA.all : ∀ (d : Nat) {t : Et}, cntA t → cntE d t
  | 0, _, _ => trivial
  | d + 1, _, h => ⟨(h []).1, (h []).2, fun i _ => cntA.all d (h.sub i)⟩
theorem cntA.parts : ∀ (d : Nat) {t : Et}, cntA t → ∀ x ∈ partsE d t, cntA x
  | 0, _, _, x, hx => by simp [partsE] at hx
  | d + 1, t, h, x, hx => by
    unfold partsE at hx
    split at hx
    · simp at hx
    · split at hx
      · rcases List.mem_append.1 hx with hx | hx
        · exact cntA.parts d (h.sub 0) x hx
        · exact cntA.parts d (h.sub 1) x hx
      · rw [List.mem_singleton] at hx
        subst hx
        exact h
set_option maxRecDepth 100000 in
set_option maxHeartbeats 4000000 in
theorem parts_len {d : Nat} {t : Et} {R : XR} {w : World} (hx : LiesE w (fun k => k < w.heap.size) d t (rowX R)) (hc : cntA t) (hl : (partsE d t).length ≤ 100000) : Calls Tryz.prog 11 #[rowX R] w (GivesN w (partsE d t).length) := by
  obtain ⟨k, s, vk, vb, vn, vs, kp, nk, kc, np, nm, nc⟩ := R
  obtain ⟨w1, hw1⟩ : ∃ u, w.alloc (.cells #[.int .i64 k, .string s, .int .i64 vk, .bool vb, .int .i64 vn, .string vs, .slice none 0 0, .slice none 0 0, .slice kp nk kc, .slice np nm nc] 28) = u := ⟨_, rfl⟩
  obtain ⟨r0, bw⟩ := alloc1 hw1
  have HW := mkHid hw1
  have hsz := bw.size
  have kj : Calls Tryz.prog 26 #[.slice none 0 0, rowX ⟨k, s, vk, vb, vn, vs, kp, nk, kc, np, nm, nc⟩] w1 (GivesJ w.heap.size w1 (.slice none 0 0) ([] ++ partsE d t)) :=
    joined_any d t _ w.heap.size w1 _ [] (hx.since (Since.below bw)) bw.size (Ow.start _ _ _ _ _) (by simpa using hl)
  rw [List.nil_append] at kj
  have cx0 := cell_of_row w1 _ 0 _ _ _ r0
  have cx1 := cell_of_row w1 _ 1 _ _ _ r0
  have cx2 := cell_of_row w1 _ 2 _ _ _ r0
  have cx3 := cell_of_row w1 _ 3 _ _ _ r0
  have cx4 := cell_of_row w1 _ 4 _ _ _ r0
  have cx5 := cell_of_row w1 _ 5 _ _ _ r0
  have cx6 := cell_of_row w1 _ 6 _ _ _ r0
  have cx7 := cell_of_row w1 _ 7 _ _ _ r0
  have cx8 := cell_of_row w1 _ 8 _ _ _ r0
  have cx9 := cell_of_row w1 _ 9 _ _ _ r0
  have HH : Hid (Below w.heap.size w w1 ∧ cntA t ∧ (partsE d t).length ≤ 100000) := ⟨bw, hc, hl⟩
  clear hw1 r0 bw hx hc hl
  unfold rowX at kj ⊢
  go_enter Tryz.func11, Tryz.ntmps11
  go_wp2_with (first | rw [HW.out] | fail)
  refine kj.mono ?_
  rintro e w2 ⟨u, rfl, ho, hu, hz⟩
  have hb2 : Below w.heap.size w w2 := HH.out.1.trans ⟨hu.os, hu.tape, hu.output, hu.size, fun k hk => hu.block k (by omega) (by simp [Value.ownBlock])⟩
  obtain ⟨L, hown, -⟩ := ho.own
  obtain ⟨q, c, rfl⟩ := own_len hown
  have ke : Calls Tryz.prog 34 #[.slice q (partsE d t).length c, .func (.func 35) #[] #[]] w2 (GivesN w2 (partsE d t).length) := by
    have hcap : (partsE d t).length ≤ c ∧ c ≤ maxLen := by
      rcases hown.2 with ⟨hv, hn⟩ | ⟨g, cap, cur, hv, hg, hr, h1, h2, h3, h4⟩
      · injection hv with _ e2 e3
        rw [e2, e3]
        exact ⟨Nat.le_refl _, by unfold maxLen; omega⟩
      · injection hv with _ _ e3
        subst e3
        exact ⟨h1, h2⟩
    refine each_own HH.out.2.2 hcap (fun h0 => ?_)
    obtain ⟨x, hx⟩ : ∃ x, (partsE d t)[0]? = some x := ⟨_, List.getElem?_eq_getElem h0⟩
    obtain ⟨g, c0, R, d0, hv, -, -, -, hgl, -, -⟩ := ow_at ho hx
    injection hv with e1 _ e3
    subst e1
    refine ⟨g, 0, rfl, hgl, fun i hi => ?_⟩
    obtain ⟨y, hy⟩ : ∃ y, (partsE d t)[i]? = some y := ⟨_, List.getElem?_eq_getElem hi⟩
    obtain ⟨g2, c2, R2, d2, hv2, -, -, -, -, hcs, hL⟩ := ow_at ho hy
    injection hv2 with e1 _ _
    injection e1 with e1
    injection e1 with e1
    subst e1
    refine ⟨R2, fun j hj => by rw [Nat.zero_add]; exact hcs j hj, fun W' hb' => ?_⟩
    exact own_any d2 y R2 w.heap.size W' (hL.since (Since.below hb')) (cntA.all d2 (cntA.parts d HH.out.2.1 y (List.mem_of_getElem? hy)))
  have HB : Hid (Below w.heap.size w w2) := hb2
  clear kj ho hu hown hb2 cx0 cx1 cx2 cx3 cx4 cx5 cx6 cx7 cx8 cx9
  go_wp2_with fail
  refine ke.mono ?_
  rintro e w3 ⟨p, c3, rfl, hb3⟩
  clear ke
  go_wp2
  go_ret
  exact ⟨p, c3, rfl, HB.out.trans (hb3.mono HB.out.size)⟩
end Go.Proofs.YtfemippjaokcmaaGreatDoor
namespace Go.Proofs.YtfemippjaokcmaaGreatDoor
open Go.RowKit Go.Shelf
structure EnL (e : En) : Prop where
  lit : e.k = 1 → e.vk ≤ 4 ∧ e.vs.size ≤ 4096 ∧ 0 ≤ e.vn ∧ e.vn < 9223372036854775808 ∧ V.formedB (e.vk : Int) e.vb e.vn e.vs 0 0 = true
  fld : e.k = 2 → e.s.toList ≠ []
  sz : e.s.size ≤ 30000000
  few : e.n ≤ 100000 ∧ e.m ≤ 100000
def AllE (t : Et) : Prop := ∀ p, EnL (t p)
theorem AllE.node {e : En} {f : Nat → Et} (h : EnL e) (k : ∀ i, AllE (f i)) : AllE (Et.node e f)
  | [] => h
  | i :: p => k i p
theorem AllE.sub {t : Et} (h : AllE t) (i : Nat) : AllE (t.sub i) := fun p => h (i :: p)
theorem AllE.cnt {t : Et} (h : AllE t) : cntA t := fun p => (h p).few
theorem enl_zero : EnL zeroE := ⟨fun h => absurd h (by decide), fun h => absurd h (by decide), by decide, by decide⟩
theorem all_zero : AllE zeroT := AllE.node enl_zero fun _ _ => enl_zero
/- Words as they must be. -/
def Wq (ws : List Wd) : Prop := (∀ i, (wAt ws i).s.length ≤ 2000 ∧ ((wAt ws i).k = 1 → (wAt ws i).s ≠ []) ∧ ((wAt ws i).k = 3 → NumW (wAt ws i).s)) ∧ ws.length ≤ 2001
theorem wdS_size (x : Wd) : (wdS x).size = x.s.length := rfl
theorem fstA_name {l : List UInt8} {t : List UInt8} {n : Nat} (h : fstA l = some (1, t, n)) : t ≠ [] := by
  cases l with
  | nil => cases h
  | cons c r =>
    rw [fstA] at h
    split at h
    · cases hq : qL (r.drop 1) with
      | none => rw [hq] at h; cases h
      | some x =>
        rw [hq] at h
        cases hx : hexL x.1 with
        | none => simp [hx] at h
        | some u => simp [hx] at h
    · split at h
      · next hin =>
        have hp : 1 ≤ runL inNameB (c :: r) := by
          simp only [Bool.and_eq_true] at hin
          rw [runL_pos _ _ hin.1]; omega
        dsimp only at h
        split at h
        · injection h with h; injection h with h1 h; cases h1
        · split at h
          · injection h with h; injection h with h1 h; injection h with h2 h3
            subst h2
            intro e
            have := congrArg List.length e
            have hr := runL_le inNameB (c :: r)
            rw [List.length_take, List.length_nil] at this
            omega
          · cases h
      · split at h
        · dsimp only at h
          split at h
          · injection h with h; injection h with h1 h; cases h1
          · cases h
        · split at h
          · cases hq : qL r with
            | none => rw [hq] at h; cases h
            | some x =>
              rw [hq] at h
              injection h with h; injection h with h1 h; cases h1
          · split at h
            · cases h
            · injection h with h; injection h with h1 h; cases h1
theorem wdsL_name : ∀ (f : Nat) (l : List UInt8) (a : Nat), l.length ≤ f → ∀ x ∈ (wdsL l a).1, x.k = 1 → x.s ≠ []
  | 0, [], a, _ => fun x hx => by rw [wdsL_nil] at hx; cases hx
  | 0, c :: r, _, h => by simp at h
  | f + 1, [], a, _ => fun x hx => by rw [wdsL_nil] at hx; cases hx
  | f + 1, c :: r, a, h => by
    simp only [List.length_cons] at h
    intro x hx hk
    by_cases hb : blankB (c.toNat : Int) = true
    · rw [wdsL_blank r a hb] at hx
      exact wdsL_name f r (a + 1) (by omega) x hx hk
    · have hb : blankB (c.toNat : Int) = false := by simpa using hb
      cases hf : fstA (c :: r) with
      | none => rw [wdsL_none a hb hf] at hx; cases hx
      | some y =>
        obtain ⟨k, t, n⟩ := y
        have h1 := fstA_le hf
        rw [wdsL_some a hb hf] at hx
        simp only [List.length_cons] at h1
        rcases List.mem_cons.1 hx with rfl | hx
        · have hk : k = 1 := hk
          subst hk
          exact fstA_name hf
        · exact wdsL_name f ((c :: r).drop n) (a + n) (by simp only [List.length_drop, List.length_cons]; omega) x hx hk
theorem words_q {l : List UInt8} (h : (wordsR l).2.2 = 0) : Wq (wordsR l).1 := by
  obtain ⟨h1, h2, -⟩ := wordsR_form h
  have hok := wdsL_ok 2000 _ l 0 (Nat.le_refl _) h1
  have hnm := wdsL_name _ l 0 (Nat.le_refl _)
  refine ⟨fun i => ?_, (words_ok h).2.2.2.2⟩
  rw [h2]
  by_cases hi : i < (wdsL l 0).1.length
  · rw [wAt_app_left hi]
    have h4 := hok _ (List.getElem_mem hi)
    exact ⟨h4.2.1, hnm _ (List.getElem_mem hi), h4.2.2⟩
  · have h5 : (wAt ((wdsL l 0).1 ++ [⟨0, [], l.length⟩]) i).k = 0 ∧ (wAt ((wdsL l 0).1 ++ [⟨0, [], l.length⟩]) i).s = [] := by
      by_cases hi2 : i = (wdsL l 0).1.length
      · subst hi2
        rw [wAt_app_last]
        exact ⟨rfl, rfl⟩
      · rw [wAt_out (by simp; omega)]
        exact ⟨rfl, rfl⟩
    rw [h5.1, h5.2]
    exact ⟨by simp, fun h => absurd h (by decide), fun h => absurd h (by decide)⟩
theorem lit_all {ws : List Wd} (hq : Wq ws) (i : Nat) {v : Nat × Bool × Int × ByteArray} (h : litV (wAt ws i) = some v) : AllE (litT v) := by
  obtain ⟨h1, -, h3⟩ := hq.1 i
  have hz : ((⟨#[]⟩ : ByteArray)).size ≤ 4096 := by decide
  have hk0 : ∀ (k : Nat) (b : Bool), k ≤ 4 → (decide (0 ≤ (k : Int)) && decide ((k : Int) ≤ 6) && (decide ((k : Int) = 1) || !b)) = true → k ≤ 4 ∧ ((⟨#[]⟩ : ByteArray)).size ≤ 4096 ∧ (0 : Int) ≤ 0 ∧ (0 : Int) < 9223372036854775808 ∧ V.formedB (k : Int) b 0 ⟨#[]⟩ 0 0 = true := fun k b h4 hf => by
    refine ⟨h4, hz, by decide, by decide, ?_⟩
    unfold V.formedB
    rw [hf, Lib.toList_data]
    simp
  have hE : ((⟨#[]⟩ : ByteArray)).toList.isEmpty = true := by rw [Lib.toList_data]; rfl
  have key : v.1 ≤ 4 ∧ v.2.2.2.size ≤ 4096 ∧ 0 ≤ v.2.2.1 ∧ v.2.2.1 < 9223372036854775808 ∧ V.formedB (v.1 : Int) v.2.1 v.2.2.1 v.2.2.2 0 0 = true := by
    unfold litV at h
    split at h
    · next hk =>
      have hn := h3 hk
      rw [num_digits hn] at h
      injection h with h
      subst h
      have hv := hn.2.2
      exact ⟨(by decide : (2 : Nat) ≤ 4), hz, by show (0 : Int) ≤ (valL 0 (wAt ws i).s : Int); omega, by show ((valL 0 (wAt ws i).s : Nat) : Int) < 9223372036854775808; omega, by show V.formedB 2 false ((valL 0 (wAt ws i).s : Nat) : Int) ⟨#[]⟩ 0 0 = true; unfold V.formedB; rw [hE]; rfl⟩
    · split at h
      · injection h with h
        subst h
        exact ⟨(by decide : (3 : Nat) ≤ 4), by show (wdS _).size ≤ 4096; rw [wdS_size]; omega, (by decide : (0 : Int) ≤ 0), (by decide : (0 : Int) < 9223372036854775808), by show V.formedB 3 false 0 (wdS (wAt ws i)) 0 0 = true; unfold V.formedB; rfl⟩
      · split at h
        · injection h with h
          subst h
          exact ⟨(by decide : (4 : Nat) ≤ 4), by show (wdS _).size ≤ 4096; rw [wdS_size]; omega, (by decide : (0 : Int) ≤ 0), (by decide : (0 : Int) < 9223372036854775808), by show V.formedB 4 false 0 (wdS (wAt ws i)) 0 0 = true; unfold V.formedB; rfl⟩
        · split at h
          · repeat' split at h
            · injection h with h; subst h; exact hk0 0 false (by decide) (by decide)
            · injection h with h; subst h; exact hk0 1 true (by decide) (by decide)
            · injection h with h; subst h; exact hk0 1 false (by decide) (by decide)
            · cases h
          · cases h
  exact AllE.node ⟨fun _ => key, fun h => absurd (show (1 : Nat) = 2 from h) (by decide), (by show (0 : Nat) ≤ 30000000; decide), (by show (0 : Nat) ≤ 100000 ∧ (0 : Nat) ≤ 100000; decide)⟩ fun _ _ => enl_zero
theorem joinB_head {x : ByteArray} (h : x.data.toList ≠ []) (l : List ByteArray) : joinB (x :: l) ≠ [] := by
  cases l with
  | nil => exact h
  | cons y l =>
    unfold joinB
    exact fun e => h (List.append_eq_nil_iff.1 e).1
theorem pathL_form {ws : List Wd} (hl : Wl ws) : ∀ (n : Nat) (l : List ByteArray) (s : PS), (∀ x ∈ l, x.data.toList.length ≤ 10000) → (pathL ws n l s).1.length ≤ l.length + n ∧ (∀ x ∈ (pathL ws n l s).1, x.data.toList.length ≤ 10000) ∧ ∃ r, (pathL ws n l s).1 = l ++ r
  | 0, l, s, h => ⟨Nat.le_refl _, h, [], (List.append_nil _).symm⟩
  | n + 1, l, s, h => by
    unfold pathL
    split
    · obtain ⟨a, b, r, c⟩ := pathL_form hl n (l ++ [nameS ws (takeP s)]) (nameP ws (takeP s)) (fun x hx => by
        rcases List.mem_append.1 hx with hx | hx
        · exact h x hx
        · rw [List.mem_singleton] at hx
          subst hx
          exact nameS_len hl _)
      refine ⟨by simp at a; omega, b, nameS ws (takeP s) :: r, ?_⟩
      rw [c, List.append_assoc]
      rfl
    · exact ⟨Nat.le_add_right _ _, h, [], (List.append_nil _).symm⟩
theorem field_all {ws : List Wd} (hl : Wl ws) (hq : Wq ws) {s : PS} (hk : (wAt ws s.at').k = 1) : AllE (fieldT (pathF ws s).1) := by
  obtain ⟨a, b, r, c⟩ := pathL_form hl ws.length [nameS ws s] (nameP ws s) (fun x hx => by
    rw [List.mem_singleton] at hx
    subst hx
    exact nameS_len hl _)
  have hne : (nameS ws s).data.toList ≠ [] := by
    unfold nameS
    rw [if_pos hk]
    exact (hq.1 s.at').2.1 hk
  have hj := joinB_len _ b
  have hw := hq.2
  have hs : (pathF ws s).1.toList = joinB (pathL ws ws.length [nameS ws s] (nameP ws s)).1 := by
    rw [Lib.toList_data]
    rfl
  have hz : (pathF ws s).1.size = (joinB (pathL ws ws.length [nameS ws s] (nameP ws s)).1).length := rfl
  refine AllE.node ⟨fun h => absurd (show (2 : Nat) = 1 from h) (by decide), fun _ => ?_, ?_, (by show (0 : Nat) ≤ 100000 ∧ (0 : Nat) ≤ 100000; decide)⟩ fun _ _ => enl_zero
  · show (pathF ws s).1.toList ≠ []
    rw [hs, c]
    exact joinB_head hne _
  · show (pathF ws s).1.size ≤ 30000000
    rw [hz]
    simp only [List.length_singleton] at a
    have : (pathL ws ws.length [nameS ws s] (nameP ws s)).1.length * 10001 ≤ 2002 * 10001 := Nat.mul_le_mul_right _ (by omega)
    omega
theorem bin_all {sg : ByteArray} {a b : Et} (h : sg.size ≤ 30000000) (ha : AllE a) (hb : AllE b) : AllE (binT sg a b) :=
  AllE.node ⟨fun h => absurd (show (6 : Nat) = 1 from h) (by decide), fun h => absurd (show (6 : Nat) = 2 from h) (by decide), h, (by show (2 : Nat) ≤ 100000 ∧ (0 : Nat) ≤ 100000; decide)⟩ fun i => by
    split
    · exact ha
    · exact hb
theorem one_all {k : Nat} (hk : k = 3 ∨ k = 4 ∨ k = 5) {t : Et} (h : AllE t) : AllE (oneT k t) :=
  AllE.node ⟨fun h => absurd (show k = 1 from h) (by omega), fun h => absurd (show k = 2 from h) (by omega), (by show (0 : Nat) ≤ 30000000; decide), (by show (1 : Nat) ≤ 100000 ∧ (0 : Nat) ≤ 100000; decide)⟩ fun _ => h
theorem list_all {l : List Et} (hl : l.length ≤ 40) (h : ∀ t ∈ l, AllE t) : AllE (listT l) :=
  AllE.node ⟨fun h => absurd (show (7 : Nat) = 1 from h) (by decide), fun h => absurd (show (7 : Nat) = 2 from h) (by decide), (by show (0 : Nat) ≤ 30000000; decide), (by show l.length ≤ 100000 ∧ (0 : Nat) ≤ 100000; omega)⟩ fun i => by
    rw [List.getD_eq_getElem?_getD]
    cases hi : l[i]? with
    | none => exact all_zero
    | some t => exact h t (List.mem_of_getElem? hi)
theorem struct_all {l : List (ByteArray × Et)} (hl : l.length ≤ 40) (h : ∀ t ∈ l, AllE t.2) : AllE (structT l) :=
  AllE.node ⟨fun h => absurd (show (8 : Nat) = 1 from h) (by decide), fun h => absurd (show (8 : Nat) = 2 from h) (by decide), (by show (0 : Nat) ≤ 30000000; decide), (by show l.length ≤ 100000 ∧ l.length ≤ 100000; omega)⟩ fun i => by
    rw [List.getD_eq_getElem?_getD]
    cases hi : l[i]? with
    | none => exact all_zero
    | some t => exact h t (List.mem_of_getElem? hi)
theorem sides_all {ws : List Wd} (hq : Wq ws) {f : PS → Et × PS} (hf : ∀ u, AllE (f u).1) {t : Et} (ht : AllE t) (s : PS) : AllE (sidesF ws f t s).1 :=
  bin_all (by rw [wdS_size]; have := (hq.1 s.at').1; omega) ht (hf _)
theorem loop_all {ws : List Wd} (hq : Wq ws) {f : PS → Et × PS} (hf : ∀ u, AllE (f u).1) (rank : Nat) : ∀ (n : Nat) (x : Et × PS), AllE x.1 → AllE (loopF ws f rank n x).1
  | 0, _, h => h
  | n + 1, x, h => by
    unfold loopF
    split
    · exact loop_all hq hf rank n _ (sides_all hq hf h _)
    · exact h
theorem com_all {α : Type} {A : α → Prop} {ws : List Wd} {one : PS → α × PS} (hf : ∀ u, A (one u).1) : ∀ (n : Nat) (l : List α) (s : PS), (∀ x ∈ l, A x) → ∀ x ∈ (comF ws one n l s).1, A x
  | 0, _, _, h => h
  | n + 1, l, s, h => by
    have h2 : ∀ x ∈ l ++ [(one s).1], A x := fun x hx => by
      rcases List.mem_append.1 hx with hx | hx
      · exact h x hx
      · rw [List.mem_singleton] at hx
        subst hx
        exact hf s
    unfold comF
    split
    · exact fun x hx => by cases hx
    · split
      · exact com_all hf n _ _ h2
      · exact h2
theorem listF_all {ws : List Wd} {f : PS → Et × PS} (hf : ∀ u, AllE (f u).1) (u : PS) : AllE (listF ws f u).1 := by
  unfold listF
  split
  · exact list_all (by simp) (fun t ht => by cases ht)
  · have h5 := comF_len ws f 33 [] u
    exact list_all (by simp at h5; omega) (com_all hf 33 [] u (fun x hx => by cases hx))
theorem structF_all {ws : List Wd} {f : PS → Et × PS} (hf : ∀ u, AllE (f u).1) (u : PS) : AllE (structF ws f u).1 := by
  unfold structF
  split
  · exact struct_all (by simp) (fun t ht => by cases ht)
  · have h5 := comF_len ws (namedF ws f [58]) 33 [] u
    exact struct_all (by simp at h5; omega) (com_all (A := fun x : ByteArray × Et => AllE x.2) (fun u => hf _) 33 [] u (fun x hx => by cases hx))
theorem litF_all {ws : List Wd} (hq : Wq ws) (u : PS) : AllE (litF ws u).1 := by
  unfold litF
  split
  · next v hv => exact lit_all hq u.at' hv
  · exact all_zero
theorem strB_all {ws : List Wd} (hl : Wl ws) (hq : Wq ws) {go : Nat → PS → Et × PS} (hf : ∀ r u, AllE (go r u).1) (u : PS) : AllE (strB ws go u).1 := by
  unfold strB
  split
  · next h => exact field_all hl hq h
  split
  · exact one_all (by decide) (hf _ _)
  split
  · exact hf _ _
  split
  · exact listF_all (hf 0) _
  split
  · exact structF_all (hf 0) _
  · exact litF_all hq _
theorem cmpF_all {ws : List Wd} (hq : Wq ws) {f : PS → Et × PS} (hf : ∀ u, AllE (f u).1) (s : PS) : AllE (cmpF ws f s).1 := by
  have hs : AllE (cmpS ws f (f s)).1 := by
    unfold cmpS
    split
    · exact sides_all hq hf (hf s) _
    · exact hf s
  unfold cmpF cmpI
  split
  · unfold isNullF
    split
    · exact one_all (by decide) (one_all (by decide) hs)
    · exact one_all (by decide) hs
  · exact hs
theorem pr_all {ws : List Wd} (hl : Wl ws) (hq : Wq ws) : ∀ (n rank : Nat) (s : PS), AllE (pr ws n rank s).1
  | 0, _, _ => all_zero
  | n + 1, rank, s => by
    have ih := pr_all hl hq n
    unfold pr
    split
    · unfold negF
      split
      · exact one_all (by decide) (ih _ _)
      · exact ih _ _
    split
    · exact cmpF_all hq (ih 4) s
    split
    · exact strB_all hl hq ih _
    · exact loop_all hq (ih _) rank _ _ (ih _ _)
theorem expr_all {ws : List Wd} (hl : Wl ws) (hq : Wq ws) (s : PS) : AllE (exprF ws s).1 := pr_all hl hq 300 0 s
/- How many parts: at most one more than the words that were taken. -/
def Pc (t : Et) (k : Nat) : Prop := ∀ d, (partsE d t).length ≤ k
theorem pc_not {t : Et} (h : (t []).k ≠ 6) {k : Nat} (hk : 1 ≤ k) : Pc t k := fun d => by
  cases d with
  | zero => exact Nat.zero_le _
  | succ d =>
    unfold partsE
    split
    · exact Nat.zero_le _
    · rw [if_neg (fun hh => h hh.1)]
      exact hk
theorem pc_bin {sg : ByteArray} {a b : Et} {i k : Nat} (ha : Pc a i) (hb : Pc b k) (h1 : 1 ≤ i + k) : Pc (binT sg a b) (i + k) := fun d => by
  cases d with
  | zero => exact Nat.zero_le _
  | succ d =>
    unfold partsE
    split
    · exact Nat.zero_le _
    · split
      · rw [List.length_append]
        exact Nat.add_le_add (ha d) (hb d)
      · exact h1
theorem Pc.mono {t : Et} {i k : Nat} (h : Pc t i) (hk : i ≤ k) : Pc t k := fun d => Nat.le_trans (h d) hk
/- What was taken, and how many parts it has. -/
def Pq (ws : List Wd) (f : PS → Et × PS) : Prop := ∀ u, u.at' < ws.length → Pk 0 0 ws u (f u).2 ∧ Pc (f u).1 (1 + ((f u).2.at' - u.at'))
theorem side_pc {ws : List Wd} (hz : Wz ws) {f : PS → Et × PS} (hf : Pq ws f) {s : PS} {x : Et × PS} (h0 : 0 ≤ rankI (wAt ws x.2.at')) (hp : Pk 0 0 ws s x.2) (h : Pc x.1 (1 + (x.2.at' - s.at'))) : Pk 0 0 ws s (sidesF ws f x.1 x.2).2 ∧ Pc (sidesF ws f x.1 x.2).1 (1 + ((sidesF ws f x.1 x.2).2.at' - s.at')) := by
  have hk0 : (wAt ws x.2.at').k ≠ 0 := by
    intro e
    unfold rankI at h0
    rw [if_neg (by omega), if_neg (by omega)] at h0
    exact absurd h0 (by decide)
  have hlt : (takeP x.2).at' < ws.length := hz.next hp.lt hk0
  refine ⟨hp.sides hz h0 (fun u hu => (hf u hu).1) x.1, ?_⟩
  obtain ⟨a1, a2⟩ := hf (takeP x.2) hlt
  have a3 := a1.ge
  have a4 := hp.ge
  have a5 : (takeP x.2).at' = x.2.at' + 1 := rfl
  have a6 : ((f (takeP x.2)).2.at') ≤ (sidesF ws f x.1 x.2).2.at' := by
    show (f (takeP x.2)).2.at' ≤ (wholeP ws (f (takeP x.2)).2).at'
    have := a1.lt
    unfold wholeP failP
    split
    · split
      · simp only; omega
      · simp only; omega
    · exact Nat.le_refl _
  exact (pc_bin h a2 (by omega)).mono (by omega)
theorem loop_pc {ws : List Wd} (hz : Wz ws) {f : PS → Et × PS} (hf : Pq ws f) (rank : Nat) {s : PS} : ∀ (n : Nat) (x : Et × PS), Pk 0 0 ws s x.2 → Pc x.1 (1 + (x.2.at' - s.at')) → Pc (loopF ws f rank n x).1 (1 + ((loopF ws f rank n x).2.at' - s.at'))
  | 0, _, _, h => h
  | n + 1, x, hp, h => by
    unfold loopF
    split
    · next hr =>
      obtain ⟨h1, h2⟩ := side_pc hz hf (by omega) hp h
      exact loop_pc hz hf rank n _ h1 h2
    · exact h
theorem pc_lit {ws : List Wd} {t : PS} {k : Nat} (hk : 1 ≤ k) : Pc (litF ws t).1 k := by
  unfold litF
  split
  · exact pc_not (by show ¬ 1 = 6; decide) hk
  · exact pc_not (by show ¬ 0 = 6; decide) hk
theorem str_pc {ws : List Wd} (hz : Wz ws) {go : Nat → PS → Et × PS} (hf : ∀ r, Pq ws (go r)) {t : PS} (ht : t.at' < ws.length) : Pc (strB ws go t).1 (1 + ((strB ws go t).2.at' - t.at')) := by
  unfold strB
  split
  · exact pc_not (by show ¬ 2 = 6; decide) (by omega)
  split
  · exact pc_not (by show ¬ 3 = 6; decide) (by omega)
  split
  · next h3 =>
    have hlt : (takeP t).at' < ws.length := hz.next ht (by rw [isP_kind h3]; decide)
    obtain ⟨a1, a2⟩ := hf 0 (takeP t) hlt
    have a3 : (go 0 (takeP t)).2.at' ≤ (mustQ ws (go 0 (takeP t)).2 6 [41]).at' := ((Pk.refl a1.lt).must hz (by decide) [41]).ge
    have a5 : (takeP t).at' = t.at' + 1 := rfl
    exact a2.mono (by simp only; omega)
  split
  · unfold listF
    split
    · exact pc_not (by show ¬ 7 = 6; decide) (by omega)
    · exact pc_not (by show ¬ 7 = 6; decide) (by omega)
  split
  · unfold structF
    split
    · exact pc_not (by show ¬ 8 = 6; decide) (by omega)
    · exact pc_not (by show ¬ 8 = 6; decide) (by omega)
  · exact pc_lit (by omega)
theorem pr_pc {ws : List Wd} (hz : Wz ws) : ∀ (n rank : Nat), Pq ws (pr ws n rank)
  | 0, _, s, hs => ⟨Pk.refl hs, pc_not (by show ¬ 0 = 6; decide) (by omega)⟩
  | n + 1, rank, s, hs => by
    have ih := pr_pc hz n
    refine ⟨pr_ok hz (n + 1) rank s hs, ?_⟩
    unfold pr
    split
    · unfold negF
      split
      · exact pc_not (by show ¬ 4 = 6; decide) (by omega)
      · exact (ih 3 s hs).2
    split
    · have hc : Pc (cmpS ws (pr ws n 4) (pr ws n 4 s)).1 (1 + ((cmpS ws (pr ws n 4) (pr ws n 4 s)).2.at' - s.at')) := by
        obtain ⟨b1, b2⟩ := ih 4 s hs
        unfold cmpS
        split
        · next hr => exact (side_pc hz (ih 4) (by omega) b1 b2).2
        · exact b2
      unfold cmpF cmpI
      split
      · unfold isNullF
        split
        · exact pc_not (by show ¬ 4 = 6; decide) (by omega)
        · exact pc_not (by show ¬ 5 = 6; decide) (by omega)
      · exact hc
    split
    · have hd : Pk 0 1 ws s (deepP ws s) := (Pk.refl hs).deep
      have h1 := str_pc hz (fun r => ih r) hd.lt
      have h2 := hd.ge
      show Pc (strB ws (pr ws n) (deepP ws s)).1 (1 + ((strB ws (pr ws n) (deepP ws s)).2.at' - s.at'))
      exact h1.mono (by omega)
    · obtain ⟨b1, b2⟩ := ih (rank + 1) s hs
      exact loop_pc hz (ih (rank + 1)) rank _ _ b1 b2
theorem expr_pc {ws : List Wd} (hz : Wz ws) (hq : Wq ws) (s : PS) (hs : s.at' < ws.length) : Pc (exprF ws s).1 3000 := by
  obtain ⟨a1, a2⟩ := pr_pc hz 300 0 s hs
  have a3 := a1.lt
  have a4 := hq.2
  exact a2.mono (by show 1 + ((pr ws 300 0 s).2.at' - s.at') ≤ 3000; omega)
/- What such expressions have of what the plan asks for. -/
theorem AllE.lits {t : Et} (h : AllE t) : LitsOk t := fun i _ _ hk => by
  have h1 := (h.sub i []).lit hk
  exact ⟨⟨h1.1, h1.2.1⟩, by omega, h1.2.2.2.1⟩
theorem AllE.parts : ∀ (d : Nat) {t : Et}, AllE t → ∀ x ∈ partsE d t, AllE x
  | 0, _, _, x, hx => by simp [partsE] at hx
  | d + 1, t, h, x, hx => by
    unfold partsE at hx
    split at hx
    · simp at hx
    · split at hx
      · rcases List.mem_append.1 hx with hx | hx
        · exact AllE.parts d (h.sub 0) x hx
        · exact AllE.parts d (h.sub 1) x hx
      · rw [List.mem_singleton] at hx
        subst hx
        exact h
end Go.Proofs.YtfemippjaokcmaaGreatDoor
