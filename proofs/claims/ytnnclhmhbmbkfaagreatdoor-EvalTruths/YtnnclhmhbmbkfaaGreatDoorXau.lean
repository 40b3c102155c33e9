/- Holds; the law's first test. What the cases of EvalTruths share. -/
import Derived.Test.YtnnclhmhbmbkfaaGreatDoorXat
import Derived.Test.YtnnclhmhbmbkfaaGreatDoorXak
namespace Go.Proofs.YtnnclhmhbmbkfaaGreatDoor
open Go.RowKit Go.Shelf
attribute [local go_sem] Oper.semAt_some
set_option maxRecDepth 100000 in
set_option maxHeartbeats 4000000 in
theorem holds_any (xk : Int) (hxk : (xk == 0) = false) (xs : ByteArray) (vk : Int) (vb : Bool) (vn : Int) (vs : ByteArray) (kp : Option Addr) (kn kc : Nat) (np : Option Addr) (m nc : Nat) (B : Bool) (E : Int) (dk : Int) (db : Bool) (dn : Int) (ds : ByteArray) (dp : Option Addr) (dm dc : Nat) (dq : Option Addr) (dl de : Nat) (w : World) (hr : ∀ W, Below w.heap.size w W → Calls Tryz.prog 30 #[.agg #[.int .i64 xk, .string xs, .int .i64 vk, .bool vb, .int .i64 vn, .string vs, .slice none 0 0, .slice none 0 0, .slice kp kn kc, .slice np m nc], .agg #[.int .i64 dk, .bool db, .int .i64 dn, .string ds, .slice dp dm dc, .slice dq dl de]] W fun r W' => r = .returned (.tuple #[.bool B, .int .i64 E]) ∧ Below W.heap.size W W') :
    Calls Tryz.prog 13 #[.agg #[.int .i64 xk, .string xs, .int .i64 vk, .bool vb, .int .i64 vn, .string vs, .slice none 0 0, .slice none 0 0, .slice kp kn kc, .slice np m nc], .agg #[.int .i64 dk, .bool db, .int .i64 dn, .string ds, .slice dp dm dc, .slice dq dl de]] w fun r w' => r = .returned (.tuple #[.bool B, .int .i64 E]) ∧ Below w.heap.size w w' := by
  obtain ⟨w3, hw3⟩ : ∃ u, ((w.alloc (.cells #[.int .i64 xk, .string xs, .int .i64 vk, .bool vb, .int .i64 vn, .string vs, .slice none 0 0, .slice none 0 0, .slice kp kn kc, .slice np m nc] 28)).alloc (.cells #[.int .i64 dk, .bool db, .int .i64 dn, .string ds, .slice dp dm dc, .slice dq dl de] 25)) = u := ⟨_, rfl⟩
  obtain ⟨rw30, rw31, bw3⟩ := alloc2 hw3
  have HWw3 := mkHid hw3
  have kr := hr w3 bw3
  have cx0 : w3.cell? ⟨w.heap.size, 0, none⟩ = some (.int .i64 xk) := cell_of_row w3 _ 0 _ _ _ rw30
  have cx1 : w3.cell? ⟨w.heap.size, 1, none⟩ = some (.string xs) := cell_of_row w3 _ 1 _ _ _ rw30
  have cx2 : w3.cell? ⟨w.heap.size, 2, none⟩ = some (.int .i64 vk) := cell_of_row w3 _ 2 _ _ _ rw30
  have cx3 : w3.cell? ⟨w.heap.size, 3, none⟩ = some (.bool vb) := cell_of_row w3 _ 3 _ _ _ rw30
  have cx4 : w3.cell? ⟨w.heap.size, 4, none⟩ = some (.int .i64 vn) := cell_of_row w3 _ 4 _ _ _ rw30
  have cx5 : w3.cell? ⟨w.heap.size, 5, none⟩ = some (.string vs) := cell_of_row w3 _ 5 _ _ _ rw30
  have cx6 : w3.cell? ⟨w.heap.size, 6, none⟩ = some (.slice none 0 0) := cell_of_row w3 _ 6 _ _ _ rw30
  have cx7 : w3.cell? ⟨w.heap.size, 7, none⟩ = some (.slice none 0 0) := cell_of_row w3 _ 7 _ _ _ rw30
  have cx8 : w3.cell? ⟨w.heap.size, 8, none⟩ = some (.slice kp kn kc) := cell_of_row w3 _ 8 _ _ _ rw30
  have cx9 : w3.cell? ⟨w.heap.size, 9, none⟩ = some (.slice np m nc) := cell_of_row w3 _ 9 _ _ _ rw30
  have cd0 : w3.cell? ⟨w.heap.size + 1, 0, none⟩ = some (.int .i64 dk) := cell_of_row w3 _ 0 _ _ _ rw31
  have cd1 : w3.cell? ⟨w.heap.size + 1, 1, none⟩ = some (.bool db) := cell_of_row w3 _ 1 _ _ _ rw31
  have cd2 : w3.cell? ⟨w.heap.size + 1, 2, none⟩ = some (.int .i64 dn) := cell_of_row w3 _ 2 _ _ _ rw31
  have cd3 : w3.cell? ⟨w.heap.size + 1, 3, none⟩ = some (.string ds) := cell_of_row w3 _ 3 _ _ _ rw31
  have cd4 : w3.cell? ⟨w.heap.size + 1, 4, none⟩ = some (.slice dp dm dc) := cell_of_row w3 _ 4 _ _ _ rw31
  have cd5 : w3.cell? ⟨w.heap.size + 1, 5, none⟩ = some (.slice dq dl de) := cell_of_row w3 _ 5 _ _ _ rw31
  have HB : Hid (Below w.heap.size w w3) := bw3
  clear hw3 rw30 rw31 bw3 hr
  go_enter Tryz.func13, Tryz.ntmps13
  go_wp2_with (first | rw [HWw3.out] | fail)
  refine kr.mono ?_
  rintro r w4 ⟨rfl, hb4⟩
  have H4 : Hid (Below w.heap.size w w4) := HB.out.trans (hb4.mono HB.out.size)
  clear hb4 kr
  go_wp2
  go_ret2
  exact ⟨rfl, H4.out⟩
def NmS (v : Value) (W : World) : Prop := ∃ b, v = .slice (some ⟨b, 0, none⟩) 1 1 ∧ W.heap[b]? = some (.cells #[.string ⟨#[97]⟩] 9 (0, 0))
theorem NmS.later : ∀ v W W', NmS v W → Below W.heap.size W W' → NmS v W' := fun _ _ _ ⟨b, h1, h2⟩ hb => ⟨b, h1, Below.row hb h2⟩
def PtS (n : Int) (v : Value) (W : World) : Prop := ∃ b, v = .slice (some ⟨b, 0, none⟩) 1 1 ∧ W.heap[b]? = some (.cells #[.int .i64 2, .bool false, .int .i64 n, .string ⟨#[]⟩, .slice none 0 0, .slice none 0 0] 25 (0, 0))
theorem PtS.later {n : Int} : ∀ v W W', PtS n v W → Below W.heap.size W W' → PtS n v W' := fun _ _ _ ⟨b, h1, h2⟩ hb => ⟨b, h1, Below.row hb h2⟩
def DcS (n : Int) (v : Value) (W : World) : Prop := ∃ ip ic jp jc pb po pc nb no nc, v = .agg #[.int .i64 6, .bool false, .int .i64 0, .string ⟨#[]⟩, .slice (some ⟨pb, po, none⟩) 1 pc, .slice (some ⟨nb, no, none⟩) 1 nc] ∧ DocA W n ip ic jp jc pb po pc nb no nc
theorem DcS.later {n : Int} : ∀ v W W', DcS n v W → Below W.heap.size W W' → DcS n v W' := fun _ _ _ ⟨ip, ic, jp, jc, pb, po, pc, nb, no, nc, h1, h2⟩ hb => ⟨ip, ic, jp, jc, pb, po, pc, nb, no, nc, h1, h2.later hb⟩
theorem struct_doc (n : Int) (hn1 : -9223372036854775808 ≤ n ∧ n < 9223372036854775808) (W : World) (nb pb : Nat) (hn : W.heap[nb]? = some (.cells #[.string ⟨#[97]⟩] 9 (0, 0))) (hp : W.heap[pb]? = some (.cells #[.int .i64 2, .bool false, .int .i64 n, .string ⟨#[]⟩, .slice none 0 0, .slice none 0 0] 25 (0, 0))) :
    Calls Tryz.prog 20 #[.slice (some ⟨nb, 0, none⟩) 1 1, .slice (some ⟨pb, 0, none⟩) 1 1] W fun e w' => (∃ v, e = .returned v ∧ DcS n v w') ∧ Below W.heap.size W w' := by
  refine (struct_one nb pb n hn hp hn1).mono ?_
  rintro e w' ⟨A, rfl, hl, hb⟩
  obtain ⟨ip, ic, jp, jc, pb, po, pc, nb, no, nc, h1, h2⟩ := doc_of hl (fun k hk => hk.2)
  exact ⟨⟨_, rfl, ip, ic, jp, jc, pb, po, pc, nb, no, nc, h1, h2⟩, hb⟩
theorem holds_one (ip : Option Addr) (ic : Nat) (jp : Option Addr) (jc : Nat) (pb po pc nb no nc : Nat) {R : XR} {g o : Nat} {R0 R1 : XR} {g0 o0 : Nat} {R00 R01 : XR} (w : World) (hg : Gm w) (hd : DocA w 1 ip ic jp jc pb po pc nb no nc) (hx : AwkE w R g o R0 R1 g0 o0 R00 R01) :
    Calls Tryz.prog 13 #[.agg #[.int .i64 R.k, .string R.s, .int .i64 R.vk, .bool R.vb, .int .i64 R.vn, .string R.vs, .slice none 0 0, .slice none 0 0, .slice R.kp R.n R.kc, .slice R.np R.m R.nc], .agg #[.int .i64 6, .bool false, .int .i64 0, .string ⟨#[]⟩, .slice (some ⟨pb, po, none⟩) 1 pc, .slice (some ⟨nb, no, none⟩) 1 nc]] w fun r w' => r = .returned (.tuple #[.bool true, .int .i64 0]) ∧ Below w.heap.size w w' :=
  holds_any R.k (by rw [hx.r.1]; rfl) R.s R.vk R.vb R.vn R.vs R.kp R.n R.kc R.np R.m R.nc true 0 6 false 0 ⟨#[]⟩ (some ⟨pb, po, none⟩) 1 pc (some ⟨nb, no, none⟩) 1 nc w (fun W hb => truth_ok R.k R.s R.vk R.vb R.vn R.vs R.kp R.n R.kc R.np R.m R.nc (okL true) 6 false 0 ⟨#[]⟩ (some ⟨pb, po, none⟩) 1 pc (some ⟨nb, no, none⟩) 1 nc W (fun W2 hb2 => eq_val 1 ip ic jp jc pb po pc nb no nc (number_ok 1 2 ip ic jp jc reckoned_one) W2 (hg.later (hb.trans (hb2.mono hb.size))) (hd.later (hb.trans (hb2.mono hb.size))) (hx.later (hb.trans (hb2.mono hb.size)))))
theorem holds_great (ip : Option Addr) (ic : Nat) (jp : Option Addr) (jc : Nat) (pb po pc nb no nc : Nat) {R : XR} {g o : Nat} {R0 R1 : XR} {g0 o0 : Nat} {R00 R01 : XR} (w : World) (hg : Gm w) (hd : DocA w 9223372036854775807 ip ic jp jc pb po pc nb no nc) (hx : AwkE w R g o R0 R1 g0 o0 R00 R01) :
    Calls Tryz.prog 13 #[.agg #[.int .i64 R.k, .string R.s, .int .i64 R.vk, .bool R.vb, .int .i64 R.vn, .string R.vs, .slice none 0 0, .slice none 0 0, .slice R.kp R.n R.kc, .slice R.np R.m R.nc], .agg #[.int .i64 6, .bool false, .int .i64 0, .string ⟨#[]⟩, .slice (some ⟨pb, po, none⟩) 1 pc, .slice (some ⟨nb, no, none⟩) 1 nc]] w fun r w' => r = .returned (.tuple #[.bool false, .int .i64 180]) ∧ Below w.heap.size w w' :=
  holds_any R.k (by rw [hx.r.1]; rfl) R.s R.vk R.vb R.vn R.vs R.kp R.n R.kc R.np R.m R.nc false 180 6 false 0 ⟨#[]⟩ (some ⟨pb, po, none⟩) 1 pc (some ⟨nb, no, none⟩) 1 nc w (fun W hb => truth_fails R.k R.s R.vk R.vb R.vn R.vs R.kp R.n R.kc R.np R.m R.nc noL 180 rfl 6 false 0 ⟨#[]⟩ (some ⟨pb, po, none⟩) 1 pc (some ⟨nb, no, none⟩) 1 nc W (fun W2 hb2 => eq_fails 9223372036854775807 ip ic jp jc pb po pc nb no nc 180 rfl (number_over 9223372036854775807 (-9223372036854775808) ip ic jp jc reckoned_great) W2 (hg.later (hb.trans (hb2.mono hb.size))) (hd.later (hb.trans (hb2.mono hb.size))) (hx.later (hb.trans (hb2.mono hb.size)))))
set_option maxRecDepth 100000 in
set_option maxHeartbeats 8000000 in
theorem awake_any (w : World) (he : Ev w) (hg : Gm w) : Calls Tryz.prog 7 #[] w fun e w' => e = .returned (.bool true) ∧ Below w.heap.size w w' := by
  have kp := parse_text ⟨awkL.toArray⟩ (by decide) w he
  change Calls Tryz.prog 19 #[.string ⟨#[68, 69, 76, 69, 84, 69, 32, 70, 82, 79, 77, 32, 116, 32, 87, 72, 69, 82, 69, 32, 97, 32, 43, 32, 49, 32, 61, 32, 50]⟩] w (GivesP w (parF awkL)) at kp
  have HG : Hid (Gm w) := hg
  clear hg he
  go_enter Tryz.func7, Tryz.ntmps7
  go_wp2_with fail
  refine kp.mono ?_
  rintro q w1 ⟨R, rfl, hx, hb1⟩
  rw [awk0]
  obtain ⟨d, hd⟩ := hx.wh
  obtain ⟨g, o, R0, R1, g0, o0, R00, R01, hE⟩ := awk_of (R := R.wh) hd
  obtain ⟨L, hL⟩ : ∃ L : Int, ((parF awkL).2.1 : Int) = L := ⟨_, rfl⟩
  rw [hL]
  have hones := hx.ones
  obtain ⟨w2, hw2⟩ : ∃ w2, put (w1.alloc (.cells #[.int .i64 0, .string ⟨#[]⟩, .string ⟨#[]⟩, .int .i64 0, .string ⟨#[]⟩, .int .i64 0, .bool false, .int .i64 0, .string ⟨#[]⟩, .slice none 0 0, .slice none 0 0, .slice none 0 0, .slice none 0 0, .slice none 0 0, .slice none 0 0, .int .i64 0, .string ⟨#[]⟩, .int .i64 0, .bool false, .int .i64 0, .string ⟨#[]⟩, .slice none 0 0, .slice none 0 0, .slice none 0 0, .slice none 0 0, .slice none 0 0, .bool false, .bool false, .string ⟨#[]⟩, .bool false, .int .i64 (0)] 61)) w1.heap.size (stA R) = w2 := ⟨_, rfl⟩
  have ra : (w1.alloc (.cells #[.int .i64 0, .string ⟨#[]⟩, .string ⟨#[]⟩, .int .i64 0, .string ⟨#[]⟩, .int .i64 0, .bool false, .int .i64 0, .string ⟨#[]⟩, .slice none 0 0, .slice none 0 0, .slice none 0 0, .slice none 0 0, .slice none 0 0, .slice none 0 0, .int .i64 0, .string ⟨#[]⟩, .int .i64 0, .bool false, .int .i64 0, .string ⟨#[]⟩, .slice none 0 0, .slice none 0 0, .slice none 0 0, .slice none 0 0, .slice none 0 0, .bool false, .bool false, .string ⟨#[]⟩, .bool false, .int .i64 (0)] 61)).heap[w1.heap.size]? = some (.cells zero31 61 (0, 0)) := heap_alloc_new _ _
  have hb2 : Below w1.heap.size w1 w2 := by rw [← hw2]; exact put_below ((Below.refl _ w1).alloc (Nat.le_refl _) _) _ (Nat.le_refl _) _
  have r2 : w2.heap[w1.heap.size]? = some (.cells (stA R) 61 (0, 0)) := by rw [← hw2]; exact put_row _ ra rfl
  have hB2 : Below w.heap.size w w2 := hb1.trans (hb2.mono hb1.size)
  have HA : Hid ((w1.alloc (.cells #[.int .i64 0, .string ⟨#[]⟩, .string ⟨#[]⟩, .int .i64 0, .string ⟨#[]⟩, .int .i64 0, .bool false, .int .i64 0, .string ⟨#[]⟩, .slice none 0 0, .slice none 0 0, .slice none 0 0, .slice none 0 0, .slice none 0 0, .slice none 0 0, .int .i64 0, .string ⟨#[]⟩, .int .i64 0, .bool false, .int .i64 0, .string ⟨#[]⟩, .slice none 0 0, .slice none 0 0, .slice none 0 0, .slice none 0 0, .slice none 0 0, .bool false, .bool false, .string ⟨#[]⟩, .bool false, .int .i64 (0)] 61)).heap[w1.heap.size]? = some (.cells zero31 61 (0, 0)) ∧ (stA R).all (·.oneCell') = true) := ⟨ra, hones⟩
  have H2 : Hid (Below w.heap.size w w2 ∧ AwkE w2 R.wh g o R0 R1 g0 o0 R00 R01) := ⟨hB2, hE.later hb2⟩
  clear kp hx hd hL hb1 hb2 hB2 ra hones hE
  go_wp2_with (first | (refine wpList_put rfl 61 (.tmp 1) (.tmp 10) rfl rfl rfl rfl HA.out.1 rfl info30 HA.out.2 ?_; rw [hw2]) | fail)
  obtain ⟨bk, hbk⟩ : ∃ bk, w1.heap.size = bk := ⟨_, rfl⟩
  rw [hbk] at r2 ⊢
  clear hw2 hbk HA
  have kst1 := fun W nb pb hn hp => struct_doc 1 (by omega) W nb pb hn hp
  have ki1 : ∀ W : World, Calls Tryz.prog 16 #[.int .i64 1] W fun r w' => r = .returned (.agg #[.int .i64 2, .bool false, .int .i64 1, .string ⟨#[]⟩, .slice none 0 0, .slice none 0 0]) ∧ Below W.heap.size W w' := V.vint 1
  have kh1 : ∀ W, Below w2.heap.size w2 W → ∀ (ip : Option Addr) (ic : Nat) (jp : Option Addr) (jc : Nat) (pb po pc nb no nc : Nat), DocA W 1 ip ic jp jc pb po pc nb no nc → Calls Tryz.prog 13 #[.agg #[.int .i64 R.wh.k, .string R.wh.s, .int .i64 R.wh.vk, .bool R.wh.vb, .int .i64 R.wh.vn, .string R.wh.vs, .slice none 0 0, .slice none 0 0, .slice R.wh.kp R.wh.n R.wh.kc, .slice R.wh.np R.wh.m R.wh.nc], .agg #[.int .i64 6, .bool false, .int .i64 0, .string ⟨#[]⟩, .slice (some ⟨pb, po, none⟩) 1 pc, .slice (some ⟨nb, no, none⟩) 1 nc]] W fun r w' => r = .returned (.tuple #[.bool true, .int .i64 0]) ∧ Below W.heap.size W w' :=
    fun W hb ip ic jp jc pb po pc nb no nc hd => holds_one ip ic jp jc pb po pc nb no nc W (HG.out.later (H2.out.1.trans (hb.mono H2.out.1.size))) hd (H2.out.2.later hb)
  have kst := kst1
  have ki := ki1
  refine any_tail (by kernel_rfl) 12 (by exact Nat.le_of_ble_eq_true rfl) (fun i => if i < 7 then i + 14 else if i = 7 then 13 else if i < 10 then i + 13 else i - 6) (mixR [(2, NmS), (4, PtS 1), (5, DcS 1)] [.pointer (some ⟨bk, 15, none⟩), .agg #[.int .i64 R.wh.k, .string R.wh.s, .int .i64 R.wh.vk, .bool R.wh.vb, .int .i64 R.wh.vn, .string R.wh.vs, .slice none 0 0, .slice none 0 0, .slice R.wh.kp R.wh.n R.wh.kc, .slice R.wh.np R.wh.m R.wh.nc], undef, .agg #[.int .i64 2, .bool false, .int .i64 1, .string ⟨#[]⟩, .slice none 0 0, .slice none 0 0], undef, undef, .tuple #[.bool true, .int .i64 0], .tuple #[.bool true, .int .i64 0], .bool true, .int .i64 0, .bool true, .int .i64 0]) (by kernel_rfl) (by kernel_rfl) (by kernel_rfl) (by kernel_rfl) (mixR_later _ _ (stab_cons (NmS.later) (stab_cons (PtS.later) (stab_cons (DcS.later) (stab_nil))))) ?step ?post
  case step =>
    intro iq hiq a W hrest hb hk
    have hp1 : a.eval (.tmp 1) = .pointer (some ⟨bk, 0, none⟩) := (hrest 1 (by intro iq2 hiq2; (repeat' split) <;> omega)).trans rfl
    have fp1 := ev hp1
    have hx1 : W.heap[bk]? = some (.cells (stA R) 61 (0, 0)) := (hb.block _ (lt_of_row r2)).trans r2
    clear hrest
    obtain rfl | rfl | rfl | rfl | rfl | rfl | rfl | rfl | rfl | rfl | rfl | rfl : iq = 0 ∨ iq = 1 ∨ iq = 2 ∨ iq = 3 ∨ iq = 4 ∨ iq = 5 ∨ iq = 6 ∨ iq = 7 ∨ iq = 8 ∨ iq = 9 ∨ iq = 10 ∨ iq = 11 := by omega
    · clear hiq
      clear hk
      refine ⟨_, rfl, rfl, rfl, wp_value (v := .pointer (some ⟨bk, 15, none⟩)) (w' := W) ?_ ⟨_, rfl, Below.refl _ _, rfl⟩⟩
      go_simp
    · clear hiq
      have e0 : a.eval (.tmp 14) = .pointer (some ⟨bk, 15, none⟩) := hk 0 (mem_of (by kernel_rfl))
      have f0 := ev e0
      have hk0 : W.cell? ⟨bk, 15, none⟩ = some (.int .i64 R.wh.k) := cell_of_row W bk 15 _ _ _ hx1
      have hk1 : W.cell? ⟨bk, 16, none⟩ = some (.string R.wh.s) := cell_of_row W bk 16 _ _ _ hx1
      have hk2 : W.cell? ⟨bk, 17, none⟩ = some (.int .i64 R.wh.vk) := cell_of_row W bk 17 _ _ _ hx1
      have hk3 : W.cell? ⟨bk, 18, none⟩ = some (.bool R.wh.vb) := cell_of_row W bk 18 _ _ _ hx1
      have hk4 : W.cell? ⟨bk, 19, none⟩ = some (.int .i64 R.wh.vn) := cell_of_row W bk 19 _ _ _ hx1
      have hk5 : W.cell? ⟨bk, 20, none⟩ = some (.string R.wh.vs) := cell_of_row W bk 20 _ _ _ hx1
      have hk6 : W.cell? ⟨bk, 21, none⟩ = some (.slice none 0 0) := cell_of_row W bk 21 _ _ _ hx1
      have hk7 : W.cell? ⟨bk, 22, none⟩ = some (.slice none 0 0) := cell_of_row W bk 22 _ _ _ hx1
      have hk8 : W.cell? ⟨bk, 23, none⟩ = some (.slice R.wh.kp R.wh.n R.wh.kc) := cell_of_row W bk 23 _ _ _ hx1
      have hk9 : W.cell? ⟨bk, 24, none⟩ = some (.slice R.wh.np R.wh.m R.wh.nc) := cell_of_row W bk 24 _ _ _ hx1
      clear hk
      refine ⟨_, rfl, rfl, rfl, wp_value (v := .agg #[.int .i64 R.wh.k, .string R.wh.s, .int .i64 R.wh.vk, .bool R.wh.vb, .int .i64 R.wh.vn, .string R.wh.vs, .slice none 0 0, .slice none 0 0, .slice R.wh.kp R.wh.n R.wh.kc, .slice R.wh.np R.wh.m R.wh.nc]) (w' := W) ?_ ⟨_, rfl, Below.refl _ _, rfl⟩⟩
      go_simp
    · clear hiq
      clear hk
      refine ⟨_, rfl, rfl, rfl, wp_value (v := .slice (some ⟨W.heap.size, 0, none⟩) 1 1) (w' := W.alloc (.cells #[.string ⟨#[97]⟩] 9)) ?_ ⟨_, rfl, (Below.refl _ W).alloc (Nat.le_refl _) _, _, rfl, heap_alloc_new _ _⟩⟩
      go_simp
    · clear hiq
      clear hk
      refine ⟨_, rfl, rfl, rfl, wp_enter (f := 16) (args := #[.int .i64 1]) ?_ ((ki W).mono ?_)⟩
      · go_simp
      · rintro e w2 ⟨rfl, hb2⟩
        exact ⟨_, rfl, _, rfl, hb2, rfl⟩
    · clear hiq
      have e3 : a.eval (.tmp 17) = .agg #[.int .i64 2, .bool false, .int .i64 1, .string ⟨#[]⟩, .slice none 0 0, .slice none 0 0] := hk 3 (mem_of (by kernel_rfl))
      have f3 := ev e3
      clear hk
      refine ⟨_, rfl, rfl, rfl, wp_value (v := .slice (some ⟨W.heap.size, 0, none⟩) 1 1) (w' := W.alloc (.cells #[.int .i64 2, .bool false, .int .i64 1, .string ⟨#[]⟩, .slice none 0 0, .slice none 0 0] 25)) ?_ ⟨_, rfl, (Below.refl _ W).alloc (Nat.le_refl _) _, _, rfl, heap_alloc_new _ _⟩⟩
      go_simp
    · clear hiq
      obtain ⟨b2, e2, h2⟩ := show NmS (a.eval (.tmp 16)) W from hk 2 (mem_of (by kernel_rfl))
      replace e2 : a.eval (.tmp 16) = .slice (some ⟨b2, 0, none⟩) 1 1 := e2
      have f2 := ev e2
      obtain ⟨b4, e4, h4⟩ := show PtS 1 (a.eval (.tmp 18)) W from hk 4 (mem_of (by kernel_rfl))
      replace e4 : a.eval (.tmp 18) = .slice (some ⟨b4, 0, none⟩) 1 1 := e4
      have f4 := ev e4
      clear hk
      refine ⟨_, rfl, rfl, rfl, wp_enter (f := 20) (args := #[.slice (some ⟨b2, 0, none⟩) 1 1, .slice (some ⟨b4, 0, none⟩) 1 1]) ?_ ((kst W b2 b4 h2 h4).mono ?_)⟩
      · go_simp
      · rintro e w2 ⟨⟨v, rfl, hv⟩, hb2⟩
        exact ⟨_, rfl, _, rfl, hb2, hv⟩
    · clear hiq
      have e1 : a.eval (.tmp 15) = .agg #[.int .i64 R.wh.k, .string R.wh.s, .int .i64 R.wh.vk, .bool R.wh.vb, .int .i64 R.wh.vn, .string R.wh.vs, .slice none 0 0, .slice none 0 0, .slice R.wh.kp R.wh.n R.wh.kc, .slice R.wh.np R.wh.m R.wh.nc] := hk 1 (mem_of (by kernel_rfl))
      have f1 := ev e1
      obtain ⟨ip5, ic5, jp5, jc5, pb5, po5, pc5, nb5, no5, nc5, e5, h5⟩ := show DcS 1 (a.eval (.tmp 19)) W from hk 5 (mem_of (by kernel_rfl))
      replace e5 : a.eval (.tmp 19) = .agg #[.int .i64 6, .bool false, .int .i64 0, .string ⟨#[]⟩, .slice (some ⟨pb5, po5, none⟩) 1 pc5, .slice (some ⟨nb5, no5, none⟩) 1 nc5] := e5
      have f5 := ev e5
      clear hk
      refine ⟨_, rfl, rfl, rfl, wp_enter (f := 13) (args := #[.agg #[.int .i64 R.wh.k, .string R.wh.s, .int .i64 R.wh.vk, .bool R.wh.vb, .int .i64 R.wh.vn, .string R.wh.vs, .slice none 0 0, .slice none 0 0, .slice R.wh.kp R.wh.n R.wh.kc, .slice R.wh.np R.wh.m R.wh.nc], .agg #[.int .i64 6, .bool false, .int .i64 0, .string ⟨#[]⟩, .slice (some ⟨pb5, po5, none⟩) 1 pc5, .slice (some ⟨nb5, no5, none⟩) 1 nc5]]) ?_ ((kh1 W hb ip5 ic5 jp5 jc5 pb5 po5 pc5 nb5 no5 nc5 h5).mono ?_)⟩
      · go_simp
      · rintro e w2 ⟨rfl, hb2⟩
        exact ⟨_, rfl, _, rfl, hb2, rfl⟩
    · clear hiq
      have e6 : a.eval (.tmp 20) = .tuple #[.bool true, .int .i64 0] := hk 6 (mem_of (by kernel_rfl))
      have f6 := ev e6
      clear hk
      refine ⟨_, rfl, rfl, rfl, wp_value (v := .tuple #[.bool true, .int .i64 0]) (w' := W) ?_ ⟨_, rfl, Below.refl _ _, rfl⟩⟩
      go_simp
    · clear hiq
      have e7 : a.eval (.tmp 13) = .tuple #[.bool true, .int .i64 0] := hk 7 (mem_of (by kernel_rfl))
      have f7 := ev e7
      clear hk
      refine ⟨_, rfl, rfl, rfl, wp_value (v := .bool true) (w' := W) ?_ ⟨_, rfl, Below.refl _ _, rfl⟩⟩
      go_simp
    · clear hiq
      have e7 : a.eval (.tmp 13) = .tuple #[.bool true, .int .i64 0] := hk 7 (mem_of (by kernel_rfl))
      have f7 := ev e7
      clear hk
      refine ⟨_, rfl, rfl, rfl, wp_value (v := .int .i64 0) (w' := W) ?_ ⟨_, rfl, Below.refl _ _, rfl⟩⟩
      go_simp
    · clear hiq
      have e8 : a.eval (.tmp 21) = .bool true := hk 8 (mem_of (by kernel_rfl))
      have f8 := ev e8
      clear hk
      refine ⟨_, rfl, rfl, rfl, wp_value (v := .bool true) (w' := W) ?_ ⟨_, rfl, Below.refl _ _, rfl⟩⟩
      go_simp
    · clear hiq
      have e9 : a.eval (.tmp 22) = .int .i64 0 := hk 9 (mem_of (by kernel_rfl))
      have f9 := ev e9
      clear hk
      refine ⟨_, rfl, rfl, rfl, wp_value (v := .int .i64 0) (w' := W) ?_ ⟨_, rfl, Below.refl _ _, rfl⟩⟩
      go_simp
  case post =>
    intro V1 W hbW hV
    have v10 : V1 10 = .bool true := hV 10 (by omega)
    have v11 : V1 11 = .int .i64 0 := hV 11 (by omega)
    have r3 := Below.row hbW r2
    have H3 : Hid (Below w.heap.size w W ∧ AwkE W R.wh g o R0 R1 g0 o0 R00 R01) := ⟨H2.out.1.trans (hbW.mono H2.out.1.size), H2.out.2.later hbW⟩
    clear hV hbW H2 r2 kst ki kst1 ki1 kh1
    simp only [putAll, reduceIte, Nat.reduceLT, Nat.reduceEqDiff, Nat.reduceAdd, Nat.reduceSub]
    rw [v10, v11]
    simp only [Act.put, List.setIfInBounds_toArray, List.set_cons_zero, List.set_cons_succ]
    change wpList _ _ _ [] _ _
    have kst := fun W nb pb hn hp => struct_doc 9223372036854775807 (by omega) W nb pb hn hp
    have ki : ∀ W : World, Calls Tryz.prog 16 #[.int .i64 9223372036854775807] W fun r w' => r = .returned (.agg #[.int .i64 2, .bool false, .int .i64 9223372036854775807, .string ⟨#[]⟩, .slice none 0 0, .slice none 0 0]) ∧ Below W.heap.size W w' := V.vint 9223372036854775807
    have kh2 : ∀ W2, Below W.heap.size W W2 → ∀ (ip : Option Addr) (ic : Nat) (jp : Option Addr) (jc : Nat) (pb po pc nb no nc : Nat), DocA W2 9223372036854775807 ip ic jp jc pb po pc nb no nc → Calls Tryz.prog 13 #[.agg #[.int .i64 R.wh.k, .string R.wh.s, .int .i64 R.wh.vk, .bool R.wh.vb, .int .i64 R.wh.vn, .string R.wh.vs, .slice none 0 0, .slice none 0 0, .slice R.wh.kp R.wh.n R.wh.kc, .slice R.wh.np R.wh.m R.wh.nc], .agg #[.int .i64 6, .bool false, .int .i64 0, .string ⟨#[]⟩, .slice (some ⟨pb, po, none⟩) 1 pc, .slice (some ⟨nb, no, none⟩) 1 nc]] W2 fun r w' => r = .returned (.tuple #[.bool false, .int .i64 180]) ∧ Below W2.heap.size W2 w' :=
      fun W2 hb ip ic jp jc pb po pc nb no nc hd => holds_great ip ic jp jc pb po pc nb no nc W2 (HG.out.later (H3.out.1.trans (hb.mono H3.out.1.size))) hd (H3.out.2.later hb)
    go_wp2_with fail
    refine any_tail (by kernel_rfl) 12 (by exact Nat.le_of_ble_eq_true rfl) (fun i => if i < 7 then i + 24 else if i = 7 then 23 else if i < 10 then i + 23 else i - 4) (mixR [(2, NmS), (4, PtS 9223372036854775807), (5, DcS 9223372036854775807)] [.pointer (some ⟨bk, 15, none⟩), .agg #[.int .i64 R.wh.k, .string R.wh.s, .int .i64 R.wh.vk, .bool R.wh.vb, .int .i64 R.wh.vn, .string R.wh.vs, .slice none 0 0, .slice none 0 0, .slice R.wh.kp R.wh.n R.wh.kc, .slice R.wh.np R.wh.m R.wh.nc], undef, .agg #[.int .i64 2, .bool false, .int .i64 9223372036854775807, .string ⟨#[]⟩, .slice none 0 0, .slice none 0 0], undef, undef, .tuple #[.bool false, .int .i64 180], .tuple #[.bool false, .int .i64 180], .bool false, .int .i64 180, .bool false, .int .i64 180]) (by kernel_rfl) (by kernel_rfl) (by kernel_rfl) (by kernel_rfl) (mixR_later _ _ (stab_cons (NmS.later) (stab_cons (PtS.later) (stab_cons (DcS.later) (stab_nil))))) ?step ?post
    case step =>
      intro iq hiq a W hrest hb hk
      have hp1 : a.eval (.tmp 1) = .pointer (some ⟨bk, 0, none⟩) := (hrest 1 (by intro iq2 hiq2; (repeat' split) <;> omega)).trans rfl
      have fp1 := ev hp1
      have hx1 : W.heap[bk]? = some (.cells (stA R) 61 (0, 0)) := (hb.block _ (lt_of_row r3)).trans r3
      clear hrest
      obtain rfl | rfl | rfl | rfl | rfl | rfl | rfl | rfl | rfl | rfl | rfl | rfl : iq = 0 ∨ iq = 1 ∨ iq = 2 ∨ iq = 3 ∨ iq = 4 ∨ iq = 5 ∨ iq = 6 ∨ iq = 7 ∨ iq = 8 ∨ iq = 9 ∨ iq = 10 ∨ iq = 11 := by omega
      · clear hiq
        clear hk
        refine ⟨_, rfl, rfl, rfl, wp_value (v := .pointer (some ⟨bk, 15, none⟩)) (w' := W) ?_ ⟨_, rfl, Below.refl _ _, rfl⟩⟩
        go_simp
      · clear hiq
        have e0 : a.eval (.tmp 24) = .pointer (some ⟨bk, 15, none⟩) := hk 0 (mem_of (by kernel_rfl))
        have f0 := ev e0
        have hk0 : W.cell? ⟨bk, 15, none⟩ = some (.int .i64 R.wh.k) := cell_of_row W bk 15 _ _ _ hx1
        have hk1 : W.cell? ⟨bk, 16, none⟩ = some (.string R.wh.s) := cell_of_row W bk 16 _ _ _ hx1
        have hk2 : W.cell? ⟨bk, 17, none⟩ = some (.int .i64 R.wh.vk) := cell_of_row W bk 17 _ _ _ hx1
        have hk3 : W.cell? ⟨bk, 18, none⟩ = some (.bool R.wh.vb) := cell_of_row W bk 18 _ _ _ hx1
        have hk4 : W.cell? ⟨bk, 19, none⟩ = some (.int .i64 R.wh.vn) := cell_of_row W bk 19 _ _ _ hx1
        have hk5 : W.cell? ⟨bk, 20, none⟩ = some (.string R.wh.vs) := cell_of_row W bk 20 _ _ _ hx1
        have hk6 : W.cell? ⟨bk, 21, none⟩ = some (.slice none 0 0) := cell_of_row W bk 21 _ _ _ hx1
        have hk7 : W.cell? ⟨bk, 22, none⟩ = some (.slice none 0 0) := cell_of_row W bk 22 _ _ _ hx1
        have hk8 : W.cell? ⟨bk, 23, none⟩ = some (.slice R.wh.kp R.wh.n R.wh.kc) := cell_of_row W bk 23 _ _ _ hx1
        have hk9 : W.cell? ⟨bk, 24, none⟩ = some (.slice R.wh.np R.wh.m R.wh.nc) := cell_of_row W bk 24 _ _ _ hx1
        clear hk
        refine ⟨_, rfl, rfl, rfl, wp_value (v := .agg #[.int .i64 R.wh.k, .string R.wh.s, .int .i64 R.wh.vk, .bool R.wh.vb, .int .i64 R.wh.vn, .string R.wh.vs, .slice none 0 0, .slice none 0 0, .slice R.wh.kp R.wh.n R.wh.kc, .slice R.wh.np R.wh.m R.wh.nc]) (w' := W) ?_ ⟨_, rfl, Below.refl _ _, rfl⟩⟩
        go_simp
      · clear hiq
        clear hk
        refine ⟨_, rfl, rfl, rfl, wp_value (v := .slice (some ⟨W.heap.size, 0, none⟩) 1 1) (w' := W.alloc (.cells #[.string ⟨#[97]⟩] 9)) ?_ ⟨_, rfl, (Below.refl _ W).alloc (Nat.le_refl _) _, _, rfl, heap_alloc_new _ _⟩⟩
        go_simp
      · clear hiq
        clear hk
        refine ⟨_, rfl, rfl, rfl, wp_enter (f := 16) (args := #[.int .i64 9223372036854775807]) ?_ ((ki W).mono ?_)⟩
        · go_simp
        · rintro e w2 ⟨rfl, hb2⟩
          exact ⟨_, rfl, _, rfl, hb2, rfl⟩
      · clear hiq
        have e3 : a.eval (.tmp 27) = .agg #[.int .i64 2, .bool false, .int .i64 9223372036854775807, .string ⟨#[]⟩, .slice none 0 0, .slice none 0 0] := hk 3 (mem_of (by kernel_rfl))
        have f3 := ev e3
        clear hk
        refine ⟨_, rfl, rfl, rfl, wp_value (v := .slice (some ⟨W.heap.size, 0, none⟩) 1 1) (w' := W.alloc (.cells #[.int .i64 2, .bool false, .int .i64 9223372036854775807, .string ⟨#[]⟩, .slice none 0 0, .slice none 0 0] 25)) ?_ ⟨_, rfl, (Below.refl _ W).alloc (Nat.le_refl _) _, _, rfl, heap_alloc_new _ _⟩⟩
        go_simp
      · clear hiq
        obtain ⟨b2, e2, h2⟩ := show NmS (a.eval (.tmp 26)) W from hk 2 (mem_of (by kernel_rfl))
        replace e2 : a.eval (.tmp 26) = .slice (some ⟨b2, 0, none⟩) 1 1 := e2
        have f2 := ev e2
        obtain ⟨b4, e4, h4⟩ := show PtS 9223372036854775807 (a.eval (.tmp 28)) W from hk 4 (mem_of (by kernel_rfl))
        replace e4 : a.eval (.tmp 28) = .slice (some ⟨b4, 0, none⟩) 1 1 := e4
        have f4 := ev e4
        clear hk
        refine ⟨_, rfl, rfl, rfl, wp_enter (f := 20) (args := #[.slice (some ⟨b2, 0, none⟩) 1 1, .slice (some ⟨b4, 0, none⟩) 1 1]) ?_ ((kst W b2 b4 h2 h4).mono ?_)⟩
        · go_simp
        · rintro e w2 ⟨⟨v, rfl, hv⟩, hb2⟩
          exact ⟨_, rfl, _, rfl, hb2, hv⟩
      · clear hiq
        have e1 : a.eval (.tmp 25) = .agg #[.int .i64 R.wh.k, .string R.wh.s, .int .i64 R.wh.vk, .bool R.wh.vb, .int .i64 R.wh.vn, .string R.wh.vs, .slice none 0 0, .slice none 0 0, .slice R.wh.kp R.wh.n R.wh.kc, .slice R.wh.np R.wh.m R.wh.nc] := hk 1 (mem_of (by kernel_rfl))
        have f1 := ev e1
        obtain ⟨ip5, ic5, jp5, jc5, pb5, po5, pc5, nb5, no5, nc5, e5, h5⟩ := show DcS 9223372036854775807 (a.eval (.tmp 29)) W from hk 5 (mem_of (by kernel_rfl))
        replace e5 : a.eval (.tmp 29) = .agg #[.int .i64 6, .bool false, .int .i64 0, .string ⟨#[]⟩, .slice (some ⟨pb5, po5, none⟩) 1 pc5, .slice (some ⟨nb5, no5, none⟩) 1 nc5] := e5
        have f5 := ev e5
        clear hk
        refine ⟨_, rfl, rfl, rfl, wp_enter (f := 13) (args := #[.agg #[.int .i64 R.wh.k, .string R.wh.s, .int .i64 R.wh.vk, .bool R.wh.vb, .int .i64 R.wh.vn, .string R.wh.vs, .slice none 0 0, .slice none 0 0, .slice R.wh.kp R.wh.n R.wh.kc, .slice R.wh.np R.wh.m R.wh.nc], .agg #[.int .i64 6, .bool false, .int .i64 0, .string ⟨#[]⟩, .slice (some ⟨pb5, po5, none⟩) 1 pc5, .slice (some ⟨nb5, no5, none⟩) 1 nc5]]) ?_ ((kh2 W hb ip5 ic5 jp5 jc5 pb5 po5 pc5 nb5 no5 nc5 h5).mono ?_)⟩
        · go_simp
        · rintro e w2 ⟨rfl, hb2⟩
          exact ⟨_, rfl, _, rfl, hb2, rfl⟩
      · clear hiq
        have e6 : a.eval (.tmp 30) = .tuple #[.bool false, .int .i64 180] := hk 6 (mem_of (by kernel_rfl))
        have f6 := ev e6
        clear hk
        refine ⟨_, rfl, rfl, rfl, wp_value (v := .tuple #[.bool false, .int .i64 180]) (w' := W) ?_ ⟨_, rfl, Below.refl _ _, rfl⟩⟩
        go_simp
      · clear hiq
        have e7 : a.eval (.tmp 23) = .tuple #[.bool false, .int .i64 180] := hk 7 (mem_of (by kernel_rfl))
        have f7 := ev e7
        clear hk
        refine ⟨_, rfl, rfl, rfl, wp_value (v := .bool false) (w' := W) ?_ ⟨_, rfl, Below.refl _ _, rfl⟩⟩
        go_simp
      · clear hiq
        have e7 : a.eval (.tmp 23) = .tuple #[.bool false, .int .i64 180] := hk 7 (mem_of (by kernel_rfl))
        have f7 := ev e7
        clear hk
        refine ⟨_, rfl, rfl, rfl, wp_value (v := .int .i64 180) (w' := W) ?_ ⟨_, rfl, Below.refl _ _, rfl⟩⟩
        go_simp
      · clear hiq
        have e8 : a.eval (.tmp 31) = .bool false := hk 8 (mem_of (by kernel_rfl))
        have f8 := ev e8
        clear hk
        refine ⟨_, rfl, rfl, rfl, wp_value (v := .bool false) (w' := W) ?_ ⟨_, rfl, Below.refl _ _, rfl⟩⟩
        go_simp
      · clear hiq
        have e9 : a.eval (.tmp 32) = .int .i64 180 := hk 9 (mem_of (by kernel_rfl))
        have f9 := ev e9
        clear hk
        refine ⟨_, rfl, rfl, rfl, wp_value (v := .int .i64 180) (w' := W) ?_ ⟨_, rfl, Below.refl _ _, rfl⟩⟩
        go_simp
    case post =>
      intro V2 W2 hbW2 hV2
      have u10 : V2 10 = .bool false := hV2 10 (by omega)
      have u11 : V2 11 = .int .i64 180 := hV2 11 (by omega)
      have H4 : Hid (Below w.heap.size w W2) := H3.out.1.trans (hbW2.mono H3.out.1.size)
      clear hV2 hbW2 kst ki kh2 r3 H3
      simp only [putAll, reduceIte, Nat.reduceLT, Nat.reduceEqDiff, Nat.reduceAdd, Nat.reduceSub]
      rw [u10, u11]
      simp only [Act.put, List.setIfInBounds_toArray, List.set_cons_zero, List.set_cons_succ]
      change wpList _ _ _ [] _ _
      go_wp2
      go_ret
      exact ⟨rfl, H4.out⟩
end Go.Proofs.YtnnclhmhbmbkfaaGreatDoor
namespace Go.Proofs.YtnnclhmhbmbkfaaGreatDoor
open Go.RowKit Go.Shelf
attribute [local go_sem] Oper.semAt_some
theorem at10_row {w : World} {g o : Nat} {cs : Array Value} {t : TypeId} {R : XR} (h : w.heap[g]? = some (.cells cs t (0, 0))) (hc : ∀ j, j < 10 → cs[o + j]? = (arrX R)[j]?) : At10 w g o R := fun j hj => (cell_of_row w g (o + j) _ _ _ h).trans (hc j hj)
theorem cs_0 (L : List Value) : ∀ j, j < 10 → (List.toArray ([.int .i64 1, .string ⟨#[]⟩, .int .i64 1, .bool false, .int .i64 0, .string ⟨#[]⟩, .slice none 0 0, .slice none 0 0, .slice none 0 0, .slice none 0 0] ++ L))[0 + j]? = (arrX (litR (okL false)))[j]? := by
  intro j hj
  obtain rfl | rfl | rfl | rfl | rfl | rfl | rfl | rfl | rfl | rfl : j = 0 ∨ j = 1 ∨ j = 2 ∨ j = 3 ∨ j = 4 ∨ j = 5 ∨ j = 6 ∨ j = 7 ∨ j = 8 ∨ j = 9 := by omega
  all_goals rfl
theorem cs_00 : ∀ j, j < 10 → (#[.int .i64 1, .string ⟨#[]⟩, .int .i64 1, .bool false, .int .i64 0, .string ⟨#[]⟩, .slice none 0 0, .slice none 0 0, .slice none 0 0, .slice none 0 0, .int .i64 1, .string ⟨#[]⟩, .int .i64 1, .bool false, .int .i64 0, .string ⟨#[]⟩, .slice none 0 0, .slice none 0 0, .slice none 0 0, .slice none 0 0])[10 + j]? = (arrX (litR (okL false)))[j]? := by
  intro j hj
  obtain rfl | rfl | rfl | rfl | rfl | rfl | rfl | rfl | rfl | rfl : j = 0 ∨ j = 1 ∨ j = 2 ∨ j = 3 ∨ j = 4 ∨ j = 5 ∨ j = 6 ∨ j = 7 ∨ j = 8 ∨ j = 9 := by omega
  all_goals rfl
theorem cs_01 : ∀ j, j < 10 → (#[.int .i64 1, .string ⟨#[]⟩, .int .i64 1, .bool false, .int .i64 0, .string ⟨#[]⟩, .slice none 0 0, .slice none 0 0, .slice none 0 0, .slice none 0 0, .int .i64 1, .string ⟨#[]⟩, .int .i64 1, .bool true, .int .i64 0, .string ⟨#[]⟩, .slice none 0 0, .slice none 0 0, .slice none 0 0, .slice none 0 0])[10 + j]? = (arrX (litR (okL true)))[j]? := by
  intro j hj
  obtain rfl | rfl | rfl | rfl | rfl | rfl | rfl | rfl | rfl | rfl : j = 0 ∨ j = 1 ∨ j = 2 ∨ j = 3 ∨ j = 4 ∨ j = 5 ∨ j = 6 ∨ j = 7 ∨ j = 8 ∨ j = 9 := by omega
  all_goals rfl
theorem cs_02 : ∀ j, j < 10 → (#[.int .i64 1, .string ⟨#[]⟩, .int .i64 1, .bool false, .int .i64 0, .string ⟨#[]⟩, .slice none 0 0, .slice none 0 0, .slice none 0 0, .slice none 0 0, .int .i64 1, .string ⟨#[]⟩, .int .i64 0, .bool false, .int .i64 0, .string ⟨#[]⟩, .slice none 0 0, .slice none 0 0, .slice none 0 0, .slice none 0 0])[10 + j]? = (arrX (litR (noL)))[j]? := by
  intro j hj
  obtain rfl | rfl | rfl | rfl | rfl | rfl | rfl | rfl | rfl | rfl : j = 0 ∨ j = 1 ∨ j = 2 ∨ j = 3 ∨ j = 4 ∨ j = 5 ∨ j = 6 ∨ j = 7 ∨ j = 8 ∨ j = 9 := by omega
  all_goals rfl
theorem cs_03 : ∀ j, j < 10 → (#[.int .i64 1, .string ⟨#[]⟩, .int .i64 1, .bool false, .int .i64 0, .string ⟨#[]⟩, .slice none 0 0, .slice none 0 0, .slice none 0 0, .slice none 0 0, .int .i64 1, .string ⟨#[]⟩, .int .i64 2, .bool false, .int .i64 1, .string ⟨#[]⟩, .slice none 0 0, .slice none 0 0, .slice none 0 0, .slice none 0 0])[10 + j]? = (arrX (litR (inL 1)))[j]? := by
  intro j hj
  obtain rfl | rfl | rfl | rfl | rfl | rfl | rfl | rfl | rfl | rfl : j = 0 ∨ j = 1 ∨ j = 2 ∨ j = 3 ∨ j = 4 ∨ j = 5 ∨ j = 6 ∨ j = 7 ∨ j = 8 ∨ j = 9 := by omega
  all_goals rfl
theorem cs_1 (L : List Value) : ∀ j, j < 10 → (List.toArray ([.int .i64 1, .string ⟨#[]⟩, .int .i64 1, .bool true, .int .i64 0, .string ⟨#[]⟩, .slice none 0 0, .slice none 0 0, .slice none 0 0, .slice none 0 0] ++ L))[0 + j]? = (arrX (litR (okL true)))[j]? := by
  intro j hj
  obtain rfl | rfl | rfl | rfl | rfl | rfl | rfl | rfl | rfl | rfl : j = 0 ∨ j = 1 ∨ j = 2 ∨ j = 3 ∨ j = 4 ∨ j = 5 ∨ j = 6 ∨ j = 7 ∨ j = 8 ∨ j = 9 := by omega
  all_goals rfl
theorem cs_10 : ∀ j, j < 10 → (#[.int .i64 1, .string ⟨#[]⟩, .int .i64 1, .bool true, .int .i64 0, .string ⟨#[]⟩, .slice none 0 0, .slice none 0 0, .slice none 0 0, .slice none 0 0, .int .i64 1, .string ⟨#[]⟩, .int .i64 1, .bool false, .int .i64 0, .string ⟨#[]⟩, .slice none 0 0, .slice none 0 0, .slice none 0 0, .slice none 0 0])[10 + j]? = (arrX (litR (okL false)))[j]? := by
  intro j hj
  obtain rfl | rfl | rfl | rfl | rfl | rfl | rfl | rfl | rfl | rfl : j = 0 ∨ j = 1 ∨ j = 2 ∨ j = 3 ∨ j = 4 ∨ j = 5 ∨ j = 6 ∨ j = 7 ∨ j = 8 ∨ j = 9 := by omega
  all_goals rfl
theorem cs_11 : ∀ j, j < 10 → (#[.int .i64 1, .string ⟨#[]⟩, .int .i64 1, .bool true, .int .i64 0, .string ⟨#[]⟩, .slice none 0 0, .slice none 0 0, .slice none 0 0, .slice none 0 0, .int .i64 1, .string ⟨#[]⟩, .int .i64 1, .bool true, .int .i64 0, .string ⟨#[]⟩, .slice none 0 0, .slice none 0 0, .slice none 0 0, .slice none 0 0])[10 + j]? = (arrX (litR (okL true)))[j]? := by
  intro j hj
  obtain rfl | rfl | rfl | rfl | rfl | rfl | rfl | rfl | rfl | rfl : j = 0 ∨ j = 1 ∨ j = 2 ∨ j = 3 ∨ j = 4 ∨ j = 5 ∨ j = 6 ∨ j = 7 ∨ j = 8 ∨ j = 9 := by omega
  all_goals rfl
theorem cs_12 : ∀ j, j < 10 → (#[.int .i64 1, .string ⟨#[]⟩, .int .i64 1, .bool true, .int .i64 0, .string ⟨#[]⟩, .slice none 0 0, .slice none 0 0, .slice none 0 0, .slice none 0 0, .int .i64 1, .string ⟨#[]⟩, .int .i64 0, .bool false, .int .i64 0, .string ⟨#[]⟩, .slice none 0 0, .slice none 0 0, .slice none 0 0, .slice none 0 0])[10 + j]? = (arrX (litR (noL)))[j]? := by
  intro j hj
  obtain rfl | rfl | rfl | rfl | rfl | rfl | rfl | rfl | rfl | rfl : j = 0 ∨ j = 1 ∨ j = 2 ∨ j = 3 ∨ j = 4 ∨ j = 5 ∨ j = 6 ∨ j = 7 ∨ j = 8 ∨ j = 9 := by omega
  all_goals rfl
theorem cs_13 : ∀ j, j < 10 → (#[.int .i64 1, .string ⟨#[]⟩, .int .i64 1, .bool true, .int .i64 0, .string ⟨#[]⟩, .slice none 0 0, .slice none 0 0, .slice none 0 0, .slice none 0 0, .int .i64 1, .string ⟨#[]⟩, .int .i64 2, .bool false, .int .i64 1, .string ⟨#[]⟩, .slice none 0 0, .slice none 0 0, .slice none 0 0, .slice none 0 0])[10 + j]? = (arrX (litR (inL 1)))[j]? := by
  intro j hj
  obtain rfl | rfl | rfl | rfl | rfl | rfl | rfl | rfl | rfl | rfl : j = 0 ∨ j = 1 ∨ j = 2 ∨ j = 3 ∨ j = 4 ∨ j = 5 ∨ j = 6 ∨ j = 7 ∨ j = 8 ∨ j = 9 := by omega
  all_goals rfl
theorem cs_2 (L : List Value) : ∀ j, j < 10 → (List.toArray ([.int .i64 1, .string ⟨#[]⟩, .int .i64 0, .bool false, .int .i64 0, .string ⟨#[]⟩, .slice none 0 0, .slice none 0 0, .slice none 0 0, .slice none 0 0] ++ L))[0 + j]? = (arrX (litR (noL)))[j]? := by
  intro j hj
  obtain rfl | rfl | rfl | rfl | rfl | rfl | rfl | rfl | rfl | rfl : j = 0 ∨ j = 1 ∨ j = 2 ∨ j = 3 ∨ j = 4 ∨ j = 5 ∨ j = 6 ∨ j = 7 ∨ j = 8 ∨ j = 9 := by omega
  all_goals rfl
theorem cs_20 : ∀ j, j < 10 → (#[.int .i64 1, .string ⟨#[]⟩, .int .i64 0, .bool false, .int .i64 0, .string ⟨#[]⟩, .slice none 0 0, .slice none 0 0, .slice none 0 0, .slice none 0 0, .int .i64 1, .string ⟨#[]⟩, .int .i64 1, .bool false, .int .i64 0, .string ⟨#[]⟩, .slice none 0 0, .slice none 0 0, .slice none 0 0, .slice none 0 0])[10 + j]? = (arrX (litR (okL false)))[j]? := by
  intro j hj
  obtain rfl | rfl | rfl | rfl | rfl | rfl | rfl | rfl | rfl | rfl : j = 0 ∨ j = 1 ∨ j = 2 ∨ j = 3 ∨ j = 4 ∨ j = 5 ∨ j = 6 ∨ j = 7 ∨ j = 8 ∨ j = 9 := by omega
  all_goals rfl
theorem cs_21 : ∀ j, j < 10 → (#[.int .i64 1, .string ⟨#[]⟩, .int .i64 0, .bool false, .int .i64 0, .string ⟨#[]⟩, .slice none 0 0, .slice none 0 0, .slice none 0 0, .slice none 0 0, .int .i64 1, .string ⟨#[]⟩, .int .i64 1, .bool true, .int .i64 0, .string ⟨#[]⟩, .slice none 0 0, .slice none 0 0, .slice none 0 0, .slice none 0 0])[10 + j]? = (arrX (litR (okL true)))[j]? := by
  intro j hj
  obtain rfl | rfl | rfl | rfl | rfl | rfl | rfl | rfl | rfl | rfl : j = 0 ∨ j = 1 ∨ j = 2 ∨ j = 3 ∨ j = 4 ∨ j = 5 ∨ j = 6 ∨ j = 7 ∨ j = 8 ∨ j = 9 := by omega
  all_goals rfl
theorem cs_22 : ∀ j, j < 10 → (#[.int .i64 1, .string ⟨#[]⟩, .int .i64 0, .bool false, .int .i64 0, .string ⟨#[]⟩, .slice none 0 0, .slice none 0 0, .slice none 0 0, .slice none 0 0, .int .i64 1, .string ⟨#[]⟩, .int .i64 0, .bool false, .int .i64 0, .string ⟨#[]⟩, .slice none 0 0, .slice none 0 0, .slice none 0 0, .slice none 0 0])[10 + j]? = (arrX (litR (noL)))[j]? := by
  intro j hj
  obtain rfl | rfl | rfl | rfl | rfl | rfl | rfl | rfl | rfl | rfl : j = 0 ∨ j = 1 ∨ j = 2 ∨ j = 3 ∨ j = 4 ∨ j = 5 ∨ j = 6 ∨ j = 7 ∨ j = 8 ∨ j = 9 := by omega
  all_goals rfl
theorem cs_23 : ∀ j, j < 10 → (#[.int .i64 1, .string ⟨#[]⟩, .int .i64 0, .bool false, .int .i64 0, .string ⟨#[]⟩, .slice none 0 0, .slice none 0 0, .slice none 0 0, .slice none 0 0, .int .i64 1, .string ⟨#[]⟩, .int .i64 2, .bool false, .int .i64 1, .string ⟨#[]⟩, .slice none 0 0, .slice none 0 0, .slice none 0 0, .slice none 0 0])[10 + j]? = (arrX (litR (inL 1)))[j]? := by
  intro j hj
  obtain rfl | rfl | rfl | rfl | rfl | rfl | rfl | rfl | rfl | rfl : j = 0 ∨ j = 1 ∨ j = 2 ∨ j = 3 ∨ j = 4 ∨ j = 5 ∨ j = 6 ∨ j = 7 ∨ j = 8 ∨ j = 9 := by omega
  all_goals rfl
theorem cs_3 (L : List Value) : ∀ j, j < 10 → (List.toArray ([.int .i64 1, .string ⟨#[]⟩, .int .i64 2, .bool false, .int .i64 1, .string ⟨#[]⟩, .slice none 0 0, .slice none 0 0, .slice none 0 0, .slice none 0 0] ++ L))[0 + j]? = (arrX (litR (inL 1)))[j]? := by
  intro j hj
  obtain rfl | rfl | rfl | rfl | rfl | rfl | rfl | rfl | rfl | rfl : j = 0 ∨ j = 1 ∨ j = 2 ∨ j = 3 ∨ j = 4 ∨ j = 5 ∨ j = 6 ∨ j = 7 ∨ j = 8 ∨ j = 9 := by omega
  all_goals rfl
theorem cs_30 : ∀ j, j < 10 → (#[.int .i64 1, .string ⟨#[]⟩, .int .i64 2, .bool false, .int .i64 1, .string ⟨#[]⟩, .slice none 0 0, .slice none 0 0, .slice none 0 0, .slice none 0 0, .int .i64 1, .string ⟨#[]⟩, .int .i64 1, .bool false, .int .i64 0, .string ⟨#[]⟩, .slice none 0 0, .slice none 0 0, .slice none 0 0, .slice none 0 0])[10 + j]? = (arrX (litR (okL false)))[j]? := by
  intro j hj
  obtain rfl | rfl | rfl | rfl | rfl | rfl | rfl | rfl | rfl | rfl : j = 0 ∨ j = 1 ∨ j = 2 ∨ j = 3 ∨ j = 4 ∨ j = 5 ∨ j = 6 ∨ j = 7 ∨ j = 8 ∨ j = 9 := by omega
  all_goals rfl
theorem cs_31 : ∀ j, j < 10 → (#[.int .i64 1, .string ⟨#[]⟩, .int .i64 2, .bool false, .int .i64 1, .string ⟨#[]⟩, .slice none 0 0, .slice none 0 0, .slice none 0 0, .slice none 0 0, .int .i64 1, .string ⟨#[]⟩, .int .i64 1, .bool true, .int .i64 0, .string ⟨#[]⟩, .slice none 0 0, .slice none 0 0, .slice none 0 0, .slice none 0 0])[10 + j]? = (arrX (litR (okL true)))[j]? := by
  intro j hj
  obtain rfl | rfl | rfl | rfl | rfl | rfl | rfl | rfl | rfl | rfl : j = 0 ∨ j = 1 ∨ j = 2 ∨ j = 3 ∨ j = 4 ∨ j = 5 ∨ j = 6 ∨ j = 7 ∨ j = 8 ∨ j = 9 := by omega
  all_goals rfl
theorem cs_32 : ∀ j, j < 10 → (#[.int .i64 1, .string ⟨#[]⟩, .int .i64 2, .bool false, .int .i64 1, .string ⟨#[]⟩, .slice none 0 0, .slice none 0 0, .slice none 0 0, .slice none 0 0, .int .i64 1, .string ⟨#[]⟩, .int .i64 0, .bool false, .int .i64 0, .string ⟨#[]⟩, .slice none 0 0, .slice none 0 0, .slice none 0 0, .slice none 0 0])[10 + j]? = (arrX (litR (noL)))[j]? := by
  intro j hj
  obtain rfl | rfl | rfl | rfl | rfl | rfl | rfl | rfl | rfl | rfl : j = 0 ∨ j = 1 ∨ j = 2 ∨ j = 3 ∨ j = 4 ∨ j = 5 ∨ j = 6 ∨ j = 7 ∨ j = 8 ∨ j = 9 := by omega
  all_goals rfl
theorem cs_33 : ∀ j, j < 10 → (#[.int .i64 1, .string ⟨#[]⟩, .int .i64 2, .bool false, .int .i64 1, .string ⟨#[]⟩, .slice none 0 0, .slice none 0 0, .slice none 0 0, .slice none 0 0, .int .i64 1, .string ⟨#[]⟩, .int .i64 2, .bool false, .int .i64 1, .string ⟨#[]⟩, .slice none 0 0, .slice none 0 0, .slice none 0 0, .slice none 0 0])[10 + j]? = (arrX (litR (inL 1)))[j]? := by
  intro j hj
  obtain rfl | rfl | rfl | rfl | rfl | rfl | rfl | rfl | rfl | rfl : j = 0 ∨ j = 1 ∨ j = 2 ∨ j = 3 ∨ j = 4 ∨ j = 5 ∨ j = 6 ∨ j = 7 ∨ j = 8 ∨ j = 9 := by omega
  all_goals rfl
end Go.Proofs.YtnnclhmhbmbkfaaGreatDoor
