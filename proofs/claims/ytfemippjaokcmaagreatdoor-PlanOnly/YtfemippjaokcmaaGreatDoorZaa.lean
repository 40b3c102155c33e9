/- PlanOnly: plain: expressions of which no part says a span of a field that serves. PlanOnly called. -/
import Derived.Test.YtfemippjaokcmaaGreatDoorXbc
namespace Go.Proofs.YtfemippjaokcmaaGreatDoor
open Go.RowKit Go.Shelf
attribute [local go_sem] Oper.semAt_some fw0 fw1 fw2 eql35
def onlyL : List ByteArray := [⟨#[97, 32, 61, 32, 49, 32, 79, 82, 32, 97, 32, 61, 32, 50]⟩, ⟨#[78, 79, 84, 32, 97, 32, 61, 32, 49]⟩, ⟨#[97, 32, 61, 32, 98]⟩, ⟨#[99, 46, 97, 32, 61, 32, 49]⟩, ⟨#[97, 32, 60, 62, 32, 49]⟩, ⟨#[97, 32, 43, 32, 49, 32, 61, 32, 50]⟩, ⟨#[97, 32, 73, 83, 32, 78, 85, 76, 76]⟩, ⟨#[84, 82, 85, 69]⟩]
/- What no index serves. -/
def dull (t : Et) : Bool := (saidE t).1.toList.isEmpty || dotB (saidE t).1
structure Only (tx : ByteArray) : Prop where
  ok : (psF tx.data.toList).2 = true
  k : ((psF tx.data.toList).1 []).k ≠ 0
  one : ¬ (((psF tx.data.toList).1 []).k = 6 ∧ ((psF tx.data.toList).1 []).s.data.toList = [65, 78, 68] ∧ ((psF tx.data.toList).1 []).n = 2)
  lits : LitsOk (psF tx.data.toList).1
  dull : dull (psF tx.data.toList).1 = true
  short : (saidE (psF tx.data.toList).1).2.2.size ≤ 20000
  sz : tx.size ≤ 100
  del : isP (wAt (wordsR (preL ++ tx.data.toList)).1 0) 2 [68, 69, 76, 69, 84, 69] = true
set_option maxRecDepth 100000 in
theorem only_0 : Only ⟨#[97, 32, 61, 32, 49, 32, 79, 82, 32, 97, 32, 61, 32, 50]⟩ := ⟨by decide +kernel, by decide +kernel, by decide +kernel, lits_of (by decide +kernel) (by decide +kernel), by decide +kernel, by decide +kernel, by decide +kernel, by decide +kernel⟩
set_option maxRecDepth 100000 in
theorem only_1 : Only ⟨#[78, 79, 84, 32, 97, 32, 61, 32, 49]⟩ := ⟨by decide +kernel, by decide +kernel, by decide +kernel, lits_of (by decide +kernel) (by decide +kernel), by decide +kernel, by decide +kernel, by decide +kernel, by decide +kernel⟩
set_option maxRecDepth 100000 in
theorem only_2 : Only ⟨#[97, 32, 61, 32, 98]⟩ := ⟨by decide +kernel, by decide +kernel, by decide +kernel, lits_of (by decide +kernel) (by decide +kernel), by decide +kernel, by decide +kernel, by decide +kernel, by decide +kernel⟩
set_option maxRecDepth 100000 in
theorem only_3 : Only ⟨#[99, 46, 97, 32, 61, 32, 49]⟩ := ⟨by decide +kernel, by decide +kernel, by decide +kernel, lits_of (by decide +kernel) (by decide +kernel), by decide +kernel, by decide +kernel, by decide +kernel, by decide +kernel⟩
set_option maxRecDepth 100000 in
theorem only_4 : Only ⟨#[97, 32, 60, 62, 32, 49]⟩ := ⟨by decide +kernel, by decide +kernel, by decide +kernel, lits_of (by decide +kernel) (by decide +kernel), by decide +kernel, by decide +kernel, by decide +kernel, by decide +kernel⟩
set_option maxRecDepth 100000 in
theorem only_5 : Only ⟨#[97, 32, 43, 32, 49, 32, 61, 32, 50]⟩ := ⟨by decide +kernel, by decide +kernel, by decide +kernel, lits_of (by decide +kernel) (by decide +kernel), by decide +kernel, by decide +kernel, by decide +kernel, by decide +kernel⟩
set_option maxRecDepth 100000 in
theorem only_6 : Only ⟨#[97, 32, 73, 83, 32, 78, 85, 76, 76]⟩ := ⟨by decide +kernel, by decide +kernel, by decide +kernel, lits_of (by decide +kernel) (by decide +kernel), by decide +kernel, by decide +kernel, by decide +kernel, by decide +kernel⟩
set_option maxRecDepth 100000 in
theorem only_7 : Only ⟨#[84, 82, 85, 69]⟩ := ⟨by decide +kernel, by decide +kernel, by decide +kernel, lits_of (by decide +kernel) (by decide +kernel), by decide +kernel, by decide +kernel, by decide +kernel, by decide +kernel⟩
theorem only_all : ∀ tx ∈ onlyL, Only tx := by
  intro tx h
  unfold onlyL at h
  simp only [List.mem_cons, List.not_mem_nil, or_false] at h
  rcases h with rfl | rfl | rfl | rfl | rfl | rfl | rfl | rfl
  · exact only_0
  · exact only_1
  · exact only_2
  · exact only_3
  · exact only_4
  · exact only_5
  · exact only_6
  · exact only_7
theorem dull_serves {t : Et} (h : dull t = true) (l : List ByteArray) : servesB (saidE t).1 l = false := by
  unfold dull at h
  unfold servesB
  rcases Bool.or_eq_true _ _ ▸ h with h | h
  · rw [h]; rfl
  · rw [h]; simp
/- Two of them that AND joins. -/
theorem both_parts {d : Nat} {x y : ByteArray} (hx : Only x) (hy : Only y) : partsE (d + 2) (binT ⟨#[65, 78, 68]⟩ (psF x.data.toList).1 (psF y.data.toList).1) = [(psF x.data.toList).1, (psF y.data.toList).1] := by
  rw [parts_and (t := binT ⟨#[65, 78, 68]⟩ (psF x.data.toList).1 (psF y.data.toList).1) ⟨rfl, rfl, rfl⟩]
  show partsE (d + 1) (psF x.data.toList).1 ++ partsE (d + 1) (psF y.data.toList).1 = _
  rw [parts_one hx.k hx.one, parts_one hy.k hy.one]
  rfl
theorem both_plan {x y : ByteArray} (hx : Only x) (hy : Only y) (l : List ByteArray) : chooseL [saidE (psF x.data.toList).1, saidE (psF y.data.toList).1] l = noP := by
  unfold chooseL
  rw [List.find?_eq_none.2 (fun p hp => ?_)]
  simp only [List.mem_cons, List.not_mem_nil, or_false] at hp
  rcases hp with rfl | rfl
  · rw [dull_serves hx.dull]; exact Bool.false_ne_true
  · rw [dull_serves hy.dull]; exact Bool.false_ne_true
theorem both_choose {d : Nat} {R : XR} {W : World} {x y : ByteArray} (hx : Only x) (hy : Only y) (h : LiesE W (fun k => k < W.heap.size) (d + 2) (binT ⟨#[65, 78, 68]⟩ (psF x.data.toList).1 (psF y.data.toList).1) (rowX R)) (hg : V.Gm W) (p : Option Addr) (c : Nat) (l : List ByteArray) (hI : Ixs W p l) :
    Calls Tryz.prog 9 #[rowX R, .slice p l.length c] W (GivesP3 W noP) := by
  have h := choose_any (k := R.k) (s := R.s) (vk := R.vk) (vb := R.vb) (vn := R.vn) (vs := R.vs) (kp := R.kp) (nk := R.n) (kc := R.kc) (np := R.np) (nm := R.m) (nc := R.nc) h hg (by rw [both_parts hx hy]; show 2 ≤ 100000; decide) (fun z hz => by
    rw [both_parts hx hy] at hz
    simp only [List.mem_cons, List.not_mem_nil, or_false] at hz
    rcases hz with rfl | rfl
    · exact hx.lits
    · exact hy.lits) (by
    rw [both_parts hx hy]
    intro q hq
    simp only [List.map_cons, List.map_nil, List.mem_cons, List.not_mem_nil, or_false] at hq
    rcases hq with rfl | rfl
    · exact hx.short
    · exact hy.short) p c l hI
  rw [both_parts hx hy] at h
  simp only [List.map_cons, List.map_nil] at h
  rw [both_plan hx hy] at h
  exact h
theorem LiesE.both {w : World} {S : Nat → Prop} {g : Nat} (hg : S g) {T : TypeId} {fr : Nat × Nat} {d : Nat} {sg : ByteArray} {t u : Et} {k0 : Int} {s0 : ByteArray} {vk0 : Int} {vb0 : Bool} {vn0 : Int} {vs0 : ByteArray} {kp0 : Option Addr} {nk0 kc0 : Nat} {np0 : Option Addr} {nm0 nc0 : Nat} {k1 : Int} {s1 : ByteArray} {vk1 : Int} {vb1 : Bool} {vn1 : Int} {vs1 : ByteArray} {kp1 : Option Addr} {nk1 kc1 : Nat} {np1 : Option Addr} {nm1 nc1 : Nat}
    (h : w.heap[g]? = some (.cells #[.int .i64 k0, .string s0, .int .i64 vk0, .bool vb0, .int .i64 vn0, .string vs0, .slice none 0 0, .slice none 0 0, .slice kp0 nk0 kc0, .slice np0 nm0 nc0, .int .i64 k1, .string s1, .int .i64 vk1, .bool vb1, .int .i64 vn1, .string vs1, .slice none 0 0, .slice none 0 0, .slice kp1 nk1 kc1, .slice np1 nm1 nc1] T fr)) (L : LiesE w S d t (rowX ⟨k0, s0, vk0, vb0, vn0, vs0, kp0, nk0, kc0, np0, nm0, nc0⟩)) (M : LiesE w S d u (rowX ⟨k1, s1, vk1, vb1, vn1, vs1, kp1, nk1, kc1, np1, nm1, nc1⟩)) : LiesE w S (d + 1) (binT sg t u) (rowX ⟨6, sg, 0, false, 0, ⟨#[]⟩, some ⟨g, 0, none⟩, 2, 2, none, 0, 0⟩) := by
  refine ⟨_, _, _, _, _, rfl, Nms.none _ _ _, Kds.ofRow (n := 2) (c := 2) hg h (by simp) (by decide), fun i hi => ?_⟩
  have hi' : i < 2 := hi
  rcases (by omega : i = 0 ∨ i = 1) with rfl | rfl
  · exact L
  · exact M
theorem bits7 (a : Int) : ∃ i : Nat, i < 8 ∧ bits .and .i64 a 7 = (i : Int) := by
  unfold bits
  have h : (BitVec.ofInt IntKind.i64.bits a &&& BitVec.ofInt IntKind.i64.bits 7).toNat ≤ 7 := by
    rw [BitVec.toNat_and]
    exact Nat.and_le_right
  obtain ⟨n, hn⟩ : ∃ n, (BitVec.ofInt IntKind.i64.bits a &&& BitVec.ofInt IntKind.i64.bits 7).toNat = n := ⟨_, rfl⟩
  rw [hn] at h
  refine ⟨n, by omega, ?_⟩
  show IntKind.i64.wrap (((BitVec.ofInt IntKind.i64.bits a &&& BitVec.ofInt IntKind.i64.bits 7).toNat : Nat) : Int) = (n : Int)
  rw [hn, IntKind.wrap_i64]
  omega
end Go.Proofs.YtfemippjaokcmaaGreatDoor
namespace Go.Proofs.YtfemippjaokcmaaGreatDoor
open Go.RowKit Go.Shelf
attribute [local go_sem] Oper.semAt_some fw0 fw1 fw2 eql35
set_option maxRecDepth 100000 in
set_option maxHeartbeats 8000000 in
theorem only_walk (a b : ByteArray) (kd : Int) (w : World) (he : Ev w) (hg : V.Gm w) : Calls Tryz.prog 6 #[.string a, .string b, .int .i64 kd] w fun e w' => e = .returned (.bool true) ∧ Below w.heap.size w w' := by
  obtain ⟨i, hi, hi7⟩ := bits7 kd
  obtain ⟨tx, htx⟩ : ∃ tx, onlyL[i]? = some tx := ⟨_, List.getElem?_eq_getElem (by show i < 8; exact hi)⟩
  have ox := only_all tx (List.mem_of_getElem? htx)
  obtain ⟨j, hj, hj7⟩ := bits7 (kd / 8)
  obtain ⟨ty, hty⟩ : ∃ ty, onlyL[j]? = some ty := ⟨_, List.getElem?_eq_getElem (by show j < 8; exact hj)⟩
  have oy := only_all ty (List.mem_of_getElem? hty)
  have hj0 : (j : Int) < 8 := by omega
  have HTY := mkHid hty
  have HOY := mkHid oy
  obtain ⟨w1, hw1⟩ : ∃ u, w.alloc (.cells #[.string ⟨#[97, 32, 61, 32, 49, 32, 79, 82, 32, 97, 32, 61, 32, 50]⟩, .string ⟨#[78, 79, 84, 32, 97, 32, 61, 32, 49]⟩, .string ⟨#[97, 32, 61, 32, 98]⟩, .string ⟨#[99, 46, 97, 32, 61, 32, 49]⟩, .string ⟨#[97, 32, 60, 62, 32, 49]⟩, .string ⟨#[97, 32, 43, 32, 49, 32, 61, 32, 50]⟩, .string ⟨#[97, 32, 73, 83, 32, 78, 85, 76, 76]⟩, .string ⟨#[84, 82, 85, 69]⟩] 9) = u := ⟨_, rfl⟩
  obtain ⟨r1, hb1⟩ := alloc1 hw1
  have HW1 := mkHid hw1
  have row_at : ∀ (W : World) (b i : Nat) (tx : ByteArray), W.heap[b]? = some (.cells #[.string ⟨#[97, 32, 61, 32, 49, 32, 79, 82, 32, 97, 32, 61, 32, 50]⟩, .string ⟨#[78, 79, 84, 32, 97, 32, 61, 32, 49]⟩, .string ⟨#[97, 32, 61, 32, 98]⟩, .string ⟨#[99, 46, 97, 32, 61, 32, 49]⟩, .string ⟨#[97, 32, 60, 62, 32, 49]⟩, .string ⟨#[97, 32, 43, 32, 49, 32, 61, 32, 50]⟩, .string ⟨#[97, 32, 73, 83, 32, 78, 85, 76, 76]⟩, .string ⟨#[84, 82, 85, 69]⟩] 9 (0, 0)) → onlyL[i]? = some tx → W.cell? ⟨b, i, none⟩ = some (.string tx) := fun W b i tx h hx => by
    rw [cell_of_row W b i _ _ _ h]
    have e : #[.string ⟨#[97, 32, 61, 32, 49, 32, 79, 82, 32, 97, 32, 61, 32, 50]⟩, .string ⟨#[78, 79, 84, 32, 97, 32, 61, 32, 49]⟩, .string ⟨#[97, 32, 61, 32, 98]⟩, .string ⟨#[99, 46, 97, 32, 61, 32, 49]⟩, .string ⟨#[97, 32, 60, 62, 32, 49]⟩, .string ⟨#[97, 32, 43, 32, 49, 32, 61, 32, 50]⟩, .string ⟨#[97, 32, 73, 83, 32, 78, 85, 76, 76]⟩, .string ⟨#[84, 82, 85, 69]⟩] = (onlyL.map Value.string).toArray := rfl
    rw [e, List.getElem?_toArray, List.getElem?_map, hx]
    rfl
  have cx := row_at w1 _ i tx r1 htx
  have kp := parsed_by tx (by have := ox.sz; omega) (stm_del fun _ => ox.del) w1 (he.later hb1)
  have hi0 : (i : Int) < 8 := by omega
  have HH : Hid (Ev w ∧ V.Gm w ∧ Only tx ∧ Below w.heap.size w w1) := ⟨he, hg, ox, hb1⟩
  have HROW := mkHid row_at
  have HR1 := mkHid r1
  clear he hg ox row_at r1 hb1 hw1 htx hty oy
  go_enter Tryz.func6, Tryz.ntmps6
  go_wp2_with (first | rw [HW1.out] | fail)
  refine kp.mono ?_
  rintro e w2 ⟨⟨k0, s0, vk0, vb0, vn0, vs0, kp0, nk0, kc0, np0, nm0, nc0⟩, d0, rfl, hx0, hb2⟩
  rw [HH.out.2.2.1.ok]
  obtain ⟨w3, hw3⟩ : ∃ u, w2.alloc (.cells #[.int .i64 k0, .string s0, .int .i64 vk0, .bool vb0, .int .i64 vn0, .string vs0, .slice none 0 0, .slice none 0 0, .slice kp0 nk0 kc0, .slice np0 nm0 nc0] 28) = u := ⟨_, rfl⟩
  obtain ⟨r3, hb3⟩ := alloc1 hw3
  have HW3 := mkHid hw3
  have hb13 : Below w1.heap.size w1 w3 := hb2.trans (hb3.mono hb2.size)
  have H3 : Hid (Below w.heap.size w w3 ∧ LiesE w3 (fun k => k < w3.heap.size) d0 (psF tx.data.toList).1 (rowX ⟨k0, s0, vk0, vb0, vn0, vs0, kp0, nk0, kc0, np0, nm0, nc0⟩)) := ⟨HH.out.2.2.2.trans (hb13.mono HH.out.2.2.2.size), (hx0.since (Since.below hb3)).imp (fun k _ hl => hl)⟩
  have r13 := Below.row hb13 HR1.out
  have cy := HROW.out w3 _ j ty r13 HTY.out
  have kp2 := parsed_by ty (by have := HOY.out.sz; omega) (stm_del fun _ => HOY.out.del) w3 (HH.out.1.later H3.out.1)
  have HR3 := mkHid r3
  clear kp cx hb2 hb3 hx0 hw3 r3 r13 hb13
  unfold rowX
  go_wp2_with (first | rw [HW3.out] | fail)
  obtain ⟨z8, hz8⟩ : ∃ z, w2.heap.size = z := ⟨_, rfl⟩
  rw [hz8] at HR3 ⊢
  clear hz8 HW3
  refine kp2.mono ?_
  rintro e w4 ⟨⟨k1, s1, vk1, vb1, vn1, vs1, kp1, nk1, kc1, np1, nm1, nc1⟩, d1, rfl, hx1, hb4⟩
  rw [HOY.out.ok]
  obtain ⟨w5, hw5⟩ : ∃ u, w4.alloc (.cells #[.int .i64 k1, .string s1, .int .i64 vk1, .bool vb1, .int .i64 vn1, .string vs1, .slice none 0 0, .slice none 0 0, .slice kp1 nk1 kc1, .slice np1 nm1 nc1] 28) = u := ⟨_, rfl⟩
  obtain ⟨r5, hb5⟩ := alloc1 hw5
  have HW5 := mkHid hw5
  have hb35 : Below w3.heap.size w3 w5 := hb4.trans (hb5.mono hb4.size)
  have H5 : Hid (Below w.heap.size w w5 ∧ LiesE w5 (fun k => k < w5.heap.size) d0 (psF tx.data.toList).1 (rowX ⟨k0, s0, vk0, vb0, vn0, vs0, kp0, nk0, kc0, np0, nm0, nc0⟩) ∧ LiesE w5 (fun k => k < w5.heap.size) d1 (psF ty.data.toList).1 (rowX ⟨k1, s1, vk1, vb1, vn1, vs1, kp1, nk1, kc1, np1, nm1, nc1⟩) ∧ w5.heap[z8]? = some (.cells #[.int .i64 k0, .string s0, .int .i64 vk0, .bool vb0, .int .i64 vn0, .string vs0, .slice none 0 0, .slice none 0 0, .slice kp0 nk0 kc0, .slice np0 nm0 nc0] 28 (0, 0)) ∧ w5.heap[w4.heap.size]? = some (.cells #[.int .i64 k1, .string s1, .int .i64 vk1, .bool vb1, .int .i64 vn1, .string vs1, .slice none 0 0, .slice none 0 0, .slice kp1 nk1 kc1, .slice np1 nm1 nc1] 28 (0, 0))) :=
    ⟨H3.out.1.trans (hb35.mono H3.out.1.size), (H3.out.2.since (Since.below hb35)).imp (fun k _ hl => hl), (hx1.since (Since.below hb5)).imp (fun k _ hl => hl), Below.row hb35 HR3.out, r5⟩
  have ka := awake_any w5 (HH.out.1.later H5.out.1) (HH.out.2.1.later H5.out.1 HH.out.2.1.pos)
  clear kp2 cy hb4 hb5 hb35 hx1 hw5 r5 HR3 H3
  unfold rowX
  go_wp2_with (first | rw [HW5.out] | fail)
  obtain ⟨z10, hz10⟩ : ∃ z, w4.heap.size = z := ⟨_, rfl⟩
  rw [hz10] at H5 ⊢
  clear hz10 HW5
  refine ka.mono ?_
  rintro e w6 ⟨rfl, hb6⟩
  have H6 : Hid (Below w.heap.size w w6 ∧ LiesE w6 (fun k => k < w6.heap.size) d0 (psF tx.data.toList).1 (rowX ⟨k0, s0, vk0, vb0, vn0, vs0, kp0, nk0, kc0, np0, nm0, nc0⟩) ∧ LiesE w6 (fun k => k < w6.heap.size) d1 (psF ty.data.toList).1 (rowX ⟨k1, s1, vk1, vb1, vn1, vs1, kp1, nk1, kc1, np1, nm1, nc1⟩) ∧ w6.heap[z8]? = some (.cells #[.int .i64 k0, .string s0, .int .i64 vk0, .bool vb0, .int .i64 vn0, .string vs0, .slice none 0 0, .slice none 0 0, .slice kp0 nk0 kc0, .slice np0 nm0 nc0] 28 (0, 0)) ∧ w6.heap[z10]? = some (.cells #[.int .i64 k1, .string s1, .int .i64 vk1, .bool vb1, .int .i64 vn1, .string vs1, .slice none 0 0, .slice none 0 0, .slice kp1 nk1 kc1, .slice np1 nm1 nc1] 28 (0, 0))) :=
    ⟨H5.out.1.trans (hb6.mono H5.out.1.size), (H5.out.2.1.since (Since.below hb6)).imp (fun k _ hl => hl), (H5.out.2.2.1.since (Since.below hb6)).imp (fun k _ hl => hl), Below.row hb6 H5.out.2.2.2.1, Below.row hb6 H5.out.2.2.2.2⟩
  have ka := awake_any w6 (HH.out.1.later H6.out.1) (HH.out.2.1.later H6.out.1 HH.out.2.1.pos)
  clear hb6 H5
  by_cases ha : (50 : Int) < (a.size : Int)
  · go_wp2_with fail
    refine ka.mono ?_
    rintro e w7 ⟨rfl, hb7⟩
    have H7 : Hid (Below w.heap.size w w7) := H6.out.1.trans (hb7.mono H6.out.1.size)
    clear hb7 ka
    go_wp2
    go_ret
    exact ⟨rfl, H7.out⟩
  by_cases hb : (50 : Int) < (b.size : Int)
  · go_wp2_with fail
    refine ka.mono ?_
    rintro e w7 ⟨rfl, hb7⟩
    have H7 : Hid (Below w.heap.size w w7) := H6.out.1.trans (hb7.mono H6.out.1.size)
    clear hb7 ka
    go_wp2
    go_ret
    exact ⟨rfl, H7.out⟩
  clear ka
  have p0 := cell_of_row w6 _ 0 _ _ _ H6.out.2.2.2.1
  have q0 := cell_of_row w6 _ 0 _ _ _ H6.out.2.2.2.2
  have p1 := cell_of_row w6 _ 1 _ _ _ H6.out.2.2.2.1
  have q1 := cell_of_row w6 _ 1 _ _ _ H6.out.2.2.2.2
  have p2 := cell_of_row w6 _ 2 _ _ _ H6.out.2.2.2.1
  have q2 := cell_of_row w6 _ 2 _ _ _ H6.out.2.2.2.2
  have p3 := cell_of_row w6 _ 3 _ _ _ H6.out.2.2.2.1
  have q3 := cell_of_row w6 _ 3 _ _ _ H6.out.2.2.2.2
  have p4 := cell_of_row w6 _ 4 _ _ _ H6.out.2.2.2.1
  have q4 := cell_of_row w6 _ 4 _ _ _ H6.out.2.2.2.2
  have p5 := cell_of_row w6 _ 5 _ _ _ H6.out.2.2.2.1
  have q5 := cell_of_row w6 _ 5 _ _ _ H6.out.2.2.2.2
  have p6 := cell_of_row w6 _ 6 _ _ _ H6.out.2.2.2.1
  have q6 := cell_of_row w6 _ 6 _ _ _ H6.out.2.2.2.2
  have p7 := cell_of_row w6 _ 7 _ _ _ H6.out.2.2.2.1
  have q7 := cell_of_row w6 _ 7 _ _ _ H6.out.2.2.2.2
  have p8 := cell_of_row w6 _ 8 _ _ _ H6.out.2.2.2.1
  have q8 := cell_of_row w6 _ 8 _ _ _ H6.out.2.2.2.2
  have p9 := cell_of_row w6 _ 9 _ _ _ H6.out.2.2.2.1
  have q9 := cell_of_row w6 _ 9 _ _ _ H6.out.2.2.2.2
  go_wp2_with fail
  obtain ⟨w9, hw9⟩ : ∃ u, ((w6.alloc (.cells #[.int .i64 k0, .string s0, .int .i64 vk0, .bool vb0, .int .i64 vn0, .string vs0, .slice none 0 0, .slice none 0 0, .slice kp0 nk0 kc0, .slice np0 nm0 nc0, .int .i64 k1, .string s1, .int .i64 vk1, .bool vb1, .int .i64 vn1, .string vs1, .slice none 0 0, .slice none 0 0, .slice kp1 nk1 kc1, .slice np1 nm1 nc1] 28)).alloc (.cells #[.int .i64 6, .string ⟨#[65, 78, 68]⟩, .int .i64 0, .bool false, .int .i64 0, .string ⟨#[]⟩, .slice none 0 0, .slice none 0 0, .slice (some ⟨w6.heap.size, 0, none⟩) 2 2, .slice none 0 0] 28)).alloc (.cells #[.string ⟨#[97]⟩, .string ⟨#[98]⟩, .string ⟨#[99]⟩, .string a, .string b] 9) = u := ⟨_, rfl⟩
  obtain ⟨s0', s1', s2', hb9⟩ := alloc3 hw9
  rw [hw9]
  have hB9 : Below w.heap.size w w9 := H6.out.1.trans (hb9.mono H6.out.1.size)
  have hz6 : w6.heap.size + 1 + 1 < w9.heap.size := lt_of_row s2'
  have hxx : LiesE w9 (fun k => k < w9.heap.size) (d0 + d1 + 2) (binT ⟨#[65, 78, 68]⟩ (psF tx.data.toList).1 (psF ty.data.toList).1) (rowX ⟨6, ⟨#[65, 78, 68]⟩, 0, false, 0, ⟨#[]⟩, some ⟨w6.heap.size, 0, none⟩, 2, 2, none, 0, 0⟩) := by
    have a0 := ((H6.out.2.1.since (Since.below hb9)).imp (R := fun k => k < w9.heap.size) (fun k _ hl => hl)).mono (show d0 ≤ d0 + d1 by omega)
    have a1 := ((H6.out.2.2.1.since (Since.below hb9)).imp (R := fun k => k < w9.heap.size) (fun k _ hl => hl)).mono (show d1 ≤ d0 + d1 by omega)
    exact (LiesE.both (w := w9) (S := fun k => k < w9.heap.size) (show (fun k => k < w9.heap.size) w6.heap.size by show w6.heap.size < w9.heap.size; omega) s0' a0 a1).mono (show d0 + d1 + 1 ≤ d0 + d1 + 2 by omega)
  have hI : Ixs w9 (some ⟨w6.heap.size + 1 + 1, 0, none⟩) [⟨#[97]⟩, ⟨#[98]⟩, ⟨#[99]⟩, a, b] := by
    refine ⟨by show 5 ≤ 100000; decide, .inr ⟨_, 0, rfl, lt_of_row s2', fun j hj => ?_⟩⟩
    have hj' : j < 5 := hj
    rw [Nat.zero_add, cell_of_row w9 _ j _ _ _ s2']
    obtain rfl | rfl | rfl | rfl | rfl : j = 0 ∨ j = 1 ∨ j = 2 ∨ j = 3 ∨ j = 4 := by omega
    all_goals rfl
  have kc := both_choose HH.out.2.2.1 HOY.out hxx (HH.out.2.1.later hB9 HH.out.2.1.pos) (some ⟨w6.heap.size + 1 + 1, 0, none⟩) 5 [⟨#[97]⟩, ⟨#[98]⟩, ⟨#[99]⟩, a, b] hI
  have kc2 : ∀ W, Below w9.heap.size w9 W → Calls Tryz.prog 9 #[.agg #[.int .i64 6, .string ⟨#[65, 78, 68]⟩, .int .i64 0, .bool false, .int .i64 0, .string ⟨#[]⟩, .slice none 0 0, .slice none 0 0, .slice (some ⟨w6.heap.size, 0, none⟩) 2 2, .slice none 0 0], .slice none 0 0] W (GivesP3 W noP) := fun W hb => both_choose HH.out.2.2.1 HOY.out ((hxx.since (Since.below hb)).imp (R := fun k => k < W.heap.size) (fun k _ hl => hl)) (HH.out.2.1.later (hB9.trans (hb.mono hB9.size)) HH.out.2.1.pos) none 0 [] ⟨Nat.zero_le _, .inl rfl⟩
  have H9 : Hid (Below w.heap.size w w9 ∧ w9.heap[w6.heap.size + 1]? = some (.cells #[.int .i64 6, .string ⟨#[65, 78, 68]⟩, .int .i64 0, .bool false, .int .i64 0, .string ⟨#[]⟩, .slice none 0 0, .slice none 0 0, .slice (some ⟨w6.heap.size, 0, none⟩) 2 2, .slice none 0 0] 28 (0, 0))) := ⟨hB9, s1'⟩
  clear hw9 hb9 hB9 s0' s1' s2' hxx hI p0 q0 p1 q1 p2 q2 p3 q3 p4 q4 p5 q5 p6 q6 p7 q7 p8 q8 p9 q9
  refine kc.mono ?_
  rintro e w10 ⟨rfl, hb10⟩
  have r10 := Below.row hb10 H9.out.2
  have H10 : Hid (Below w.heap.size w w10) := H9.out.1.trans (hb10.mono H9.out.1.size)
  have kc3 := kc2 w10 hb10
  have t0 : w10.cell? ⟨w6.heap.size + 1, 0, none⟩ = some (.int .i64 6) := cell_of_row w10 _ 0 _ _ _ r10
  have t1 : w10.cell? ⟨w6.heap.size + 1, 1, none⟩ = some (.string ⟨#[65, 78, 68]⟩) := cell_of_row w10 _ 1 _ _ _ r10
  have t2 : w10.cell? ⟨w6.heap.size + 1, 2, none⟩ = some (.int .i64 0) := cell_of_row w10 _ 2 _ _ _ r10
  have t3 : w10.cell? ⟨w6.heap.size + 1, 3, none⟩ = some (.bool false) := cell_of_row w10 _ 3 _ _ _ r10
  have t4 : w10.cell? ⟨w6.heap.size + 1, 4, none⟩ = some (.int .i64 0) := cell_of_row w10 _ 4 _ _ _ r10
  have t5 : w10.cell? ⟨w6.heap.size + 1, 5, none⟩ = some (.string ⟨#[]⟩) := cell_of_row w10 _ 5 _ _ _ r10
  have t6 : w10.cell? ⟨w6.heap.size + 1, 6, none⟩ = some (.slice none 0 0) := cell_of_row w10 _ 6 _ _ _ r10
  have t7 : w10.cell? ⟨w6.heap.size + 1, 7, none⟩ = some (.slice none 0 0) := cell_of_row w10 _ 7 _ _ _ r10
  have t8 : w10.cell? ⟨w6.heap.size + 1, 8, none⟩ = some (.slice (some ⟨w6.heap.size, 0, none⟩) 2 2) := cell_of_row w10 _ 8 _ _ _ r10
  have t9 : w10.cell? ⟨w6.heap.size + 1, 9, none⟩ = some (.slice none 0 0) := cell_of_row w10 _ 9 _ _ _ r10
  clear kc kc2 hb10 r10
  unfold noP
  go_wp2_with fail
  refine kc3.mono ?_
  rintro e w11 ⟨rfl, hb11⟩
  have H11 : Hid (Below w.heap.size w w11) := H10.out.trans (hb11.mono H10.out.size)
  clear kc3 hb11
  unfold noP
  go_wp2
  go_ret
  exact ⟨rfl, H11.out⟩
end Go.Proofs.YtfemippjaokcmaaGreatDoor
