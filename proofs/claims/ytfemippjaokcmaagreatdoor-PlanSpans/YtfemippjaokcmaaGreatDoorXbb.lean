/- plan.Choose: of any expression and any names of indexes: its walk. The laws' parsed: the expression of a text. The laws' plus: the least text above all that begin with one. -/
import Derived.Test.YtfemippjaokcmaaGreatDoorXba
import Derived.Test.YtfemippjaokcmaaGreatDoorXax
import Derived.Test.YtfemippjaokcmaaGreatDoorXah
import Derived.Laws.IdiomStrings
import Derived.Lib.SmallJoins
import Derived.Test.YtfemippjaokcmaaGreatDoorXal
import Derived.RangeFuncNested
import Derived.RangeFuncBound
import Derived.RangeFuncCalls
import Derived.RangeFuncLeaves
import Derived.Shelf.Abstract
import Derived.Shelf.RegionOpen
import Derived.OwnWalkIn
import Derived.TacticsInMore
import Derived.LoopNIn
import Derived.LoopIn
namespace Go.Proofs.YtfemippjaokcmaaGreatDoor
open Go.RowKit Go.Shelf
attribute [local go_sem] Oper.semAt_some fw0 fw1 fw2
def PtZ (B : Nat) (v : Value) (W : World) : Prop := ∃ b, v = .pointer (some ⟨b, 0, none⟩) /\ B <= b /\ W.heap[b]? = some (.cells #[.string ⟨#[]⟩, .string ⟨#[]⟩, .string ⟨#[]⟩] 35 (0, 0))
theorem PtZ.later {B : Nat} : ∀ v W W', PtZ B v W -> Below W.heap.size W W' -> PtZ B v W' := fun _ _ _ ⟨b, h1, h2, h3⟩ hb => ⟨b, h1, h2, Below.row hb h3⟩
structure ChW (w wr : World) (b z B : Nat) (u3 : Value) (M : List P3) (f lo hi : ByteArray) : Prop where
  bel : Below w.heap.size w wr
  zr : wr.heap[z]? = some (.cells #[.string ⟨#[]⟩, .string ⟨#[]⟩, .string ⟨#[]⟩] 35 (0, 0))
  br : wr.heap[b]? = some (.cells #[.string f, .string lo, .string hi] 35 (0, 0))
  ow : Ow EPl 35 3 B wr u3 M
  ob : ∀ k, u3.ownBlock = some k -> k < b
  zb : z < b
  wz : w.heap.size <= z
theorem ChW.later {w wr W : World} {b z B : Nat} {u3 : Value} {M : List P3} {f lo hi : ByteArray} (h : ChW w wr b z B u3 M f lo hi) (hb : Below wr.heap.size wr W) : ChW w W b z B u3 M f lo hi :=
  ⟨h.bel.trans (hb.mono h.bel.size), Below.row hb h.zr, Below.row hb h.br, by
    obtain ⟨L, q1, q2⟩ := h.ow.own
    exact ⟨L, own_lat q1 hb, epl_any _ _ _ _ _ _ q2⟩, h.ob, h.zb, h.wz⟩
theorem ChW.drew {w wr : World} {b z B : Nat} {u3 : Value} {M : List P3} {f lo hi : ByteArray} (h : ChW w wr b z B u3 M f lo hi) : ChW w wr.drew b z B u3 M f lo hi := h.later (Below.refl _ _).drew
theorem ChW.set {w wr : World} {b z B : Nat} {u3 : Value} {M : List P3} {f lo hi : ByteArray} (h : ChW w wr b z B u3 M f lo hi) (x y : ByteArray) : ChW w ((wr.setCell ⟨b, 1, none⟩ (.string x)).setCell ⟨b, 2, none⟩ (.string y)) b z B u3 M f x y := by
  have hz := h.zb
  have hw := h.wz
  have hbr : ((wr.setCell ⟨b, 1, none⟩ (.string x)).setCell ⟨b, 2, none⟩ (.string y)).heap[b]? = some (.cells #[.string f, .string x, .string y] 35 (0, 0)) := row_setCell (k := 2) (row_setCell (k := 1) h.br (.string x)) (.string y)
  have hbel : Below b wr ((wr.setCell ⟨b, 1, none⟩ (.string x)).setCell ⟨b, 2, none⟩ (.string y)) := ((Below.refl b wr).setCell (p := ⟨b, 1, none⟩) (Nat.le_refl b) _).setCell (p := ⟨b, 2, none⟩) (Nat.le_refl b) _
  refine ⟨(h.bel.setCell (p := ⟨b, 1, none⟩) (by show w.heap.size <= b; omega) _).setCell (p := ⟨b, 2, none⟩) (by show w.heap.size <= b; omega) _, (hbel.block z hz).trans h.zr, hbr, ?_, h.ob, hz, hw⟩
  obtain ⟨L, q1, q2⟩ := h.ow.own
  refine ⟨L, ⟨q1.1, ?_⟩, epl_any _ _ _ _ _ _ q2⟩
  rcases q1.2 with hn | ⟨g, cap, cur, hv, hg, hr, rest⟩
  . exact .inl hn
  . refine .inr ⟨g, cap, cur, hv, hg, (hbel.block g (h.ob g ?_)).trans hr, rest⟩
    rw [hv]; rfl
set_option maxRecDepth 100000 in
set_option maxHeartbeats 8000000 in
theorem choose_any {d : Nat} {t : Et} {k : Int} {s : ByteArray} {vk : Int} {vb : Bool} {vn : Int} {vs : ByteArray} {kp : Option Addr} {nk kc : Nat} {np : Option Addr} {nm nc : Nat} {w : World} (hx : LiesE w (fun k => k < w.heap.size) d t (rowX ⟨k, s, vk, vb, vn, vs, kp, nk, kc, np, nm, nc⟩)) (hg : V.Gm w) (hlen : (partsE d t).length <= 100000) (hlit : ∀ x ∈ partsE d t, LitsOk x) (hsh : Short ((partsE d t).map saidE))
    (p : Option Addr) (c : Nat) (l : List ByteArray) (hI : Ixs w p l) : Calls Tryz.prog 9 #[.agg #[.int .i64 k, .string s, .int .i64 vk, .bool vb, .int .i64 vn, .string vs, .slice none 0 0, .slice none 0 0, .slice kp nk kc, .slice np nm nc], .slice p l.length c] w (GivesP3 w (chooseL ((partsE d t).map saidE) l)) := by
  have hlM : ((partsE d t).map saidE).length <= 100000 := by rw [List.length_map]; exact hlen
  obtain ⟨M, hM⟩ : ∃ M, (partsE d t).map saidE = M := ⟨_, rfl⟩
  have HM := mkHid hM
  obtain ⟨w1, hw1⟩ : ∃ u, ((w.alloc (.cells #[.int .i64 k, .string s, .int .i64 vk, .bool vb, .int .i64 vn, .string vs, .slice none 0 0, .slice none 0 0, .slice kp nk kc, .slice np nm nc] 28)).alloc (.cells #[.slice p l.length c] 22)).alloc (.cells #[.string ⟨#[]⟩, .string ⟨#[]⟩, .string ⟨#[]⟩] 35) = u := ⟨_, rfl⟩
  obtain ⟨r0, r1, r2, bw⟩ := alloc3 hw1
  have hx1 : LiesE w1 (fun k => k < w.heap.size) d t (rowX ⟨k, s, vk, vb, vn, vs, kp, nk, kc, np, nm, nc⟩) := hx.since (Since.below bw)
  have kj := joined_any d t ⟨k, s, vk, vb, vn, vs, kp, nk, kc, np, nm, nc⟩ w.heap.size w1 (.slice none 0 0) [] hx1 bw.size (Ow.start _ _ _ _ _) (by simpa using hlen)
  rw [List.nil_append] at kj
  have HW := mkHid hw1
  have HH : Hid (Below w.heap.size w w1 /\ w1.heap[w.heap.size + 1]? = some (.cells #[.slice p l.length c] 22 (0, 0)) /\ w1.heap[w.heap.size + 1 + 1]? = some (.cells #[.string ⟨#[]⟩, .string ⟨#[]⟩, .string ⟨#[]⟩] 35 (0, 0)) /\ V.Gm w /\ (partsE d t).length <= 100000 /\ (∀ x ∈ partsE d t, LitsOk x) /\ Short M /\ Ixs w p l /\ M.length <= 100000) := ⟨bw, r1, r2, hg, hlen, hlit, by rw [<- hM]; exact hsh, hI, by rw [<- hM]; exact hlM⟩
  have cx0 := cell_of_row w1 _ 0 _ _ _ r0
  have cx1 := cell_of_row w1 _ 1 _ _ _ r0
  have cx2 := cell_of_row w1 _ 2 _ _ _ r0
  have cx3 := cell_of_row w1 _ 3 _ _ _ r0
  have cx4 := cell_of_row w1 _ 4 _ _ _ r0
  have cx5 := cell_of_row w1 _ 5 _ _ _ r0
  have cx6 := cell_of_row w1 _ 6 _ _ _ r0
  have cx7 := cell_of_row w1 _ 7 _ _ _ r0
  have cx8 := cell_of_row w1 _ 8 _ _ _ r0
  have cx9 := cell_of_row w1 _ 9 _ _ _ r0
  obtain ⟨n, hn⟩ : ∃ n, l.length = n := ⟨_, rfl⟩
  rw [hn] at HW HH ⊢
  have HN := mkHid hn
  rw [hM]
  clear hw1 r0 r1 r2 bw hx hx1 hg hlen hlit hsh hI hlM hM hn
  obtain ⟨A, hA⟩ : ∃ A, chooseL M l = A := ⟨_, rfl⟩
  rw [hA]
  have HA := mkHid hA
  clear hA
  go_enter Tryz.func9, Tryz.ntmps9
  go_wp2_with (first | rw [HW.out] | fail)
  unfold rowX at kj
  refine kj.mono ?_
  rintro e w2 ⟨u2, rfl, ho2, hu2, hz2⟩
  have hb2 : Below w1.heap.size w1 w2 := hu2.below (Nat.le_refl _) (fun k hk => by cases hk)
  have HB2 : Hid (Below w.heap.size w w2 /\ w2.heap[w.heap.size + 1]? = some (.cells #[.slice p n c] 22 (0, 0)) /\ w2.heap[w.heap.size + 1 + 1]? = some (.cells #[.string ⟨#[]⟩, .string ⟨#[]⟩, .string ⟨#[]⟩] 35 (0, 0))) := ⟨HH.out.1.trans (hb2.mono HH.out.1.size), Below.row hb2 HH.out.2.1, Below.row hb2 HH.out.2.2.1⟩
  have ke : Calls Tryz.prog 25 #[u2, .func (.func 27) #[] #[]] w2 (GivesL w2 ((partsE d t).map saidE)) := each_any ho2 HH.out.2.2.2.2.1 saidE (fun x d' R W' hm hbW hL => said_any hL (HH.out.2.2.2.1.later (HB2.out.1.trans (hbW.mono HB2.out.1.size)) HH.out.2.2.2.1.pos) (HH.out.2.2.2.2.2.1 x hm))
  rw [HM.out] at ke
  clear kj ho2 hu2 hz2 hb2 cx0 cx1 cx2 cx3 cx4 cx5 cx6 cx7 cx8 cx9
  go_wp2_with fail
  refine ke.mono ?_
  rintro e w3 ⟨u3, rfl, ho3, hb3⟩
  have HB3 : Hid (Below w.heap.size w w3 /\ w3.heap[w.heap.size + 1]? = some (.cells #[.slice p n c] 22 (0, 0)) /\ w3.heap[w.heap.size + 1 + 1]? = some (.cells #[.string ⟨#[]⟩, .string ⟨#[]⟩, .string ⟨#[]⟩] 35 (0, 0)) /\ Ow EPl 35 3 w2.heap.size w3 u3 M) := ⟨HB2.out.1.trans (hb3.mono HB2.out.1.size), Below.row hb3 HB2.out.2.1, Below.row hb3 HB2.out.2.2, ho3⟩
  have ki := idx_plans ho3 HH.out.2.2.2.2.2.2.2.2 (fun r => servesB r.1 l) (w.heap.size + 1) (fun r W hm hbW => clo_any p c l r.1 r.2.1 r.2.2 (w.heap.size + 1) W (HH.out.2.2.2.2.2.2.2.1.later (HB3.out.1.trans (hbW.mono HB3.out.1.size))) (by rw [HN.out]; exact Below.row hbW HB3.out.2.1))
  clear ke ho3 hb3 HB2
  go_wp2_with fail
  refine ki.mono ?_
  rintro e w4 ⟨rfl, hb4⟩
  have HB4 : Hid (Below w.heap.size w w4 /\ w4.heap[w.heap.size + 1 + 1]? = some (.cells #[.string ⟨#[]⟩, .string ⟨#[]⟩, .string ⟨#[]⟩] 35 (0, 0)) /\ Ow EPl 35 3 w2.heap.size w4 u3 M) := ⟨HB3.out.1.trans (hb4.mono HB3.out.1.size), Below.row hb4 HB3.out.2.2.1, by
    obtain ⟨L, q1, q2⟩ := HB3.out.2.2.2.own
    exact ⟨L, own_lat q1 hb4, epl_any _ _ _ _ _ _ q2⟩⟩
  clear ki hb4 HB3
  have z0 := cell_of_row w4 _ 0 _ _ _ HB4.out.2.1
  have y0 := frozen_of_row w4 _ 0 _ _ HB4.out.2.1
  have z1 := cell_of_row w4 _ 1 _ _ _ HB4.out.2.1
  have y1 := frozen_of_row w4 _ 1 _ _ HB4.out.2.1
  have z2 := cell_of_row w4 _ 2 _ _ _ HB4.out.2.1
  have y2 := frozen_of_row w4 _ 2 _ _ HB4.out.2.1
  rcases fidx_find (fun r => servesB r.1 l) M 0 with ⟨h1, h2⟩ | ⟨j, r, h1, h2, h3⟩
  . rw [h1]
    have HP := mkHid h2
    clear h1 h2
    go_wp2
    have hro : (((w4.setCell ⟨w.heap.size + 1 + 1, 0, none⟩ (.string ⟨#[]⟩)).setCell ⟨w.heap.size + 1 + 1, 1, none⟩ (.string ⟨#[]⟩)).setCell ⟨w.heap.size + 1 + 1, 2, none⟩ (.string ⟨#[]⟩)).heap[w.heap.size + 1 + 1]? = some (.cells #[.string ⟨#[]⟩, .string ⟨#[]⟩, .string ⟨#[]⟩] 35 (0, 0)) := row_setCell (k := 2) (row_setCell (k := 1) (row_setCell (k := 0) HB4.out.2.1 (.string ⟨#[]⟩)) (.string ⟨#[]⟩)) (.string ⟨#[]⟩)
    have hbf : Below w.heap.size w (((w4.setCell ⟨w.heap.size + 1 + 1, 0, none⟩ (.string ⟨#[]⟩)).setCell ⟨w.heap.size + 1 + 1, 1, none⟩ (.string ⟨#[]⟩)).setCell ⟨w.heap.size + 1 + 1, 2, none⟩ (.string ⟨#[]⟩)) := ((HB4.out.1.setCell (p := ⟨w.heap.size + 1 + 1, 0, none⟩) (by show w.heap.size <= w.heap.size + 1 + 1; omega) _).setCell (p := ⟨w.heap.size + 1 + 1, 1, none⟩) (by show w.heap.size <= w.heap.size + 1 + 1; omega) _).setCell (p := ⟨w.heap.size + 1 + 1, 2, none⟩) (by show w.heap.size <= w.heap.size + 1 + 1; omega) _
    obtain ⟨wf, hwf⟩ : ∃ wf, (((w4.setCell ⟨w.heap.size + 1 + 1, 0, none⟩ (.string ⟨#[]⟩)).setCell ⟨w.heap.size + 1 + 1, 1, none⟩ (.string ⟨#[]⟩)).setCell ⟨w.heap.size + 1 + 1, 2, none⟩ (.string ⟨#[]⟩)) = wf := ⟨_, rfl⟩
    rw [hwf] at hro hbf ⊢
    clear hwf
    have o0 := cell_of_row wf _ 0 _ _ _ hro
    have o1 := cell_of_row wf _ 1 _ _ _ hro
    have o2 := cell_of_row wf _ 2 _ _ _ hro
    refine bodyPost_ret (v := .agg #[.string ⟨#[]⟩, .string ⟨#[]⟩, .string ⟨#[]⟩]) (by simp [results, Tryz.results9, go_sem, o0, o1, o2]) rfl ?_
    have hAe : A = (⟨#[]⟩, ⟨#[]⟩, ⟨#[]⟩) := by rw [<- HA.out]; unfold chooseL; rw [HP.out]; rfl
    rw [hAe]
    exact ⟨rfl, hbf⟩
  . rw [h1]
    have HP : Hid (M[j]? = some r /\ M.find? (fun r => servesB r.1 l) = some r) := ⟨h2, h3⟩
    have hj := (List.getElem?_eq_some_iff.1 h2).1
    obtain ⟨g, c3, hv3, hlc, hcm, -, hlt, b0, b1, b2⟩ := pl_at HB4.out.2.2 h2
    subst hv3
    obtain ⟨m, hm⟩ : ∃ m, M.length = m := ⟨_, rfl⟩
    rw [hm] at hj hlc HB4 ⊢
    have HM2 := mkHid hm
    have hm1 : m <= 100000 := by rw [<- hm]; exact HH.out.2.2.2.2.2.2.2.2
    have hj1 : (j : Int) < (m : Int) := by omega
    have hj0 : ¬ (j : Int) < 0 := by omega

    obtain ⟨r0, r1, r2⟩ := r
    have b0' : w4.cell? ⟨g, j * 3, none⟩ = some (.string r0) := b0
    have hz4 := lt_of_row HB4.out.2.1
    have hgz := HB4.out.1.size
    clear h1 h2 h3 hm b0 b1 b2
    rw [Nat.zero_add]
    go_wp2_with fail
    refine any_tail (by kernel_rfl) 8 (by exact Nat.le_of_ble_eq_true rfl) (fun i => if i < 7 then i + 19 else 7) (mixR [(7, PtZ w4.heap.size)] [.slice (some ⟨g, 0, none⟩) m c3, .int .i64 (j : Int), .pointer (some ⟨g, j * 3, none⟩), .pointer (some ⟨g, j * 3, none⟩), .string r0, .agg #[.string ⟨#[]⟩, .string ⟨#[]⟩], .agg #[.string r0, .string ⟨#[]⟩, .string ⟨#[]⟩], undef]) (by kernel_rfl) (by kernel_rfl) (by kernel_rfl) (by kernel_rfl) (mixR_later _ _ (stab_cons (PtZ.later) (stab_nil))) ?step ?post
    case step =>
      intro iq hiq a W hrest hb hk
      have hp5 : a.eval (.tmp 5) = .slice (some ⟨g, 0, none⟩) m c3 := (hrest 5 (by intro iq2 hiq2; (repeat' split) <;> omega)).trans rfl
      have fp5 := ev hp5
      have hp6 : a.eval (.tmp 6) = .int .i64 (j : Int) := (hrest 6 (by intro iq2 hiq2; (repeat' split) <;> omega)).trans rfl
      have fp6 := ev hp6
      clear hrest
      obtain rfl | rfl | rfl | rfl | rfl | rfl | rfl | rfl : iq = 0 ∨ iq = 1 ∨ iq = 2 ∨ iq = 3 ∨ iq = 4 ∨ iq = 5 ∨ iq = 6 ∨ iq = 7 := by omega
      . clear hiq
        clear hk
        refine ⟨_, rfl, rfl, rfl, wp_value (v := .slice (some ⟨g, 0, none⟩) m c3) (w' := W) ?_ ⟨_, rfl, Below.refl _ _, rfl⟩⟩
        go_simp
      . clear hiq
        clear hk
        refine ⟨_, rfl, rfl, rfl, wp_value (v := .int .i64 (j : Int)) (w' := W) ?_ ⟨_, rfl, Below.refl _ _, rfl⟩⟩
        go_simp
      . clear hiq
        have e0 : a.eval (.tmp 19) = .slice (some ⟨g, 0, none⟩) m c3 := hk 0 (mem_of (by kernel_rfl))
        have f0 := ev e0
        have e1 : a.eval (.tmp 20) = .int .i64 (j : Int) := hk 1 (mem_of (by kernel_rfl))
        have f1 := ev e1
        clear hk
        refine ⟨_, rfl, rfl, rfl, wp_value (v := .pointer (some ⟨g, j * 3, none⟩)) (w' := W) ?_ ⟨_, rfl, Below.refl _ _, rfl⟩⟩
        go_simp
      . clear hiq
        have e2 : a.eval (.tmp 21) = .pointer (some ⟨g, j * 3, none⟩) := hk 2 (mem_of (by kernel_rfl))
        have f2 := ev e2
        clear hk
        refine ⟨_, rfl, rfl, rfl, wp_value (v := .pointer (some ⟨g, j * 3, none⟩)) (w' := W) ?_ ⟨_, rfl, Below.refl _ _, rfl⟩⟩
        go_simp
      . clear hiq
        have e3 : a.eval (.tmp 22) = .pointer (some ⟨g, j * 3, none⟩) := hk 3 (mem_of (by kernel_rfl))
        have f3 := ev e3
        have hcj : W.cell? ⟨g, j * 3, none⟩ = some (.string r0) := (hb.cell (p := ⟨g, j * 3, none⟩) hlt).trans b0'
        clear hk
        refine ⟨_, rfl, rfl, rfl, wp_value (v := .string r0) (w' := W) ?_ ⟨_, rfl, Below.refl _ _, rfl⟩⟩
        go_simp
      . clear hiq
        clear hk
        refine ⟨_, rfl, rfl, rfl, wp_enter (f := 31) (args := #[]) ?_ ((V.all_any W).mono ?_)⟩
        . go_simp
        . rintro e w2 ⟨rfl, hb2⟩
          exact ⟨_, rfl, _, rfl, hb2, rfl⟩
      . clear hiq
        have e4 : a.eval (.tmp 23) = .string r0 := hk 4 (mem_of (by kernel_rfl))
        have f4 := ev e4
        have e5 : a.eval (.tmp 24) = .agg #[.string ⟨#[]⟩, .string ⟨#[]⟩] := hk 5 (mem_of (by kernel_rfl))
        have f5 := ev e5
        clear hk
        refine ⟨_, rfl, rfl, rfl, wp_value (v := .agg #[.string r0, .string ⟨#[]⟩, .string ⟨#[]⟩]) (w' := W) ?_ ⟨_, rfl, Below.refl _ _, rfl⟩⟩
        go_simp
      . clear hiq
        clear hk
        refine ⟨_, rfl, rfl, rfl, wp_value (v := .pointer (some ⟨W.heap.size, 0, none⟩)) (w' := W.alloc (.cells #[.string ⟨#[]⟩, .string ⟨#[]⟩, .string ⟨#[]⟩] 35)) ?_ ⟨_, rfl, (Below.refl _ W).alloc (Nat.le_refl _) _, _, rfl, hb.size, heap_alloc_new _ _⟩⟩
        go_simp
    case post =>
      intro V1 W hbW hV
      have v6 : V1 6 = .agg #[.string r0, .string ⟨#[]⟩, .string ⟨#[]⟩] := hV 6 (by omega)
      obtain ⟨b, v7, hbb, hbr⟩ := show PtZ w4.heap.size (V1 7) W from hV 7 (by omega)
      have H5 : Hid (Below w.heap.size w W /\ W.heap[w.heap.size + 1 + 1]? = some (.cells #[.string ⟨#[]⟩, .string ⟨#[]⟩, .string ⟨#[]⟩] 35 (0, 0)) /\ Ow EPl 35 3 w2.heap.size W (.slice (some ⟨g, 0, none⟩) m c3) M /\ W.heap[b]? = some (.cells #[.string ⟨#[]⟩, .string ⟨#[]⟩, .string ⟨#[]⟩] 35 (0, 0))) := ⟨HB4.out.1.trans (hbW.mono HB4.out.1.size), Below.row hbW HB4.out.2.1, by
        obtain ⟨L, q1, q2⟩ := HB4.out.2.2.own
        exact ⟨L, own_lat q1 hbW, epl_any _ _ _ _ _ _ q2⟩, hbr⟩
      have x0 := cell_of_row W _ 0 _ _ _ hbr
      have x1 := cell_of_row W _ 1 _ _ _ hbr
      have x2 := cell_of_row W _ 2 _ _ _ hbr
      have g0 := frozen_of_row W _ 0 _ _ hbr
      have g1 := frozen_of_row W _ 1 _ _ hbr
      have g2 := frozen_of_row W _ 2 _ _ hbr
      clear hV hbW hbr HB4 z0 z1 z2 y0 y1 y2 b0'
      simp only [putAll, reduceIte, Nat.reduceLT, Nat.reduceAdd]
      rw [v6, v7]
      simp only [Act.put, List.setIfInBounds_toArray, List.set_cons_zero, List.set_cons_succ]
      go_wp2_with fail
      have hob : ∀ k, (Value.slice (some ⟨g, 0, none⟩) m c3).ownBlock = some k -> k < b := fun k hk => by
        have e : some g = some k := hk
        injection e with e
        omega
      have HC0 : ChW w (((W.setCell ⟨b, 0, none⟩ (.string r0)).setCell ⟨b, 1, none⟩ (.string ⟨#[]⟩)).setCell ⟨b, 2, none⟩ (.string ⟨#[]⟩)) b (w.heap.size + 1 + 1) w2.heap.size (.slice (some ⟨g, 0, none⟩) m c3) M r0 ⟨#[]⟩ ⟨#[]⟩ := by
        have hbel : Below b W (((W.setCell ⟨b, 0, none⟩ (.string r0)).setCell ⟨b, 1, none⟩ (.string ⟨#[]⟩)).setCell ⟨b, 2, none⟩ (.string ⟨#[]⟩)) := (((Below.refl b W).setCell (p := ⟨b, 0, none⟩) (Nat.le_refl b) _).setCell (p := ⟨b, 1, none⟩) (Nat.le_refl b) _).setCell (p := ⟨b, 2, none⟩) (Nat.le_refl b) _
        refine ⟨((H5.out.1.setCell (p := ⟨b, 0, none⟩) (by show w.heap.size <= b; omega) _).setCell (p := ⟨b, 1, none⟩) (by show w.heap.size <= b; omega) _).setCell (p := ⟨b, 2, none⟩) (by show w.heap.size <= b; omega) _, (hbel.block _ (by omega)).trans H5.out.2.1, row_setCell (k := 2) (row_setCell (k := 1) (row_setCell (k := 0) H5.out.2.2.2 (.string r0)) (.string ⟨#[]⟩)) (.string ⟨#[]⟩), ?_, hob, by omega, by omega⟩
        obtain ⟨L, q1, q2⟩ := H5.out.2.2.1.own
        refine ⟨L, ⟨q1.1, ?_⟩, epl_any _ _ _ _ _ _ q2⟩
        rcases q1.2 with hn | ⟨g', cap, cur, hv, hg, hr, rest⟩
        . exact .inl hn
        . refine .inr ⟨g', cap, cur, hv, hg, (hbel.block g' (hob g' (by rw [hv]; rfl))).trans hr, rest⟩
      obtain ⟨wq, hwq⟩ : ∃ wq, (((W.setCell ⟨b, 0, none⟩ (.string r0)).setCell ⟨b, 1, none⟩ (.string ⟨#[]⟩)).setCell ⟨b, 2, none⟩ (.string ⟨#[]⟩)) = wq := ⟨_, rfl⟩
      rw [hwq] at HC0 ⊢
      have HCh := mkHid HC0
      clear hwq HC0 H5 x0 x1 x2 g0 g1 g2 hob
      go_loopw [28] (fun c28 wr => ∃ i : Nat, i <= m /\ c28 = .int .i64 (i : Int) /\ Hid (ChW w wr b (w.heap.size + 1 + 1) w2.heap.size (.slice (some ⟨g, 0, none⟩) m c3) M r0 (meetL r0 (⟨#[]⟩, ⟨#[]⟩) (M.take i)).1 (meetL r0 (⟨#[]⟩, ⟨#[]⟩) (M.take i)).2)) (fun c28 _ => m - (intOf c28).toNat)
      case atStart =>
        refine ⟨0, Nat.zero_le _, rfl, ?_⟩
        exact HCh
      case round =>
        obtain ⟨i, hi, rfl, hh⟩ := hrel
        by_cases hiq : i < m
        . have hil : i < M.length := by rw [HM2.out]; exact hiq
          obtain ⟨r, hr⟩ : ∃ r, M[i]? = some r := ⟨_, List.getElem?_eq_getElem hil⟩
          obtain ⟨g', c', hv', -, -, -, hlt', a0, a1, a2⟩ := pl_at hh.out.ow hr
          have e1 : g = g' := by
            injection hv' with e1 _ _
            injection e1 with e1
            injection e1 with e1 _
          clear hv'
          subst e1
          have hiq' : (i : Int) < (m : Int) := by omega
          have hst := meet_snoc r0 (M.take i) (⟨#[]⟩, ⟨#[]⟩) r
          have htk : M.take (i + 1) = M.take i ++ [r] := by rw [List.take_add_one, hr]; rfl
          rw [<- htk] at hst
          have hl2 : (meetL r0 (⟨#[]⟩, ⟨#[]⟩) (M.take i)).2.size <= 20000 := meet_len _ _ _ (fun q hq => HH.out.2.2.2.2.2.2.1 q (List.mem_of_mem_take hq)) (Nat.zero_le _)
          have hl3 : r.2.2.size <= 20000 := HH.out.2.2.2.2.2.2.1 r (List.mem_of_getElem? hr)
          obtain ⟨s2, hs2⟩ : ∃ s2, meetL r0 (⟨#[]⟩, ⟨#[]⟩) (M.take i) = s2 := ⟨_, rfl⟩
          rw [hs2] at hh hst hl2
          obtain ⟨lo, hi2⟩ := s2
          obtain ⟨q0, q1, q2⟩ := r
          have HS := mkHid hst
          obtain ⟨W1, hW1⟩ : ∃ u, wr.alloc (.cells #[.string q0, .string q1, .string q2] 35) = u := ⟨_, rfl⟩
          obtain ⟨r1', bw1⟩ := alloc1 hW1
          have hC1 := hh.out.later bw1
          have HW1 := mkHid hW1
          have HC1 := mkHid hC1
          have d0 := cell_of_row W1 _ 0 _ _ _ r1'
          have d1 := cell_of_row W1 _ 1 _ _ _ r1'
          have d2 := cell_of_row W1 _ 2 _ _ _ r1'
          have f0 := cell_of_row W1 _ 0 _ _ _ hC1.br
          have f1 := cell_of_row W1 _ 1 _ _ _ hC1.br
          have f2 := cell_of_row W1 _ 2 _ _ _ hC1.br
          have km := fun W => V.meet_any lo hi2 q1 q2 W (by unfold maxLen; show hi2.size <= _; have : hi2.size <= 20000 := hl2; omega) (by unfold maxLen; show q2.size <= _; have : q2.size <= 20000 := hl3; omega)
          obtain ⟨eq, heq⟩ : ∃ eq, (q0.toList == r0.toList) = eq := ⟨_, rfl⟩
          have HEQ := mkHid heq
          clear hh hr hil htk hst hl2 hl3 hs2 hW1 r1' bw1 hC1 hlt'
          cases eq with
          | true =>
            go_wp2_with (first | rw [HW1.out] | fail)
            refine (km _).mono ?_
            rintro e W5 ⟨rfl, hb5⟩
            have hC5 := HC1.out.later hb5
            have HC5 := mkHid hC5
            have k1 := cell_of_row W5 _ 1 _ _ _ hC5.br
            have k2 := cell_of_row W5 _ 2 _ _ _ hC5.br
            have l1 := frozen_of_row W5 _ 1 _ _ hC5.br
            have l2 := frozen_of_row W5 _ 2 _ _ hC5.br
            have HR := HC5.out.set (V.maxS lo q1) (V.lowerB hi2 q2)
            have HRR := mkHid HR
            clear hb5 hC5 km HR d0 d1 d2 f0 f1 f2 a0 a1 a2
            go_wp2
            go_roundw
            case rel =>
              refine ⟨i + 1, by omega, by go_num, ?_⟩
              rw [HS.out, if_pos HEQ.out]
              exact HRR
            case measure => simp [intOf]; omega
          | false =>
            go_wp2_with (first | rw [HW1.out] | fail)
            go_roundw
            case rel =>
              refine ⟨i + 1, by omega, by go_num, ?_⟩
              rw [HS.out, if_neg (by rw [HEQ.out]; exact Bool.false_ne_true)]
              exact HC1
            case measure => simp [intOf]; omega
        . obtain rfl : i = m := by omega
          rw [<- HM2.out, List.take_length] at hh
          have hAA : A = (r0, (meetL r0 (⟨#[]⟩, ⟨#[]⟩) M).1, (meetL r0 (⟨#[]⟩, ⟨#[]⟩) M).2) := by
            rw [<- HA.out]
            unfold chooseL
            rw [HP.out.2]
          obtain ⟨s2, hs2⟩ : ∃ s2, meetL r0 (⟨#[]⟩, ⟨#[]⟩) M = s2 := ⟨_, rfl⟩
          rw [hs2] at hh hAA
          obtain ⟨lo, hi2⟩ := s2
          have HAA : Hid (A = (r0, lo, hi2)) := hAA
          have f0 := cell_of_row wr _ 0 _ _ _ hh.out.br
          have f1 := cell_of_row wr _ 1 _ _ _ hh.out.br
          have f2 := cell_of_row wr _ 2 _ _ _ hh.out.br
          have z0 := cell_of_row wr _ 0 _ _ _ hh.out.zr
          have y0 := frozen_of_row wr _ 0 _ _ hh.out.zr
          have z1 := cell_of_row wr _ 1 _ _ _ hh.out.zr
          have y1 := frozen_of_row wr _ 1 _ _ hh.out.zr
          have z2 := cell_of_row wr _ 2 _ _ _ hh.out.zr
          have y2 := frozen_of_row wr _ 2 _ _ hh.out.zr
          clear hAA hs2
          go_wp2
          have hro : (((wr.setCell ⟨w.heap.size + 1 + 1, 0, none⟩ (.string r0)).setCell ⟨w.heap.size + 1 + 1, 1, none⟩ (.string lo)).setCell ⟨w.heap.size + 1 + 1, 2, none⟩ (.string hi2)).heap[w.heap.size + 1 + 1]? = some (.cells #[.string r0, .string lo, .string hi2] 35 (0, 0)) := row_setCell (k := 2) (row_setCell (k := 1) (row_setCell (k := 0) hh.out.zr (.string r0)) (.string lo)) (.string hi2)
          have hbf : Below w.heap.size w (((wr.setCell ⟨w.heap.size + 1 + 1, 0, none⟩ (.string r0)).setCell ⟨w.heap.size + 1 + 1, 1, none⟩ (.string lo)).setCell ⟨w.heap.size + 1 + 1, 2, none⟩ (.string hi2)) := ((hh.out.bel.setCell (p := ⟨w.heap.size + 1 + 1, 0, none⟩) (by show w.heap.size <= w.heap.size + 1 + 1; omega) _).setCell (p := ⟨w.heap.size + 1 + 1, 1, none⟩) (by show w.heap.size <= w.heap.size + 1 + 1; omega) _).setCell (p := ⟨w.heap.size + 1 + 1, 2, none⟩) (by show w.heap.size <= w.heap.size + 1 + 1; omega) _
          obtain ⟨wf, hwf⟩ : ∃ wf, (((wr.setCell ⟨w.heap.size + 1 + 1, 0, none⟩ (.string r0)).setCell ⟨w.heap.size + 1 + 1, 1, none⟩ (.string lo)).setCell ⟨w.heap.size + 1 + 1, 2, none⟩ (.string hi2)) = wf := ⟨_, rfl⟩
          rw [hwf] at hro hbf ⊢
          clear hwf
          have o0 := cell_of_row wf _ 0 _ _ _ hro
          have o1 := cell_of_row wf _ 1 _ _ _ hro
          have o2 := cell_of_row wf _ 2 _ _ _ hro
          refine bodyPost_ret (v := .agg #[.string r0, .string lo, .string hi2]) (by simp [results, Tryz.results9, go_sem, o0, o1, o2]) rfl ?_
          have hAe : A = (r0, lo, hi2) := HAA.out
          rw [hAe]
          exact ⟨rfl, hbf⟩
end Go.Proofs.YtfemippjaokcmaaGreatDoor
namespace Go.Proofs.YtfemippjaokcmaaGreatDoor
open Go.RowKit Go.Shelf
attribute [local go_sem] Oper.semAt_some fw0 fw1 fw2
def preL : List UInt8 := [68, 69, 76, 69, 84, 69, 32, 70, 82, 79, 77, 32, 116, 32, 87, 72, 69, 82, 69, 32]
def psF (l : List UInt8) : Et × Bool := if 1000 < l.length then (zeroT, false) else ((parF (preL ++ l)).1.wh, decide ((parF (preL ++ l)).2.2 = 0))
def GivesE (w : World) (X : Et × Bool) (r : Ending) (w' : World) : Prop := ∃ R d, r = .returned (.tuple #[rowX R, .bool X.2]) /\ LiesE w' (fun k => w.heap.size <= k) d X.1 (rowX R) /\ Below w.heap.size w w'
theorem pre_list (s : ByteArray) : ((⟨#[68, 69, 76, 69, 84, 69, 32, 70, 82, 79, 77, 32, 116, 32, 87, 72, 69, 82, 69, 32]⟩ : ByteArray) ++ s).data.toList = preL ++ s.data.toList := by
  simp [preL]
def zeroX : XR := ⟨0, ⟨#[]⟩, 0, false, 0, ⟨#[]⟩, none, 0, 0, none, 0, 0⟩
theorem zero_x (w : World) (S : Nat -> Prop) : LiesE w S 1 zeroT (rowX zeroX) := LiesE.leaf w S zeroE rfl rfl _
set_option maxRecDepth 100000 in
set_option maxHeartbeats 8000000 in
theorem parsed_by (s : ByteArray) (hs : s.size <= 140737488355328) (hst : StmC (preL ++ s.data.toList)) (w : World) (he : Ev w) : Calls Tryz.prog 7 #[.string s] w (GivesE w (psF s.data.toList)) := by
  obtain ⟨w1, hw1⟩ : ∃ w1, w.alloc (.cells #[.int .i64 0, .string ⟨#[]⟩, .int .i64 0, .bool false, .int .i64 0, .string ⟨#[]⟩, .slice none 0 0, .slice none 0 0, .slice none 0 0, .slice none 0 0] 28) = w1 := ⟨_, rfl⟩
  obtain ⟨r1, hb1⟩ := alloc1 hw1
  have hlen : s.data.toList.length = s.size := by simp
  by_cases hl : 1000 < s.size
  . have hl2 : (1000 : Int) < (s.size : Int) := by omega
    have e : psF s.data.toList = (zeroT, false) := by
      unfold psF
      rw [if_pos (by rw [hlen]; exact hl)]
    rw [e]
    have HH : Hid (Below w.heap.size w w1 /\ w1.heap[w.heap.size]? = some (.cells #[.int .i64 0, .string ⟨#[]⟩, .int .i64 0, .bool false, .int .i64 0, .string ⟨#[]⟩, .slice none 0 0, .slice none 0 0, .slice none 0 0, .slice none 0 0] 28 (0, 0))) := ⟨hb1, r1⟩
    have HW := mkHid hw1
    clear hb1 r1 hlen e he hl hw1 hst
    go_enter Tryz.func7, Tryz.ntmps7
    go_wp2_with (first | rw [HW.out] | (refine wpList_put rfl 28 (.tmp 2) (.tmp 10) rfl rfl rfl rfl HH.out.2 rfl info28 (by simp [Value.oneCell']) ?_) | fail)
    exact bodyPost_ret (results_row_tmp Tryz.results7 _ _ w.heap.size 28 _ (0, 0) _ rfl (put_row _ HH.out.2 rfl) Tryz.underlying28 rfl info28) rfl ⟨zeroX, 1, rfl, zero_x _ _, put_below HH.out.1 _ (Nat.le_refl _) _⟩
  . have hl2 : ¬ (1000 : Int) < (s.size : Int) := by omega
    have hsz : ((⟨#[68, 69, 76, 69, 84, 69, 32, 70, 82, 79, 77, 32, 116, 32, 87, 72, 69, 82, 69, 32]⟩ : ByteArray) ++ s).size = 20 + s.size := by simp; rfl
    have kp := parse_by (⟨#[68, 69, 76, 69, 84, 69, 32, 70, 82, 79, 77, 32, 116, 32, 87, 72, 69, 82, 69, 32]⟩ ++ s) (by omega) (by rw [pre_list]; exact hst) w1 (he.later hb1)
    rw [pre_list] at kp
    have e : psF s.data.toList = ((parF (preL ++ s.data.toList)).1.wh, decide ((parF (preL ++ s.data.toList)).2.2 = 0)) := by
      unfold psF
      rw [if_neg (by rw [hlen]; exact hl)]
    rw [e]
    obtain ⟨X, hX⟩ : ∃ X, parF (preL ++ s.data.toList) = X := ⟨_, rfl⟩
    rw [hX] at kp ⊢
    have HH : Hid (Below w.heap.size w w1 /\ w1.heap[w.heap.size]? = some (.cells #[.int .i64 0, .string ⟨#[]⟩, .int .i64 0, .bool false, .int .i64 0, .string ⟨#[]⟩, .slice none 0 0, .slice none 0 0, .slice none 0 0, .slice none 0 0] 28 (0, 0))) := ⟨hb1, r1⟩
    have HW := mkHid hw1
    have s1 := hb1.size
    have l1 := lt_of_row r1
    have hsum : ¬ 9223372036854775807 < ((⟨#[68, 69, 76, 69, 84, 69, 32, 70, 82, 79, 77, 32, 116, 32, 87, 72, 69, 82, 69, 32]⟩ : ByteArray)).size + s.size := by
      show ¬ 9223372036854775807 < 20 + s.size
      omega
    obtain ⟨t, ht⟩ : ∃ t, ((⟨#[68, 69, 76, 69, 84, 69, 32, 70, 82, 79, 77, 32, 116, 32, 87, 72, 69, 82, 69, 32]⟩ : ByteArray) ++ s) = t := ⟨_, rfl⟩
    have HT := mkHid ht
    rw [ht] at kp
    clear hb1 r1 hlen e he hl hX hw1 hsz ht hst
    obtain ⟨y, hy⟩ : ∃ y, decide (X.2.2 = 0) = y := ⟨_, rfl⟩
    rw [hy]
    have HY := mkHid hy
    clear hy
    go_enter Tryz.func7, Tryz.ntmps7
    go_wp2_with (first | rw [HW.out] | fail)
    rw [HT.out]
    refine kp.mono ?_
    rintro q w2 ⟨R, rfl, hx, hb2⟩
    obtain ⟨w3, hw3⟩ : ∃ w3, put (w2.alloc (.cells #[.int .i64 0, .string ⟨#[]⟩, .string ⟨#[]⟩, .int .i64 0, .string ⟨#[]⟩, .int .i64 0, .bool false, .int .i64 0, .string ⟨#[]⟩, .slice none 0 0, .slice none 0 0, .slice none 0 0, .slice none 0 0, .slice none 0 0, .slice none 0 0, .int .i64 0, .string ⟨#[]⟩, .int .i64 0, .bool false, .int .i64 0, .string ⟨#[]⟩, .slice none 0 0, .slice none 0 0, .slice none 0 0, .slice none 0 0, .slice none 0 0, .bool false, .bool false, .string ⟨#[]⟩, .bool false, .int .i64 (0)] 62)) w2.heap.size (stA R) = w3 := ⟨_, rfl⟩
    have ra : (w2.alloc (.cells #[.int .i64 0, .string ⟨#[]⟩, .string ⟨#[]⟩, .int .i64 0, .string ⟨#[]⟩, .int .i64 0, .bool false, .int .i64 0, .string ⟨#[]⟩, .slice none 0 0, .slice none 0 0, .slice none 0 0, .slice none 0 0, .slice none 0 0, .slice none 0 0, .int .i64 0, .string ⟨#[]⟩, .int .i64 0, .bool false, .int .i64 0, .string ⟨#[]⟩, .slice none 0 0, .slice none 0 0, .slice none 0 0, .slice none 0 0, .slice none 0 0, .bool false, .bool false, .string ⟨#[]⟩, .bool false, .int .i64 (0)] 62)).heap[w2.heap.size]? = some (.cells zero31 62 (0, 0)) := heap_alloc_new _ _
    have hb3 : Below w2.heap.size w2 w3 := by rw [<- hw3]; exact put_below ((Below.refl _ w2).alloc (Nat.le_refl _) _) _ (Nat.le_refl _) _
    have r3 : w3.heap[w2.heap.size]? = some (.cells (stA R) 62 (0, 0)) := by rw [<- hw3]; exact put_row _ ra rfl
    have s2 := hb2.size
    have rz : w3.heap[w.heap.size]? = some (.cells #[.int .i64 0, .string ⟨#[]⟩, .int .i64 0, .bool false, .int .i64 0, .string ⟨#[]⟩, .slice none 0 0, .slice none 0 0, .slice none 0 0, .slice none 0 0] 28 (0, 0)) := ((hb3.block _ (by omega)).trans (hb2.block _ l1)).trans HH.out.2
    have hW3 := mkHid hw3
    have hxw := hx.wh
    have H3 : Hid (Below w.heap.size w w3 /\ w3.heap[w.heap.size]? = some (.cells #[.int .i64 0, .string ⟨#[]⟩, .int .i64 0, .bool false, .int .i64 0, .string ⟨#[]⟩, .slice none 0 0, .slice none 0 0, .slice none 0 0, .slice none 0 0] 28 (0, 0)) /\ (w2.alloc (.cells #[.int .i64 0, .string ⟨#[]⟩, .string ⟨#[]⟩, .int .i64 0, .string ⟨#[]⟩, .int .i64 0, .bool false, .int .i64 0, .string ⟨#[]⟩, .slice none 0 0, .slice none 0 0, .slice none 0 0, .slice none 0 0, .slice none 0 0, .slice none 0 0, .int .i64 0, .string ⟨#[]⟩, .int .i64 0, .bool false, .int .i64 0, .string ⟨#[]⟩, .slice none 0 0, .slice none 0 0, .slice none 0 0, .slice none 0 0, .slice none 0 0, .bool false, .bool false, .string ⟨#[]⟩, .bool false, .int .i64 (0)] 62)).heap[w2.heap.size]? = some (.cells zero31 62 (0, 0)) /\ (stA R).all (·.oneCell') = true /\ ∃ d, LiesE w3 (fun k => w1.heap.size <= k) d X.1.wh (rowX R.wh)) := by
      have a1 := HH.out.1.trans (hb2.mono HH.out.1.size)
      obtain ⟨d, hd⟩ := hxw
      exact ⟨a1.trans (hb3.mono a1.size), rz, ra, hx.ones, d, hd.since (Since.below hb3)⟩
    have k0 : w3.cell? ⟨w2.heap.size, 15, none⟩ = some (.int .i64 R.wh.k) := cell_of_row w3 _ 15 _ _ _ r3
    have k1 : w3.cell? ⟨w2.heap.size, 16, none⟩ = some (.string R.wh.s) := cell_of_row w3 _ 16 _ _ _ r3
    have k2 : w3.cell? ⟨w2.heap.size, 17, none⟩ = some (.int .i64 R.wh.vk) := cell_of_row w3 _ 17 _ _ _ r3
    have k3 : w3.cell? ⟨w2.heap.size, 18, none⟩ = some (.bool R.wh.vb) := cell_of_row w3 _ 18 _ _ _ r3
    have k4 : w3.cell? ⟨w2.heap.size, 19, none⟩ = some (.int .i64 R.wh.vn) := cell_of_row w3 _ 19 _ _ _ r3
    have k5 : w3.cell? ⟨w2.heap.size, 20, none⟩ = some (.string R.wh.vs) := cell_of_row w3 _ 20 _ _ _ r3
    have k6 : w3.cell? ⟨w2.heap.size, 21, none⟩ = some (.slice none 0 0) := cell_of_row w3 _ 21 _ _ _ r3
    have k7 : w3.cell? ⟨w2.heap.size, 22, none⟩ = some (.slice none 0 0) := cell_of_row w3 _ 22 _ _ _ r3
    have k8 : w3.cell? ⟨w2.heap.size, 23, none⟩ = some (.slice R.wh.kp R.wh.n R.wh.kc) := cell_of_row w3 _ 23 _ _ _ r3
    have k9 : w3.cell? ⟨w2.heap.size, 24, none⟩ = some (.slice R.wh.np R.wh.m R.wh.nc) := cell_of_row w3 _ 24 _ _ _ r3
    have l3 := lt_of_row rz
    have l32 := lt_of_row r3
    have HFIN : Hid (∃ d, LiesE (put w3 w.heap.size #[.int .i64 R.wh.k, .string R.wh.s, .int .i64 R.wh.vk, .bool R.wh.vb, .int .i64 R.wh.vn, .string R.wh.vs, .slice none 0 0, .slice none 0 0, .slice R.wh.kp R.wh.n R.wh.kc, .slice R.wh.np R.wh.m R.wh.nc]) (fun k => w.heap.size <= k) d X.1.wh (rowX R.wh)) := by
      obtain ⟨d, hd⟩ := H3.out.2.2.2.2
      have a1 := hd.since (Since.put (z := w.heap.size) (by show ¬ w1.heap.size <= w.heap.size; omega) w3 #[.int .i64 R.wh.k, .string R.wh.s, .int .i64 R.wh.vk, .bool R.wh.vb, .int .i64 R.wh.vn, .string R.wh.vs, .slice none 0 0, .slice none 0 0, .slice R.wh.kp R.wh.n R.wh.kc, .slice R.wh.np R.wh.m R.wh.nc])
      exact ⟨d, a1.imp fun k hk _ => by omega⟩
    clear kp hx hb2 hb3 ra r3 rz hw3 hxw
    by_cases h0 : X.2.2 = 0
    . have hy1 : y = true := by rw [<- HY.out]; exact decide_eq_true h0
      subst hy1
      have hc : ((X.2.2 : Nat) : Int) = 0 := by omega
      rw [hc]
      clear h0 hc
      go_wp2_with (first
        | (refine wpList_put rfl 62 (.tmp 4) (.tmp 15) rfl rfl rfl rfl H3.out.2.2.1 rfl info30 H3.out.2.2.2.1 ?_; rw [hW3.out])
        | (refine wpList_put rfl 28 (.tmp 2) (.tmp 19) rfl rfl rfl rfl H3.out.2.1 rfl info28 (by simp [Value.oneCell']) ?_)
        | fail)
      obtain ⟨d, hd⟩ := HFIN.out
      exact bodyPost_ret (results_row_tmp Tryz.results7 _ _ w.heap.size 28 _ (0, 0) _ rfl (put_row _ H3.out.2.1 rfl) Tryz.underlying28 rfl info28) rfl ⟨R.wh, d, rfl, hd, put_below H3.out.1 _ (Nat.le_refl _) _⟩
    . have hy1 : y = false := by rw [<- HY.out]; exact decide_eq_false h0
      subst hy1
      have hc : (((X.2.2 : Nat) : Int) == 0) = false := by simpa using h0
      go_wp2_with (first
        | (refine wpList_put rfl 62 (.tmp 4) (.tmp 15) rfl rfl rfl rfl H3.out.2.2.1 rfl info30 H3.out.2.2.2.1 ?_; rw [hW3.out])
        | (refine wpList_put rfl 28 (.tmp 2) (.tmp 19) rfl rfl rfl rfl H3.out.2.1 rfl info28 (by simp [Value.oneCell']) ?_)
        | fail)
      obtain ⟨d, hd⟩ := HFIN.out
      exact bodyPost_ret (results_row_tmp Tryz.results7 _ _ w.heap.size 28 _ (0, 0) _ rfl (put_row _ H3.out.2.1 rfl) Tryz.underlying28 rfl info28) rfl ⟨R.wh, d, rfl, hd, put_below H3.out.1 _ (Nat.le_refl _) _⟩
end Go.Proofs.YtfemippjaokcmaaGreatDoor
namespace Go.Proofs.YtfemippjaokcmaaGreatDoor
open Go.RowKit Go.Shelf
attribute [local go_sem] Oper.semAt_some fw0 fw1 fw2
theorem cells_size (w : World) (s : ByteArray) : s.size <= (Lib.bytesCells w 5 s).size := by
  unfold Lib.bytesCells
  rw [Array.size_append, Array.size_map]
  exact Nat.le_add_right _ _
structure BtW (w wb : World) (s : ByteArray) (b C : Nat) : Prop where
  bel : Below w.heap.size w wb
  old : w.heap.size <= b
  cap : s.size <= C
  byt : ∀ j, j < s.size -> wb.cell? ⟨b, j, none⟩ = some (.int .u8 (s.data.toList.getD j 0).toNat)
  frz : ∀ j, j < s.size -> wb.frozen? ⟨b, j, none⟩ = false
theorem bytes_made (w : World) (s : ByteArray) : BtW w (Lib.bytesWorld w 5 s) s w.heap.size (Lib.bytesCells w 5 s).size := by
  refine ⟨Joins.below_bytesWorld _ _ _ _ (Nat.le_refl _), Nat.le_refl _, ?_, fun j hj => Lib.bytesWorld_cell w 5 s j hj, fun j hj => ?_⟩
  . exact cells_size w s
  . have h := Lib.bytesWorld_at_new w 5 s
    have hs := cells_size w s
    obtain ⟨z, hz⟩ : ∃ z, (Lib.bytesCells w 5 s).size = z := ⟨_, rfl⟩
    rw [hz] at h hs
    simp only [World.frozen?, h]
    simp
    omega
theorem getD_byte (s : ByteArray) (j : Nat) (h : j < s.size) : s.data.toList.getD j 0 = s[j] := by
  have hl : j < s.data.toList.length := by simpa using h
  rw [List.getD_eq_getElem?_getD, List.getElem?_eq_getElem hl]
  rfl
set_option maxRecDepth 100000 in
set_option maxHeartbeats 4000000 in
theorem plus_any (s : ByteArray) (hs : s.size <= 100000) (w : World) : Calls Tryz.prog 23 #[.string s] w fun e w' => e = .returned (.string (V.nextB s)) /\ Below w.heap.size w w' := by
  obtain ⟨X, hX⟩ : ∃ X, V.nextB s = X := ⟨_, rfl⟩
  rw [hX]
  have HX := mkHid hX
  clear hX
  have hrun := Lib.run_convert_string_bytes (P := Tryz.prog) w 9 84 5 s Tryz.underlying9 Tryz.underlying84 Tryz.underlying5
  obtain ⟨wb, hwb⟩ : ∃ wb, Lib.bytesWorld w 5 s = wb := ⟨_, rfl⟩
  have hB := bytes_made w s
  have hG : s.size <= grownCap w s.size 0 5 := grownCap_ge _ _ _ _
  obtain ⟨G, hGe⟩ : ∃ G, grownCap w s.size 0 5 = G := ⟨_, rfl⟩
  rw [hwb] at hrun hB
  rw [hGe] at hrun hG
  obtain ⟨bk, hbk⟩ : ∃ bk, w.heap.size = bk := ⟨_, rfl⟩
  have HBK := mkHid hbk
  rw [hbk] at hrun hB
  obtain ⟨C, hC⟩ : ∃ C, (Lib.bytesCells w 5 s).size = C := ⟨_, rfl⟩
  rw [hC] at hB
  have HB := mkHid hB
  clear hwb hGe hB hbk hC
  go_enter Tryz.func23, Tryz.ntmps23
  go_wp2_with fail
  go_loopw [3] (fun c3 wr => ∃ k : Nat, k <= s.size /\ c3 = .slice (some ⟨bk, 0, none⟩) k G /\ Hid (V.nextF (s.data.toList.take k) = V.nextF s.data.toList) /\ wr = wb) (fun c3 _ => match c3 with | .slice _ n _ => n | _ => 0)
  case atStart =>
    refine ⟨s.size, Nat.le_refl _, rfl, ?_, rfl⟩
    have hh : V.nextF (s.data.toList.take s.size) = V.nextF s.data.toList := by rw [List.take_of_length_le (by simp)]
    exact hh
  case round =>
    obtain ⟨k, hk, rfl, hn, rfl⟩ := hrel
    rcases Nat.eq_zero_or_pos k with rfl | hk0
    . have hx : V.nextB s = ⟨#[]⟩ := by unfold V.nextB V.nextL; rw [<- hn.out]; rfl
      obtain rfl := hx.symm.trans HX.out
      clear hx hrun
      go_wp2
      go_ret
      exact ⟨rfl, HB.out.bel⟩
    . obtain ⟨j, rfl⟩ : ∃ j, k = j + 1 := ⟨k - 1, by omega⟩
      have hjs : j < s.size := by omega
      have hc := HB.out.byt j hjs
      rw [getD_byte s j hjs] at hc
      have hpos : (0 : Int) < ((j + 1 : Nat) : Int) := by omega
      have hm : IntKind.i64.wrap (((j + 1 : Nat) : Int) - 1) = (j : Int) := by rw [IntKind.wrap_i64]; omega
      have hzr : ¬ ((j + 1 : Nat) : Int) = 0 := by omega
      have hjl : (j : Int) < ((j + 1 : Nat) : Int) := by omega
      have hjG : (j : Int) <= (G : Int) := by omega
      obtain ⟨k1, hk1⟩ : ∃ k1 : Nat, j + 1 = k1 := ⟨_, rfl⟩
      have HK := mkHid hk1
      rw [hk1] at hpos hm hzr hjl ⊢
      have hn2 : Hid (V.nextF (s.data.toList.take (j + 1)) = V.nextF s.data.toList) := hn
      clear hn hk1 hk hk0 hrun
      by_cases hff : s[j].toNat = 255
      . have hff' : (s[j].toNat : Int) = 255 := by omega
        have hst : Hid (V.nextF (s.data.toList.take j) = V.nextF s.data.toList) := by
          have e : s[j] = 255 := V.u8_eq.2 hff
          have := hn2.out
          rw [V.take_up s j hjs, e, V.nextF_ff] at this
          exact this
        go_wp2
        go_roundw
        case rel => exact ⟨j, by omega, rfl, hst, by first | rfl | trivial⟩
        case measure => have := HK.out; simp; omega
      . have hff' : ¬ (s[j].toNat : Int) = 255 := by omega
        have hne : s[j] ≠ 255 := fun e => hff (V.u8_eq.1 e)
        have hx : V.nextB s = ⟨(s.data.toList.take j ++ [s[j] + 1]).toArray⟩ := by
          unfold V.nextB V.nextL
          rw [<- hn2.out, V.take_up s j hjs, V.nextF_up _ _ hne]
          rfl
        have HY := hx.symm.trans HX.out
        have hfz := HB.out.frz j hjs
        obtain ⟨v, hv⟩ : ∃ v : Int, IntKind.u8.wrap ((s[j].toNat : Int) + 1) = v := ⟨_, rfl⟩
        have hvc : v = ((s[j] + 1).toNat : Int) := by
          rw [<- hv, IntKind.wrap_u8', UInt8.toNat_add]
          have h3 : (1 : UInt8).toNat = 1 := rfl
          rw [h3]
          omega
        have hcv : (convert 84 9 (.slice (some ⟨bk, 0, none⟩) k1 G)).run Tryz.prog (wr.setCell ⟨bk, j, none⟩ (.int .u8 v)) = .ok (.string X) (wr.setCell ⟨bk, j, none⟩ (.int .u8 v)) := by
          have hl : (s.data.toList.take j ++ [s[j] + 1]).length = k1 := by
            rw [List.length_append, List.length_take, <- HK.out]
            have : s.data.toList.length = s.size := by simp
            simp; omega
          have := run_convert_bytes_back (P := Tryz.prog) (wr.setCell ⟨bk, j, none⟩ (.int .u8 v)) 84 9 5 ⟨bk, 0, none⟩ G (s.data.toList.take j ++ [s[j] + 1]) Tryz.underlying84 Tryz.underlying5 Tryz.underlying9 (fun i hi => ?_)
          . rw [hl] at this
            rw [this, <- HY]
          . rw [show (⟨bk, 0, none⟩ : Addr).add i = ⟨bk, i, none⟩ by unfold Addr.add; split <;> simp_all]
            have hil : i < j + 1 := by rw [hl, <- HK.out] at hi; exact hi
            by_cases hij : i = j
            . subst hij
              have hlt : (s.data.toList.take i).length = i := by
                rw [List.length_take]
                have : s.data.toList.length = s.size := by simp
                omega
              have e : (s.data.toList.take i ++ [s[i] + 1])[i] = s[i] + 1 := by
                rw [List.getElem_append_right (by omega)]
                simp
              rw [World.cell?_setCell_same _ _ _ hc, e, hvc]
            . have hij2 : i < j := by omega
              rw [World.cell?_setCell_other _ _ _ _ (fun e => hij (by injection e with _ e2 _; exact e2.symm)), HB.out.byt i (by omega), getD_byte s i (by omega)]
              have hlt : (s.data.toList.take j).length = j := by
                rw [List.length_take]
                have : s.data.toList.length = s.size := by simp
                omega
              have e : (s.data.toList.take j ++ [s[j] + 1])[i] = s[i] := by
                rw [List.getElem_append_left (by omega), List.getElem_take]
                rfl
              rw [e]
        have HBF : Hid (Below w.heap.size w (wr.setCell ⟨bk, j, none⟩ (.int .u8 v))) := by
          have := HB.out
          have e := HBK.out
          exact HB.out.bel.setCell (p := ⟨bk, j, none⟩) (by show w.heap.size <= bk; omega) _
        clear hx HY hvc
        go_wp2
        go_ret
        exact ⟨rfl, HBF.out⟩
end Go.Proofs.YtfemippjaokcmaaGreatDoor
namespace Go.Proofs.YtfemippjaokcmaaGreatDoor
open Go.RowKit Go.Shelf
theorem wanted_of {ops : Array Oper} {o : Oper} {a : Act} {k d : Nat} {b : Bool} (hg : o.guard = some (k, b)) (hk : (ops[k]?).bind (·.dst) = some d) (hv : a.eval (.tmp d) = .bool b) : Region.wanted o (yielded ops a.tmps) = true := by
  have h1 : a.tmps[d]?.getD undef = .bool b := ev hv
  have h2 : a.tmps[d]? = some (.bool b) := by
    cases h : a.tmps[d]? with
    | none => rw [h] at h1; cases h1
    | some v => rw [h] at h1; exact congrArg some h1
  unfold Region.wanted yielded
  simp only [hg, hk, Option.bind_some, h2]
  simp
theorem op_wide {P : Program} {m : Nat} {o : Oper} {a : Act} {w : World} {K : Act -> World -> Prop} {Q : Exit -> Act -> World -> Prop} (h : o.wp P a w K Q) (hr : ∀ row args w', (execOp a.eval o).run P w ≠ .ok (.row row args) w') : o.wpIn Fence.wide m P a w K Q := by
  unfold Oper.wpIn
  refine ⟨fun _ _ => trivial, ?_⟩
  have e2 : o.semAt Fence.wide.round a.eval = execOp a.eval o := rfl
  rw [e2]
  unfold Oper.wp at h
  generalize (execOp a.eval o).run P w = r at *
  cases r with
  | ok x w' =>
    cases x with
    | value v => exact h
    | skip => exact h
    | defer d => exact h
    | enter f args => exact ⟨fun h => (by cases h), callsIn_wide.2 h⟩
    | row row args => exact absurd rfl (hr row args w')
    | _ => exact h.elim
  | halt x w' => cases x <;> first | exact h | exact h.elim
theorem any_invIn {P : Program} {m : Nat} {md : Region.Mode} {ops : Array Oper} {Q : Exit -> Act -> World -> Prop} (I : Array Bool -> Act -> World -> Prop)
    (hsz : ∀ l a w, I l a w -> l.size = ops.size) (hdone : ∀ l a w, I l a w -> Region.ready md ops l = [] -> Q .normal a w)
    (hstep : ∀ l a w, I l a w -> ∀ i ∈ Region.ready md ops l, wpOpIn Fence.wide m P ops Q i (I (l.setIfInBounds i true)) a w) :
    ∀ (fuel : Nat) (l : Array Bool) (a : Act) (w : World), unl l <= fuel -> I l a w -> wpAnyIn Fence.wide m P md ops Q fuel l a w := by
  intro fuel
  induction fuel with
  | zero =>
    intro l a w hf h
    have hr := ready_unl (md := md) (ops := ops) (by omega : unl l = 0) (hsz l a w h)
    exact ⟨hr, hdone l a w h hr⟩
  | succ fuel ih =>
    intro l a w hf h
    refine ⟨hdone l a w h, fun i hi => ?_⟩
    refine wpOpIn_mono (fun a' w' h' => ih _ _ _ ?_ h') (hstep l a w h i hi)
    unfold Region.ready at hi
    rw [List.mem_filter, List.mem_range] at hi
    obtain ⟨h1, h2⟩ := hi
    simp only [Bool.and_eq_true, Bool.not_eq_true'] at h2
    have := unl_set (l := l) (i := i) (by rw [hsz l a w h]; exact h1) h2.1
    omega
theorem wpOpIn_want {P : Program} {m : Nat} {ops : Array Oper} {Q : Exit -> Act -> World -> Prop} {i : Nat} {o : Oper} {K : Act -> World -> Prop} {a : Act} {w : World} (ho : ops[i]? = some o) (hg : Region.wanted o (yielded ops a.tmps) = true) (h : o.wpIn Fence.wide m P a w K Q) : wpOpIn Fence.wide m P ops Q i K a w := by
  unfold wpOpIn
  rw [ho]
  simp only [hg, if_true]
  exact h
theorem wpOpIn_skip {P : Program} {m : Nat} {ops : Array Oper} {Q : Exit -> Act -> World -> Prop} {i : Nat} {o : Oper} {K : Act -> World -> Prop} {a : Act} {w : World} (ho : ops[i]? = some o) (hg : Region.wanted o (yielded ops a.tmps) = false) (h : K (a.put o.dst undef) w) : wpOpIn Fence.wide m P ops Q i K a w := by
  unfold wpOpIn
  rw [ho]
  simp only [hg]
  exact ⟨fun _ _ => trivial, h⟩
theorem any_tailIn {P : Program} {m : Nat} {ops : Array Oper} {Q : Exit -> Act -> World -> Prop} {id : Nat} {a0 : Act} {w : World} (hm : P.follows .mixedOrders = true) (n : Nat) (hsz : n <= ops.size) (ds : Nat -> Nat) (R : Nat -> Value -> World -> Prop)
    (hdep : depB ops = true) (htl : tailB ops n = true) (hinj : injB ds n = true) (hlt : sltB ds n a0.tmps.size = true)
    (hR : ∀ i v W W', R i v W -> Below W.heap.size W W' -> R i v W')
    (hstep : ∀ i, i < n -> ∀ (a : Act) (W : World), (∀ j, (∀ i, i < n -> ds i ≠ j) -> a.eval (.tmp j) = a0.eval (.tmp j)) -> Below w.heap.size w W -> (∀ k ∈ depOf ops i, R k (a.eval (.tmp (ds k))) W) ->
      ∃ o, ops[i]? = some o /\ o.dst = some (ds i) /\ ((Region.wanted o (yielded ops a.tmps) = true /\ o.wpIn Fence.wide m P a W (fun a' W' => ∃ v, a' = a.put o.dst v /\ Below W.heap.size W W' /\ R i v W') Q) ∨ (Region.wanted o (yielded ops a.tmps) = false /\ R i undef W)))
    (hQ : ∀ (V : Nat -> Value) (W : World), Below w.heap.size w W -> (∀ i, i < n -> R i (V i) W) -> wpListIn Fence.wide m P ops Q (ops.toList.drop n) (putAll a0 ds V n) W) :
    (Code.region id ops true).wpIn Fence.wide m P Q a0 w := by
  have hdep' : ∀ i, i < ops.size -> ∀ k ∈ depOf ops i, k < i := by
    intro i hi k hk
    unfold depB at hdep
    simp only [List.all_eq_true, List.mem_range, decide_eq_true_eq] at hdep
    exact hdep i (by omega) k hk
  have hinj' : ∀ i j, i < n -> j < n -> ds i = ds j -> i = j := by
    unfold injB at hinj
    simp only [List.all_eq_true, List.mem_range, decide_eq_true_eq] at hinj
    exact fun i j hi hj => hinj i hi j hj
  have hlt' : ∀ i, i < n -> ds i < a0.tmps.size := by
    unfold sltB at hlt
    simp only [List.all_eq_true, List.mem_range, decide_eq_true_eq] at hlt
    exact hlt
  have hops : ∀ a W, wpListIn Fence.wide m P ops Q (ops.toList.drop n) a W -> wpOpsIn Fence.wide m P ops Q (List.range' n (ops.size - n)) a W := by
    intro a W h
    have e := wpOpsIn_eq_wpListIn (F := Fence.wide) (n := m) (P := P) (ops := ops) (Q := Q) (ops.toList.drop n) n (fun j => by rw [List.getElem?_drop]; simp)
    rw [List.length_drop, Array.length_toList] at e
    rw [e]
    exact h
  have hfin : ∀ (l : Array Bool) (a : Act) (W : World), TI ops.size n ds R a0 w l a W -> (∀ i, i < n -> l.getD i false = true) -> wpOpsIn Fence.wide m P ops Q (List.range' n (ops.size - n)) a W := by
    intro l a W H tt
    have he : a = putAll a0 ds (fun i => a.tmps.getD (ds i) undef) n := by
      refine act_ext (H.df.trans (putAll_df _ _ _ _).symm) (H.sz.trans (putAll_sz _ _ _ _).symm) (fun j => ?_)
      by_cases hj : ∃ i, i < n /\ ds i = j
      . obtain ⟨i, hi, rfl⟩ := hj
        rw [putAll_eq a0 ds _ i n hinj' hlt' hi]
      . have hj' : ∀ i, i < n -> ds i ≠ j := fun i hi e => hj ⟨i, hi, e⟩
        rw [putAll_ne a0 ds _ j n hj']
        exact H.rest j hj'
    have h2 := hops _ _ (hQ (fun i => a.tmps.getD (ds i) undef) W H.hb (fun i hi => H.val i hi (tt i hi)))
    rw [<- he] at h2
    exact h2
  refine wpIn_region_any hm ?_
  refine any_invIn (fun l a W => l.size = ops.size /\ (∀ m, l.getD m false = true -> ∀ k ∈ depOf ops m, l.getD k false = true) /\
    ((TI ops.size n ds R a0 w l a W /\ (∀ i, n <= i -> l.getD i false = false) /\ ∃ i, i < n /\ l.getD i false = false) ∨
      ∃ j, n <= j /\ j <= ops.size /\ (∀ i, i < j -> l.getD i false = true) /\ (∀ i, j <= i -> l.getD i false = false) /\ wpOpsIn Fence.wide m P ops Q (List.range' j (ops.size - j)) a W)) ?_ ?_ ?_ _ _ _ _ ?_ ?_
  . intro l a W H
    exact H.1
  . intro l a W H hr
    obtain ⟨hl, hcl, H⟩ := H
    have tt := all_done rfl hl hdep' hr
    rcases H with ⟨_, _, i, hi, h0⟩ | ⟨j, h1, h2, h3, h4, h5⟩
    . rw [tt i (by omega)] at h0; cases h0
    . have hj : j = ops.size := by
        rcases Nat.lt_or_ge j ops.size with h | h
        . have h6 := h4 j (Nat.le_refl _)
          rw [tt j h] at h6
          cases h6
        . omega
      subst hj
      rw [Nat.sub_self] at h5
      simpa [wpOpsIn] using h5
  . intro l a W H i hi
    obtain ⟨hl, hcl, H⟩ := H
    obtain ⟨hin, hfr, hdd⟩ := mem_ready.1 hi
    have hil : i < l.size := by omega
    have hcl2 : ∀ m, (l.setIfInBounds i true).getD m false = true -> ∀ k ∈ depOf ops m, (l.setIfInBounds i true).getD k false = true := by
      intro m hm2 k hk
      rw [gset hil] at hm2 ⊢
      by_cases e : i = m
      . subst e
        split
        . rfl
        . exact hdd k hk
      . rw [if_neg e] at hm2
        split
        . rfl
        . exact hcl m hm2 k hk
    have hfr2 := fresh_at hfr
    rcases H with ⟨H, h0, i0, hi0, h00⟩ | ⟨j, h1, h2, h3, h4, h5⟩
    . by_cases hn : i < n
      . obtain ⟨o, ho, hd, hw⟩ := hstep i hn a W (fun j hj => H.rest j hj) H.hb (fun k hk => H.val k (by have := hdep' i hin k hk; omega) (hdd k hk))
        have hgo : ∀ v W', Below W.heap.size W W' -> R i v W' -> (fun (l : Array Bool) (a : Act) (W : World) => l.size = ops.size /\ (∀ m, l.getD m false = true -> ∀ k ∈ depOf ops m, l.getD k false = true) /\
          ((TI ops.size n ds R a0 w l a W /\ (∀ i, n <= i -> l.getD i false = false) /\ ∃ i, i < n /\ l.getD i false = false) ∨
            ∃ j, n <= j /\ j <= ops.size /\ (∀ i, i < j -> l.getD i false = true) /\ (∀ i, j <= i -> l.getD i false = false) /\ wpOpsIn Fence.wide m P ops Q (List.range' j (ops.size - j)) a W)) (l.setIfInBounds i true) (a.put (some (ds i)) v) W' := by
          intro v W' hb hv
          have H2 := H.step hR hinj' hlt' hsz hn hb hv
          refine ⟨H2.len, hcl2, ?_⟩
          by_cases hall : ∀ k, k < n -> (l.setIfInBounds i true).getD k false = true
          . refine Or.inr ⟨n, Nat.le_refl _, hsz, hall, fun k hk => ?_, hfin _ _ _ H2 hall⟩
            rw [lset (by omega)]
            exact h0 k hk
          . refine Or.inl ⟨H2, fun k hk => ?_, ?_⟩
            . rw [lset (by omega)]
              exact h0 k hk
            . obtain ⟨k, hk⟩ := Classical.not_forall.1 hall
              obtain ⟨hk1, hk2⟩ := Classical.not_imp.1 hk
              exact ⟨k, hk1, by simpa using hk2⟩
        rcases hw with ⟨hg, hw⟩ | ⟨hg, hw⟩
        . refine wpOpIn_want ho hg (Oper.wpIn_mono ?_ hw)
          rintro a' W' ⟨v, rfl, hb, hv⟩
          rw [hd]
          exact hgo v W' hb hv
        . refine wpOpIn_skip ho hg ?_
          rw [hd]
          exact hgo _ W (Below.refl _ _) hw
      . have := tail_ready htl hcl hin (by omega) hdd i0 (by omega)
        rw [h00] at this
        cases this
    . have hij : i = j := by
        rcases Nat.lt_trichotomy i j with h | h | h
        . rw [h3 i h] at hfr2; cases hfr2
        . exact h
        . have h6 := tail_ready htl hcl hin (by omega) hdd j h
          rw [h4 j (Nat.le_refl _)] at h6
          cases h6
      subst hij
      have e : ops.size - i = (ops.size - (i + 1)) + 1 := by omega
      rw [e, List.range'_succ, wpOpsIn_cons] at h5
      refine wpOpIn_mono (fun a' W' h' => ?_) h5
      refine ⟨by simp [hl], hcl2, Or.inr ⟨i + 1, by omega, by omega, fun k hk => ?_, fun k hk => ?_, h'⟩⟩
      . rw [gset hil]
        split
        . rfl
        . exact h3 k (by omega)
      . rw [lset (by omega)]
        exact h4 k (by omega)
  . simp only [unl, Array.toList_replicate]
    exact Nat.le_trans (List.length_filter_le _ _) (by simp)
  . have hrep : ∀ j, (Array.replicate ops.size false).getD j false = false := fun j => by simp [Array.getD_eq_getD_getElem?, Array.getElem?_replicate]; split <;> rfl
    have H0 : TI ops.size n ds R a0 w (Array.replicate ops.size false) a0 w.drew := { len := by simp, df := rfl, sz := rfl, rest := fun _ _ => rfl, hb := (Below.refl _ w).drew, val := fun i _ h => absurd ((hrep _).symm.trans h) (by decide) }
    refine ⟨by simp, fun m h => absurd ((hrep _).symm.trans h) (by decide), ?_⟩
    by_cases hn : n = 0
    . refine Or.inr ⟨0, by omega, by omega, fun i hi => absurd hi (by omega), fun i _ => hrep i, ?_⟩
      have := hfin _ _ _ H0 (fun i hi => absurd hi (by omega))
      rw [hn] at this
      exact this
    . exact Or.inl ⟨H0, fun i _ => hrep i, 0, by omega, hrep 0⟩
theorem wpIn_value {P : Program} {m : Nat} {o : Oper} {a : Act} {w w' : World} {K : Act -> World -> Prop} {Q : Exit -> Act -> World -> Prop} {v : Value} (hrun : (execOp a.eval o).run P w = .ok (.value v) w') (h : K (a.put o.dst v) w') : o.wpIn Fence.wide m P a w K Q := by
  refine op_wide (wp_value hrun h) ?_
  intro row args w2 e
  rw [hrun] at e
  cases e
theorem wpIn_enter {P : Program} {m : Nat} {o : Oper} {a : Act} {w : World} {K : Act -> World -> Prop} {Q : Exit -> Act -> World -> Prop} {f : FuncId} {args : Array Value} (hrun : (execOp a.eval o).run P w = .ok (.enter f args) w)
    (hc : Calls P f args w fun e w' => ∃ v, e = .returned v /\ K (a.put o.dst v) w') : o.wpIn Fence.wide m P a w K Q := by
  refine op_wide (wp_enter hrun hc) ?_
  intro row args w2 e
  rw [hrun] at e
  cases e
end Go.Proofs.YtfemippjaokcmaaGreatDoor
