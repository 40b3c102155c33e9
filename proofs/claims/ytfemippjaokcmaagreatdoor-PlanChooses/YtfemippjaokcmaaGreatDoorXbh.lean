/- PlanChooses called. What the rows' proofs share: the library's variables ErrRange and ErrSyntax, as their texts lay them, hold errors. No condition of our own. The frame of a tied row's proof that keeps the world's shape beside what is laid; a variable of the library's that holds some number. -/
import Derived.Test.YtfemippjaokcmaaGreatDoorXbg
import Derived.Test.YtfemippjaokcmaaGreatDoorRows
import Derived.Test.YtfemippjaokcmaaGreatDoorNum
import Derived.ProofKit
import Derived.LaidMore
import Derived.OpenShut
import Derived.ShutString
import Derived.Stop.Joined
import Derived.Stop.LaidErr
import Derived.Test.YtfemippjaokcmaaGreatDoorXas
import Derived.HandedShaped
import Derived.Handed
import Derived.Shelf.Vars
namespace Go.Proofs.YtfemippjaokcmaaGreatDoor
open Go.RowKit Go.Shelf
attribute [local go_sem] Oper.semAt_some fw0 fw1 fw2 eql35
def strL (l : List ByteArray) : List Value := l.map .string
/- A slice of some length. -/
def SlN (n : Nat) (v : Value) (_ : World) : Prop := ∃ p c, v = .slice p n c
theorem SlN.later {n : Nat} : ∀ v W W', SlN n v W → Below W.heap.size W W' → SlN n v W' := fun _ _ _ h _ => h
set_option maxRecDepth 100000 in
set_option maxHeartbeats 8000000 in
theorem parsed_all (s : ByteArray) (hs : s.size ≤ 9223372036854775807) (w : World) (he : Ev w) : Calls Tryz.prog 7 #[.string s] w (GivesE w (psF s.data.toList)) := by
  by_cases hl : 1000 < s.size
  · obtain ⟨w1, hw1⟩ : ∃ w1, w.alloc (.cells #[.int .i64 0, .string ⟨#[]⟩, .int .i64 0, .bool false, .int .i64 0, .string ⟨#[]⟩, .slice none 0 0, .slice none 0 0, .slice none 0 0, .slice none 0 0] 28) = w1 := ⟨_, rfl⟩
    obtain ⟨r1, hb1⟩ := alloc1 hw1
    have hlen : s.data.toList.length = s.size := by simp
    have hl2 : (1000 : Int) < (s.size : Int) := by omega
    have e : psF s.data.toList = (zeroT, false) := by
      unfold psF
      rw [if_pos (by rw [hlen]; exact hl)]
    rw [e]
    have HH : Hid (Below w.heap.size w w1 ∧ w1.heap[w.heap.size]? = some (.cells #[.int .i64 0, .string ⟨#[]⟩, .int .i64 0, .bool false, .int .i64 0, .string ⟨#[]⟩, .slice none 0 0, .slice none 0 0, .slice none 0 0, .slice none 0 0] 28 (0, 0))) := ⟨hb1, r1⟩
    have HW := mkHid hw1
    clear hb1 r1 hlen e he hl hw1
    go_enter Tryz.func7, Tryz.ntmps7
    go_wp2_with (first | rw [HW.out] | (refine wpList_put rfl 28 (.tmp 2) (.tmp 10) rfl rfl rfl rfl HH.out.2 rfl info28 (by simp [Value.oneCell']) ?_) | fail)
    exact bodyPost_ret (results_row_tmp Tryz.results7 _ _ w.heap.size 28 _ (0, 0) _ rfl (put_row _ HH.out.2 rfl) Tryz.underlying28 rfl info28) rfl ⟨zeroX, 1, rfl, zero_x _ _, put_below HH.out.1 _ (Nat.le_refl _) _⟩
  · exact parsed_any s (by omega) w he
theorem own_ixs {w : World} {base : Nat} {v : Value} {l : List ByteArray} (h : w.ownsRow base 9 1 v l.length (strL l)) (hl : l.length ≤ 100000) : ∃ p c, v = .slice p l.length c ∧ Ixs w p l := by
  rcases h.2 with ⟨hv, hn⟩ | ⟨b, cap, cur, hv, hb, hr, h1, h2, h3, h4⟩
  · exact ⟨none, 0, by rw [hv, hn], hl, .inl (List.eq_nil_of_length_eq_zero hn)⟩
  · refine ⟨_, _, hv, hl, .inr ⟨b, 0, rfl, lt_of_row hr, fun j hj => ?_⟩⟩
    have e : (strL l)[j]? = some (.string (l.getD j ByteArray.empty)) := by simp [strL, hj]
    rw [← h4, List.getElem?_take, if_pos (by omega)] at e
    rw [Nat.zero_add, cell_of_row w b j cur _ _ hr]
    simpa using e
set_option maxRecDepth 100000 in
set_option maxHeartbeats 8000000 in
theorem chooses_walk (s : ByteArray) (xs : List ByteArray) (p : Option Addr) (c : Nat) (w : World) (he : Ev w) (hg : V.Gm w) (hs : s.size ≤ 9223372036854775807) (hL : Lst w p xs) : Calls Tryz.prog 3 #[.string s, .slice p xs.length c] w fun e w' => e = .returned (.bool true) ∧ Below w.heap.size w w' := by
  have hpa := parsed_all s hs w he
  have hwp := ps_wp s.data.toList
  obtain ⟨X, hX⟩ : ∃ X, psF s.data.toList = X := ⟨_, rfl⟩
  rw [hX] at hpa hwp
  obtain ⟨t, ok⟩ := X
  obtain ⟨n, hn⟩ : ∃ n, xs.length = n := ⟨_, rfl⟩
  have hn63 : n ≤ 9223372036854775807 := by rw [← hn]; exact hL.len
  have HH : Hid (Ev w ∧ V.Gm w ∧ Lst w p xs ∧ Wp t ∧ xs.length = n) := ⟨he, hg, hL, hwp, hn⟩
  obtain ⟨i9, hi9, hz0, hz1, hz2⟩ := info_parts info9c
  rw [hn]
  clear he hg hs hL hwp hX hn
  go_enter Tryz.func3, Tryz.ntmps3
  go_wp2_with fail
  refine hpa.mono ?_
  rintro e w2 ⟨⟨k, s0, vk, vb, vn, vs, kp, nk, kc, np, nm, nc⟩, d, rfl, hx0, hb2⟩
  clear hpa
  obtain ⟨w3, hw3⟩ : ∃ u, w2.alloc (.cells #[.int .i64 k, .string s0, .int .i64 vk, .bool vb, .int .i64 vn, .string vs, .slice none 0 0, .slice none 0 0, .slice kp nk kc, .slice np nm nc] 28) = u := ⟨_, rfl⟩
  obtain ⟨r3, hb3⟩ := alloc1 hw3
  have HW3 := mkHid hw3
  have hb03 : Below w.heap.size w w3 := hb2.trans (hb3.mono hb2.size)
  have H3 : Hid (Below w.heap.size w w3 ∧ LiesE w3 (fun k => k < w3.heap.size) d t (rowX ⟨k, s0, vk, vb, vn, vs, kp, nk, kc, np, nm, nc⟩) ∧ w3.heap[w2.heap.size]? = some (.cells #[.int .i64 k, .string s0, .int .i64 vk, .bool vb, .int .i64 vn, .string vs, .slice none 0 0, .slice none 0 0, .slice kp nk kc, .slice np nm nc] 28 (0, 0))) := ⟨hb03, (hx0.since (Since.below hb3)).imp (fun k _ hl => hl), r3⟩
  have hE3 := HH.out.1.later hb03
  have hG3 := HH.out.2.1.later hb03 HH.out.2.1.pos
  clear hx0 hb2 hb3 hw3 r3 hb03
  unfold rowX
  cases ok with
  | false =>
    have ka := awake_any w3 hE3 hG3
    go_wp2_with (first | rw [HW3.out] | fail)
    refine ka.mono ?_
    rintro e w4 ⟨rfl, hb4⟩
    have H4 : Hid (Below w.heap.size w w4) := H3.out.1.trans (hb4.mono H3.out.1.size)
    clear ka hb4
    go_wp2
    go_ret
    exact ⟨rfl, H4.out⟩
  | true =>
    have HEG := mkHid (And.intro hE3 hG3)
    clear hE3 hG3
    obtain ⟨w4, hw4⟩ : ∃ w4, w3.alloc (.cells #[] 9) = w4 := ⟨_, rfl⟩
    have H4 : Hid (Below w3.heap.size w3 w4 ∧ w4.ownsRow w3.heap.size 9 1 (.slice (some ⟨w3.heap.size, 0, none⟩) 0 0) 0 (strL (xs.take 0)) ∧ w3.heap.size < w4.heap.size) := by
      refine ⟨by rw [← hw4]; exact (Below.refl _ w3).alloc (Nat.le_refl _) _, ⟨rfl, .inr ⟨w3.heap.size, 0, #[], rfl, Nat.le_refl _, by rw [← hw4]; exact heap_alloc_new _ _, Nat.le_refl _, Nat.zero_le _, rfl, rfl⟩⟩, by rw [← hw4]; simp⟩
    go_wp2_with (first | rw [HW3.out] | fail)
    try rw [hw4]
    clear hw4
    obtain ⟨z5, hz5⟩ : ∃ z, w2.heap.size = z := ⟨_, rfl⟩
    rw [hz5] at H3 ⊢
    clear hz5 HW3
    go_loopw [7, 8] (fun c7 c8 wr => ∃ i : Nat, i ≤ n ∧ i ≤ 8 ∧ c8 = .int .i64 (i : Int) ∧ Hid (Below w3.heap.size w3 wr ∧ wr.ownsRow w3.heap.size 9 1 c7 i (strL (xs.take i)) ∧ w3.heap.size < wr.heap.size)) (fun _ c8 _ => n - (intOf c8).toNat)
    case atStart => exact ⟨0, Nat.zero_le _, Nat.zero_le _, rfl, H4⟩
    case round =>
      clear H4
      obtain ⟨i, hi, hi8, rfl, hI⟩ := hrel
      by_cases hq : i < n ∧ i < 8
      · obtain ⟨hin, hi88⟩ := hq
        have hin' : (i : Int) < (n : Int) := by omega
        have hi8' : (i : Int) < (8 : Int) := by omega
        obtain ⟨x, hx⟩ : ∃ x, xs[i]? = some x := ⟨_, List.getElem?_eq_getElem (by rw [HH.out.2.2.2.2]; exact hin)⟩
        have hLs := HH.out.2.2.1
        obtain ⟨gb, go, hp, hgl, hgc⟩ := hLs.lies (by rw [HH.out.2.2.2.2]; omega)
        subst hp
        have b0r : Below w.heap.size w wr := H3.out.1.trans (hI.out.1.mono H3.out.1.size)
        have c1 := (b0r.cell (p := ⟨gb, go + i, none⟩) hgl).trans (hgc i x hx)
        have o3 := hI.out.2.1
        have hst : strL (xs.take (i + 1)) = strL (xs.take i) ++ [.string x] := by
          rw [List.take_add_one, hx]
          simp [strL]
        have HST := mkHid hst
        clear hst hgc hLs b0r hx
        go_wp2_with (at_builtin; refine wpList_append_own_at _ rfl _ _ 22 rfl w3.heap.size 9 i9 (.string ⟨#[]⟩) 1 16 Tryz.underlying22 hi9 hz0 hz1 hz2 rfl (by decide) _ _ _ rfl (o3.alloc _) ⟨wr.heap.size, 0, none⟩ 1 1 [.string x] rfl rfl ?c1 ?c2 ?c3 ?c4 ?c5 ?_)
        case c1 => exact World.news_of_block (heap_alloc_new wr _)
        case c2 => exact fun u hu => by rw [List.mem_singleton] at hu; rw [hu]; rfl
        case c3 => unfold maxLen; omega
        case c4 => omega
        case c5 => have := hI.out.1.size; simp; omega
        intro v' w5 hown5 hgr5 _ hat5
        have H5 : Hid (Below w3.heap.size w3 w5 ∧ w5.ownsRow w3.heap.size 9 1 v' (i + 1) (strL (xs.take (i + 1))) ∧ w3.heap.size < w5.heap.size) := by
          have := hI.out.1.size
          refine ⟨(hI.out.1.alloc (by omega) _).grown hgr5 (by simp; omega) (fun j hj => (o3.lt j hj).1), ?_, ?_⟩
          · rw [HST.out]
            exact hown5
          · have q1 := hgr5.size
            have q2 := hI.out.2.2
            simp only [World.size_alloc] at q1
            omega
        clear o3 hown5 hgr5 hat5 hI c1
        go_wp2_with fail
        go_roundw
        case rel => exact ⟨i + 1, by omega, by omega, by go_num, H5⟩
        case measure => simp [intOf]; omega
      · have hl8 : (xs.take i).length = i := by rw [List.length_take, HH.out.2.2.2.2]; omega
        obtain ⟨l, hl⟩ : ∃ l, xs.take i = l := ⟨_, rfl⟩
        rw [hl] at hI hl8
        rename World => w7
        have hI2 := hI.out.2.1
        rw [← hl8] at hI2
        obtain ⟨q7, c7, hv7, hIx⟩ := own_ixs hI2 (by omega)
        rw [hl8] at hv7
        subst hv7
        have hb37 := hI.out.1
        have hb07 : Below w.heap.size w w7 := H3.out.1.trans (hb37.mono H3.out.1.size)
        have hx7 := (H3.out.2.1.since (Since.below hb37)).imp (R := fun k => k < w7.heap.size) (fun k _ hl => hl)
        have r7 := Below.row hb37 H3.out.2.2
        have hG7 := HEG.out.2.later hb37 HEG.out.2.pos
        have hE7 := HEG.out.1.later hb37
        have hcnt : i < n → i < 8 → False := fun h1 h2 => hq ⟨h1, h2⟩
        have H7 : Hid (Below w.heap.size w w7) := hb07
        have hA := HH.out.2.2.2.1.1
        have hlen : (partsE d t).length ≤ 100000 := Nat.le_trans (HH.out.2.2.2.1.2 d) (by decide)
        obtain ⟨P, hP⟩ : ∃ P, chooseL ((partsE d t).map saidE) l = P := ⟨_, rfl⟩
        have kch : ∀ W : World, Below w7.heap.size w7 W → Calls Tryz.prog 9 #[.agg #[.int .i64 k, .string s0, .int .i64 vk, .bool vb, .int .i64 vn, .string vs, .slice none 0 0, .slice none 0 0, .slice kp nk kc, .slice np nm nc], .slice q7 i c7] W fun e w' => e = .returned (.agg #[.string P.1, .string P.2.1, .string P.2.2]) ∧ Below W.heap.size W w' := fun W hb => by
          have hxw := (hx7.since (Since.below hb)).imp (R := fun k => k < W.heap.size) (fun k _ hl => hl)
          have h := choose_any hxw (hG7.later hb hG7.pos) hlen (fun x hx => (hA.parts d x hx).lits) (fun q hq => by
            obtain ⟨x, hx, rfl⟩ := List.mem_map.1 hq
            exact said_len (hA.parts d x hx)) q7 c7 l (hIx.later hb)
          rw [hP, hl8] at h
          exact h
        have klc : ∀ W : World, Below w7.heap.size w7 W → Calls Tryz.prog 10 #[.agg #[.int .i64 k, .string s0, .int .i64 vk, .bool vb, .int .i64 vn, .string vs, .slice none 0 0, .slice none 0 0, .slice kp nk kc, .slice np nm nc], .slice q7 i c7] W fun e w' => e = .returned (.agg #[.string P.1, .string P.2.1, .string P.2.2]) ∧ Below W.heap.size W w' := fun W hb => by
          have hxw := (hx7.since (Since.below hb)).imp (R := fun k => k < W.heap.size) (fun k _ hl => hl)
          have h := lchoose_any hxw hA hlen q7 c7 l (hIx.later hb)
          rw [both_plans hA, hP, hl8] at h
          exact h
        obtain ⟨m, hm⟩ : ∃ m, (partsE d t).length = m := ⟨_, rfl⟩
        have kpp : ∀ W : World, Below w7.heap.size w7 W → Calls Tryz.prog 11 #[.agg #[.int .i64 k, .string s0, .int .i64 vk, .bool vb, .int .i64 vn, .string vs, .slice none 0 0, .slice none 0 0, .slice kp nk kc, .slice np nm nc]] W fun e w' => ∃ p c, e = .returned (.slice p m c) ∧ Below W.heap.size W w' := fun W hb => by
          have hxw := (hx7.since (Since.below hb)).imp (R := fun k => k < W.heap.size) (fun k _ hl => hl)
          have h := parts_len hxw hA.cnt hlen
          rw [hm] at h
          exact h
        have klp : ∀ W : World, Below w7.heap.size w7 W → Calls Tryz.prog 12 #[.agg #[.int .i64 k, .string s0, .int .i64 vk, .bool vb, .int .i64 vn, .string vs, .slice none 0 0, .slice none 0 0, .slice kp nk kc, .slice np nm nc]] W fun e w' => ∃ p c, e = .returned (.slice p m c) ∧ Below W.heap.size W w' := fun W hb => by
          have hxw := (hx7.since (Since.below hb)).imp (R := fun k => k < W.heap.size) (fun k _ hl => hl)
          refine (lparts_any d t ⟨k, s0, vk, vb, vn, vs, kp, nk, kc, np, nm, nc⟩ W.heap.size W hxw (Nat.le_refl _) hlen).mono ?_
          rintro e w' ⟨v, rfl, ho, hb', -, -⟩
          obtain ⟨L, hown, -⟩ := ho.own
          rw [hm] at hown
          obtain ⟨q, k, rfl⟩ := own_len hown
          exact ⟨q, k, rfl, hb'⟩
        have kz : ∀ W : World, Calls Tryz.prog 11 #[.agg #[.int .i64 0, .string ⟨#[]⟩, .int .i64 0, .bool false, .int .i64 0, .string ⟨#[]⟩, .slice none 0 0, .slice none 0 0, .slice none 0 0, .slice none 0 0]] W fun e w' => ∃ p c, e = .returned (.slice p 0 c) ∧ Below W.heap.size W w' := fun W =>
          parts_len (zero_x W (fun k => k < W.heap.size)) all_zero.cnt (Nat.zero_le _)
        have ka : ∀ W : World, Below w7.heap.size w7 W → Calls Tryz.prog 8 #[] W fun e w' => e = .returned (.bool true) ∧ Below W.heap.size W w' := fun W hb => awake_any W (hE7.later hb) (hG7.later hb hG7.pos)
        obtain ⟨P0, P1, P2⟩ := P
        have hm1 : m ≤ 100000 := by rw [← hm]; exact hlen
        have HKS := mkHid (And.intro kch (And.intro klc (And.intro kpp (And.intro klp (And.intro kz ka)))))
        clear hI hI2 hIx hb37 hb07 hx7 hG7 hE7 hA hlen hP hm hl hl8 hq kch klc kpp klp kz ka
        by_cases hin : i < n
        · have h8 : ¬ i < 8 := fun h => hcnt hin h
          have hin' : (i : Int) < (n : Int) := by omega
          have h8' : ¬ (i : Int) < 8 := by omega
          clear hcnt h8 hin
          go_wp2_with fail
          refine (wpIn_wide (n := 0)).1 ?_
          refine any_tailIn (m := 0) (by kernel_rfl) 26 (by exact Nat.le_of_ble_eq_true rfl) (fun i => if i < 25 then i + 35 else 4) (mixR [(12, (SlN m)), (15, (SlN m)), (21, (SlN 0))] [.bool true, .bool true, .agg #[.int .i64 k, .string s0, .int .i64 vk, .bool vb, .int .i64 vn, .string vs, .slice none 0 0, .slice none 0 0, .slice kp nk kc, .slice np nm nc], .slice q7 i c7, .agg #[.string P0, .string P1, .string P2], .agg #[.int .i64 k, .string s0, .int .i64 vk, .bool vb, .int .i64 vn, .string vs, .slice none 0 0, .slice none 0 0, .slice kp nk kc, .slice np nm nc], .slice q7 i c7, .agg #[.string P0, .string P1, .string P2], .bool true, .bool true, .bool true, .agg #[.int .i64 k, .string s0, .int .i64 vk, .bool vb, .int .i64 vn, .string vs, .slice none 0 0, .slice none 0 0, .slice kp nk kc, .slice np nm nc], undef, .int .i64 (m : Int), .agg #[.int .i64 k, .string s0, .int .i64 vk, .bool vb, .int .i64 vn, .string vs, .slice none 0 0, .slice none 0 0, .slice kp nk kc, .slice np nm nc], undef, .int .i64 (m : Int), .bool true, .bool true, .bool true, .agg #[.int .i64 0, .string ⟨#[]⟩, .int .i64 0, .bool false, .int .i64 0, .string ⟨#[]⟩, .slice none 0 0, .slice none 0 0, .slice none 0 0, .slice none 0 0], undef, .int .i64 0, .bool true, .bool true, .bool true]) (by kernel_rfl) (by kernel_rfl) (by kernel_rfl) (by kernel_rfl) (mixR_later _ _ (stab_cons (SlN.later) (stab_cons (SlN.later) (stab_cons (SlN.later) (stab_nil))))) ?step ?post
          case step =>
            intro iq hiq a W hrest hb hk
            have hp5 : a.eval (.tmp 5) = .pointer (some ⟨z5, 0, none⟩) := (hrest 5 (by intro iq2 hiq2; (repeat' split) <;> omega)).trans rfl
            have fp5 := ev hp5
            have hx5 : W.heap[z5]? = some (.cells #[.int .i64 k, .string s0, .int .i64 vk, .bool vb, .int .i64 vn, .string vs, .slice none 0 0, .slice none 0 0, .slice kp nk kc, .slice np nm nc] 28 (0, 0)) := (hb.block _ (lt_of_row r7)).trans r7
            have hp7 : a.eval (.tmp 7) = .slice q7 i c7 := (hrest 7 (by intro iq2 hiq2; (repeat' split) <;> omega)).trans rfl
            have fp7 := ev hp7
            clear hrest
            obtain rfl | rfl | rfl | rfl | rfl | rfl | rfl | rfl | rfl | rfl | rfl | rfl | rfl | rfl | rfl | rfl | rfl | rfl | rfl | rfl | rfl | rfl | rfl | rfl | rfl | rfl : iq = 0 ∨ iq = 1 ∨ iq = 2 ∨ iq = 3 ∨ iq = 4 ∨ iq = 5 ∨ iq = 6 ∨ iq = 7 ∨ iq = 8 ∨ iq = 9 ∨ iq = 10 ∨ iq = 11 ∨ iq = 12 ∨ iq = 13 ∨ iq = 14 ∨ iq = 15 ∨ iq = 16 ∨ iq = 17 ∨ iq = 18 ∨ iq = 19 ∨ iq = 20 ∨ iq = 21 ∨ iq = 22 ∨ iq = 23 ∨ iq = 24 ∨ iq = 25 := by omega
            · clear hiq
              clear hk
              refine ⟨_, rfl, rfl, Or.inl ⟨wanted_none rfl, wpIn_enter (f := 8) (args := #[]) ?_ ((HKS.out.2.2.2.2.2 W hb).mono ?_)⟩⟩
              · go_simp
              · rintro e w2 ⟨rfl, hb2⟩
                exact ⟨_, rfl, _, rfl, hb2, rfl⟩
            · clear hiq
              have e0 : a.eval (.tmp 35) = .bool true := hk 0 (mem_of (by kernel_rfl))
              have f0 := ev e0
              clear hk
              refine ⟨_, rfl, rfl, Or.inl ⟨wanted_none rfl, wpIn_value (v := .bool true) (w' := W) ?_ ⟨_, rfl, Below.refl _ _, rfl⟩⟩⟩
              go_simp
            · clear hiq
              have e1 : a.eval (.tmp 36) = .bool true := hk 1 (mem_of (by kernel_rfl))
              have f1 := ev e1
              have hc0 := cell_of_row W z5 0 _ _ _ hx5
              have hc1 := cell_of_row W z5 1 _ _ _ hx5
              have hc2 := cell_of_row W z5 2 _ _ _ hx5
              have hc3 := cell_of_row W z5 3 _ _ _ hx5
              have hc4 := cell_of_row W z5 4 _ _ _ hx5
              have hc5 := cell_of_row W z5 5 _ _ _ hx5
              have hc6 := cell_of_row W z5 6 _ _ _ hx5
              have hc7 := cell_of_row W z5 7 _ _ _ hx5
              have hc8 := cell_of_row W z5 8 _ _ _ hx5
              have hc9 := cell_of_row W z5 9 _ _ _ hx5
              clear hk
              refine ⟨_, rfl, rfl, Or.inl ⟨wanted_of (k := 1) (b := true) rfl rfl e1, wpIn_value (v := .agg #[.int .i64 k, .string s0, .int .i64 vk, .bool vb, .int .i64 vn, .string vs, .slice none 0 0, .slice none 0 0, .slice kp nk kc, .slice np nm nc]) (w' := W) ?_ ⟨_, rfl, Below.refl _ _, rfl⟩⟩⟩
              go_simp
            · clear hiq
              have e1 : a.eval (.tmp 36) = .bool true := hk 1 (mem_of (by kernel_rfl))
              have f1 := ev e1
              clear hk
              refine ⟨_, rfl, rfl, Or.inl ⟨wanted_of (k := 1) (b := true) rfl rfl e1, wpIn_value (v := .slice q7 i c7) (w' := W) ?_ ⟨_, rfl, Below.refl _ _, rfl⟩⟩⟩
              go_simp
            · clear hiq
              have e1 : a.eval (.tmp 36) = .bool true := hk 1 (mem_of (by kernel_rfl))
              have f1 := ev e1
              have e2 : a.eval (.tmp 37) = .agg #[.int .i64 k, .string s0, .int .i64 vk, .bool vb, .int .i64 vn, .string vs, .slice none 0 0, .slice none 0 0, .slice kp nk kc, .slice np nm nc] := hk 2 (mem_of (by kernel_rfl))
              have f2 := ev e2
              have e3 : a.eval (.tmp 38) = .slice q7 i c7 := hk 3 (mem_of (by kernel_rfl))
              have f3 := ev e3
              clear hk
              refine ⟨_, rfl, rfl, Or.inl ⟨wanted_of (k := 1) (b := true) rfl rfl e1, wpIn_enter (f := 9) (args := #[.agg #[.int .i64 k, .string s0, .int .i64 vk, .bool vb, .int .i64 vn, .string vs, .slice none 0 0, .slice none 0 0, .slice kp nk kc, .slice np nm nc], .slice q7 i c7]) ?_ ((HKS.out.1 W hb).mono ?_)⟩⟩
              · go_simp
              · rintro e w2 ⟨rfl, hb2⟩
                exact ⟨_, rfl, _, rfl, hb2, rfl⟩
            · clear hiq
              have e1 : a.eval (.tmp 36) = .bool true := hk 1 (mem_of (by kernel_rfl))
              have f1 := ev e1
              have hc0 := cell_of_row W z5 0 _ _ _ hx5
              have hc1 := cell_of_row W z5 1 _ _ _ hx5
              have hc2 := cell_of_row W z5 2 _ _ _ hx5
              have hc3 := cell_of_row W z5 3 _ _ _ hx5
              have hc4 := cell_of_row W z5 4 _ _ _ hx5
              have hc5 := cell_of_row W z5 5 _ _ _ hx5
              have hc6 := cell_of_row W z5 6 _ _ _ hx5
              have hc7 := cell_of_row W z5 7 _ _ _ hx5
              have hc8 := cell_of_row W z5 8 _ _ _ hx5
              have hc9 := cell_of_row W z5 9 _ _ _ hx5
              clear hk
              refine ⟨_, rfl, rfl, Or.inl ⟨wanted_of (k := 1) (b := true) rfl rfl e1, wpIn_value (v := .agg #[.int .i64 k, .string s0, .int .i64 vk, .bool vb, .int .i64 vn, .string vs, .slice none 0 0, .slice none 0 0, .slice kp nk kc, .slice np nm nc]) (w' := W) ?_ ⟨_, rfl, Below.refl _ _, rfl⟩⟩⟩
              go_simp
            · clear hiq
              have e1 : a.eval (.tmp 36) = .bool true := hk 1 (mem_of (by kernel_rfl))
              have f1 := ev e1
              clear hk
              refine ⟨_, rfl, rfl, Or.inl ⟨wanted_of (k := 1) (b := true) rfl rfl e1, wpIn_value (v := .slice q7 i c7) (w' := W) ?_ ⟨_, rfl, Below.refl _ _, rfl⟩⟩⟩
              go_simp
            · clear hiq
              have e1 : a.eval (.tmp 36) = .bool true := hk 1 (mem_of (by kernel_rfl))
              have f1 := ev e1
              have e5 : a.eval (.tmp 40) = .agg #[.int .i64 k, .string s0, .int .i64 vk, .bool vb, .int .i64 vn, .string vs, .slice none 0 0, .slice none 0 0, .slice kp nk kc, .slice np nm nc] := hk 5 (mem_of (by kernel_rfl))
              have f5 := ev e5
              have e6 : a.eval (.tmp 41) = .slice q7 i c7 := hk 6 (mem_of (by kernel_rfl))
              have f6 := ev e6
              clear hk
              refine ⟨_, rfl, rfl, Or.inl ⟨wanted_of (k := 1) (b := true) rfl rfl e1, wpIn_enter (f := 10) (args := #[.agg #[.int .i64 k, .string s0, .int .i64 vk, .bool vb, .int .i64 vn, .string vs, .slice none 0 0, .slice none 0 0, .slice kp nk kc, .slice np nm nc], .slice q7 i c7]) ?_ ((HKS.out.2.1 W hb).mono ?_)⟩⟩
              · go_simp
              · rintro e w2 ⟨rfl, hb2⟩
                exact ⟨_, rfl, _, rfl, hb2, rfl⟩
            · clear hiq
              have e1 : a.eval (.tmp 36) = .bool true := hk 1 (mem_of (by kernel_rfl))
              have f1 := ev e1
              have e4 : a.eval (.tmp 39) = .agg #[.string P0, .string P1, .string P2] := hk 4 (mem_of (by kernel_rfl))
              have f4 := ev e4
              have e7 : a.eval (.tmp 42) = .agg #[.string P0, .string P1, .string P2] := hk 7 (mem_of (by kernel_rfl))
              have f7 := ev e7
              clear hk
              refine ⟨_, rfl, rfl, Or.inl ⟨wanted_of (k := 1) (b := true) rfl rfl e1, wpIn_value (v := .bool true) (w' := W) ?_ ⟨_, rfl, Below.refl _ _, rfl⟩⟩⟩
              go_simp
            · clear hiq
              have e1 : a.eval (.tmp 36) = .bool true := hk 1 (mem_of (by kernel_rfl))
              have f1 := ev e1
              have e8 : a.eval (.tmp 43) = .bool true := hk 8 (mem_of (by kernel_rfl))
              have f8 := ev e8
              clear hk
              refine ⟨_, rfl, rfl, Or.inl ⟨wanted_none rfl, wpIn_value (v := .bool true) (w' := W) ?_ ⟨_, rfl, Below.refl _ _, rfl⟩⟩⟩
              go_simp
            · clear hiq
              have e9 : a.eval (.tmp 44) = .bool true := hk 9 (mem_of (by kernel_rfl))
              have f9 := ev e9
              clear hk
              refine ⟨_, rfl, rfl, Or.inl ⟨wanted_none rfl, wpIn_value (v := .bool true) (w' := W) ?_ ⟨_, rfl, Below.refl _ _, rfl⟩⟩⟩
              go_simp
            · clear hiq
              have e10 : a.eval (.tmp 45) = .bool true := hk 10 (mem_of (by kernel_rfl))
              have f10 := ev e10
              have hc0 := cell_of_row W z5 0 _ _ _ hx5
              have hc1 := cell_of_row W z5 1 _ _ _ hx5
              have hc2 := cell_of_row W z5 2 _ _ _ hx5
              have hc3 := cell_of_row W z5 3 _ _ _ hx5
              have hc4 := cell_of_row W z5 4 _ _ _ hx5
              have hc5 := cell_of_row W z5 5 _ _ _ hx5
              have hc6 := cell_of_row W z5 6 _ _ _ hx5
              have hc7 := cell_of_row W z5 7 _ _ _ hx5
              have hc8 := cell_of_row W z5 8 _ _ _ hx5
              have hc9 := cell_of_row W z5 9 _ _ _ hx5
              clear hk
              refine ⟨_, rfl, rfl, Or.inl ⟨wanted_of (k := 10) (b := true) rfl rfl e10, wpIn_value (v := .agg #[.int .i64 k, .string s0, .int .i64 vk, .bool vb, .int .i64 vn, .string vs, .slice none 0 0, .slice none 0 0, .slice kp nk kc, .slice np nm nc]) (w' := W) ?_ ⟨_, rfl, Below.refl _ _, rfl⟩⟩⟩
              go_simp
            · clear hiq
              have e10 : a.eval (.tmp 45) = .bool true := hk 10 (mem_of (by kernel_rfl))
              have f10 := ev e10
              have e11 : a.eval (.tmp 46) = .agg #[.int .i64 k, .string s0, .int .i64 vk, .bool vb, .int .i64 vn, .string vs, .slice none 0 0, .slice none 0 0, .slice kp nk kc, .slice np nm nc] := hk 11 (mem_of (by kernel_rfl))
              have f11 := ev e11
              clear hk
              refine ⟨_, rfl, rfl, Or.inl ⟨wanted_of (k := 10) (b := true) rfl rfl e10, wpIn_enter (f := 11) (args := #[.agg #[.int .i64 k, .string s0, .int .i64 vk, .bool vb, .int .i64 vn, .string vs, .slice none 0 0, .slice none 0 0, .slice kp nk kc, .slice np nm nc]]) ?_ ((HKS.out.2.2.1 W hb).mono ?_)⟩⟩
              · go_simp
              · rintro e w2 ⟨p2, c2, rfl, hb2⟩
                exact ⟨_, rfl, _, rfl, hb2, p2, c2, rfl⟩
            · clear hiq
              have e10 : a.eval (.tmp 45) = .bool true := hk 10 (mem_of (by kernel_rfl))
              have f10 := ev e10
              obtain ⟨p12, c12, e12⟩ := show (SlN m) (a.eval (.tmp 47)) W from hk 12 (mem_of (by kernel_rfl))
              have f12 := ev e12
              clear hk
              refine ⟨_, rfl, rfl, Or.inl ⟨wanted_of (k := 10) (b := true) rfl rfl e10, wpIn_value (v := .int .i64 (m : Int)) (w' := W) ?_ ⟨_, rfl, Below.refl _ _, rfl⟩⟩⟩
              go_simp
            · clear hiq
              have e10 : a.eval (.tmp 45) = .bool true := hk 10 (mem_of (by kernel_rfl))
              have f10 := ev e10
              have hc0 := cell_of_row W z5 0 _ _ _ hx5
              have hc1 := cell_of_row W z5 1 _ _ _ hx5
              have hc2 := cell_of_row W z5 2 _ _ _ hx5
              have hc3 := cell_of_row W z5 3 _ _ _ hx5
              have hc4 := cell_of_row W z5 4 _ _ _ hx5
              have hc5 := cell_of_row W z5 5 _ _ _ hx5
              have hc6 := cell_of_row W z5 6 _ _ _ hx5
              have hc7 := cell_of_row W z5 7 _ _ _ hx5
              have hc8 := cell_of_row W z5 8 _ _ _ hx5
              have hc9 := cell_of_row W z5 9 _ _ _ hx5
              clear hk
              refine ⟨_, rfl, rfl, Or.inl ⟨wanted_of (k := 10) (b := true) rfl rfl e10, wpIn_value (v := .agg #[.int .i64 k, .string s0, .int .i64 vk, .bool vb, .int .i64 vn, .string vs, .slice none 0 0, .slice none 0 0, .slice kp nk kc, .slice np nm nc]) (w' := W) ?_ ⟨_, rfl, Below.refl _ _, rfl⟩⟩⟩
              go_simp
            · clear hiq
              have e10 : a.eval (.tmp 45) = .bool true := hk 10 (mem_of (by kernel_rfl))
              have f10 := ev e10
              have e14 : a.eval (.tmp 49) = .agg #[.int .i64 k, .string s0, .int .i64 vk, .bool vb, .int .i64 vn, .string vs, .slice none 0 0, .slice none 0 0, .slice kp nk kc, .slice np nm nc] := hk 14 (mem_of (by kernel_rfl))
              have f14 := ev e14
              clear hk
              refine ⟨_, rfl, rfl, Or.inl ⟨wanted_of (k := 10) (b := true) rfl rfl e10, wpIn_enter (f := 12) (args := #[.agg #[.int .i64 k, .string s0, .int .i64 vk, .bool vb, .int .i64 vn, .string vs, .slice none 0 0, .slice none 0 0, .slice kp nk kc, .slice np nm nc]]) ?_ ((HKS.out.2.2.2.1 W hb).mono ?_)⟩⟩
              · go_simp
              · rintro e w2 ⟨p2, c2, rfl, hb2⟩
                exact ⟨_, rfl, _, rfl, hb2, p2, c2, rfl⟩
            · clear hiq
              have e10 : a.eval (.tmp 45) = .bool true := hk 10 (mem_of (by kernel_rfl))
              have f10 := ev e10
              obtain ⟨p15, c15, e15⟩ := show (SlN m) (a.eval (.tmp 50)) W from hk 15 (mem_of (by kernel_rfl))
              have f15 := ev e15
              clear hk
              refine ⟨_, rfl, rfl, Or.inl ⟨wanted_of (k := 10) (b := true) rfl rfl e10, wpIn_value (v := .int .i64 (m : Int)) (w' := W) ?_ ⟨_, rfl, Below.refl _ _, rfl⟩⟩⟩
              go_simp
            · clear hiq
              have e10 : a.eval (.tmp 45) = .bool true := hk 10 (mem_of (by kernel_rfl))
              have f10 := ev e10
              have e13 : a.eval (.tmp 48) = .int .i64 (m : Int) := hk 13 (mem_of (by kernel_rfl))
              have f13 := ev e13
              have e16 : a.eval (.tmp 51) = .int .i64 (m : Int) := hk 16 (mem_of (by kernel_rfl))
              have f16 := ev e16
              clear hk
              refine ⟨_, rfl, rfl, Or.inl ⟨wanted_of (k := 10) (b := true) rfl rfl e10, wpIn_value (v := .bool true) (w' := W) ?_ ⟨_, rfl, Below.refl _ _, rfl⟩⟩⟩
              go_simp
            · clear hiq
              have e10 : a.eval (.tmp 45) = .bool true := hk 10 (mem_of (by kernel_rfl))
              have f10 := ev e10
              have e17 : a.eval (.tmp 52) = .bool true := hk 17 (mem_of (by kernel_rfl))
              have f17 := ev e17
              clear hk
              refine ⟨_, rfl, rfl, Or.inl ⟨wanted_none rfl, wpIn_value (v := .bool true) (w' := W) ?_ ⟨_, rfl, Below.refl _ _, rfl⟩⟩⟩
              go_simp
            · clear hiq
              have e18 : a.eval (.tmp 53) = .bool true := hk 18 (mem_of (by kernel_rfl))
              have f18 := ev e18
              clear hk
              refine ⟨_, rfl, rfl, Or.inl ⟨wanted_none rfl, wpIn_value (v := .bool true) (w' := W) ?_ ⟨_, rfl, Below.refl _ _, rfl⟩⟩⟩
              go_simp
            · clear hiq
              have e19 : a.eval (.tmp 54) = .bool true := hk 19 (mem_of (by kernel_rfl))
              have f19 := ev e19
              clear hk
              refine ⟨_, rfl, rfl, Or.inl ⟨wanted_of (k := 19) (b := true) rfl rfl e19, wpIn_value (v := .agg #[.int .i64 0, .string ⟨#[]⟩, .int .i64 0, .bool false, .int .i64 0, .string ⟨#[]⟩, .slice none 0 0, .slice none 0 0, .slice none 0 0, .slice none 0 0]) (w' := W) ?_ ⟨_, rfl, Below.refl _ _, rfl⟩⟩⟩
              go_simp
            · clear hiq
              have e19 : a.eval (.tmp 54) = .bool true := hk 19 (mem_of (by kernel_rfl))
              have f19 := ev e19
              have e20 : a.eval (.tmp 55) = .agg #[.int .i64 0, .string ⟨#[]⟩, .int .i64 0, .bool false, .int .i64 0, .string ⟨#[]⟩, .slice none 0 0, .slice none 0 0, .slice none 0 0, .slice none 0 0] := hk 20 (mem_of (by kernel_rfl))
              have f20 := ev e20
              clear hk
              refine ⟨_, rfl, rfl, Or.inl ⟨wanted_of (k := 19) (b := true) rfl rfl e19, wpIn_enter (f := 11) (args := #[.agg #[.int .i64 0, .string ⟨#[]⟩, .int .i64 0, .bool false, .int .i64 0, .string ⟨#[]⟩, .slice none 0 0, .slice none 0 0, .slice none 0 0, .slice none 0 0]]) ?_ ((HKS.out.2.2.2.2.1 W).mono ?_)⟩⟩
              · go_simp
              · rintro e w2 ⟨p2, c2, rfl, hb2⟩
                exact ⟨_, rfl, _, rfl, hb2, p2, c2, rfl⟩
            · clear hiq
              have e19 : a.eval (.tmp 54) = .bool true := hk 19 (mem_of (by kernel_rfl))
              have f19 := ev e19
              obtain ⟨p21, c21, e21⟩ := show (SlN 0) (a.eval (.tmp 56)) W from hk 21 (mem_of (by kernel_rfl))
              have f21 := ev e21
              clear hk
              refine ⟨_, rfl, rfl, Or.inl ⟨wanted_of (k := 19) (b := true) rfl rfl e19, wpIn_value (v := .int .i64 0) (w' := W) ?_ ⟨_, rfl, Below.refl _ _, rfl⟩⟩⟩
              go_simp
            · clear hiq
              have e19 : a.eval (.tmp 54) = .bool true := hk 19 (mem_of (by kernel_rfl))
              have f19 := ev e19
              have e22 : a.eval (.tmp 57) = .int .i64 0 := hk 22 (mem_of (by kernel_rfl))
              have f22 := ev e22
              clear hk
              refine ⟨_, rfl, rfl, Or.inl ⟨wanted_of (k := 19) (b := true) rfl rfl e19, wpIn_value (v := .bool true) (w' := W) ?_ ⟨_, rfl, Below.refl _ _, rfl⟩⟩⟩
              go_simp
            · clear hiq
              have e19 : a.eval (.tmp 54) = .bool true := hk 19 (mem_of (by kernel_rfl))
              have f19 := ev e19
              have e23 : a.eval (.tmp 58) = .bool true := hk 23 (mem_of (by kernel_rfl))
              have f23 := ev e23
              clear hk
              refine ⟨_, rfl, rfl, Or.inl ⟨wanted_none rfl, wpIn_value (v := .bool true) (w' := W) ?_ ⟨_, rfl, Below.refl _ _, rfl⟩⟩⟩
              go_simp
            · clear hiq
              have e24 : a.eval (.tmp 59) = .bool true := hk 24 (mem_of (by kernel_rfl))
              have f24 := ev e24
              clear hk
              refine ⟨_, rfl, rfl, Or.inl ⟨wanted_none rfl, wpIn_value (v := .bool true) (w' := W) ?_ ⟨_, rfl, Below.refl _ _, rfl⟩⟩⟩
              go_simp
          case post =>
            intro V1 W hbW hV
            have v25 : V1 25 = .bool true := hV 25 (by omega)
            have H8 : Hid (Below w.heap.size w W) := H7.out.trans (hbW.mono H7.out.size)
            clear hV hbW r7 HKS
            simp only [putAll, reduceIte, Nat.reduceLT, Nat.reduceAdd]
            rw [v25]
            simp only [Act.put, List.setIfInBounds_toArray, List.set_cons_zero, List.set_cons_succ]
            change wpListIn _ _ _ _ _ [] _ _
            gi_wp2
            go_wp2
            go_ret
            exact ⟨rfl, H8.out⟩
        · have hin' : ¬ (i : Int) < (n : Int) := by omega
          clear hcnt hin
          go_wp2_with fail
          refine (wpIn_wide (n := 0)).1 ?_
          refine any_tailIn (m := 0) (by kernel_rfl) 26 (by exact Nat.le_of_ble_eq_true rfl) (fun i => if i < 25 then i + 35 else 4) (mixR [(12, (SlN m)), (15, (SlN m)), (21, (SlN 0))] [.bool true, .bool true, .agg #[.int .i64 k, .string s0, .int .i64 vk, .bool vb, .int .i64 vn, .string vs, .slice none 0 0, .slice none 0 0, .slice kp nk kc, .slice np nm nc], .slice q7 i c7, .agg #[.string P0, .string P1, .string P2], .agg #[.int .i64 k, .string s0, .int .i64 vk, .bool vb, .int .i64 vn, .string vs, .slice none 0 0, .slice none 0 0, .slice kp nk kc, .slice np nm nc], .slice q7 i c7, .agg #[.string P0, .string P1, .string P2], .bool true, .bool true, .bool true, .agg #[.int .i64 k, .string s0, .int .i64 vk, .bool vb, .int .i64 vn, .string vs, .slice none 0 0, .slice none 0 0, .slice kp nk kc, .slice np nm nc], undef, .int .i64 (m : Int), .agg #[.int .i64 k, .string s0, .int .i64 vk, .bool vb, .int .i64 vn, .string vs, .slice none 0 0, .slice none 0 0, .slice kp nk kc, .slice np nm nc], undef, .int .i64 (m : Int), .bool true, .bool true, .bool true, .agg #[.int .i64 0, .string ⟨#[]⟩, .int .i64 0, .bool false, .int .i64 0, .string ⟨#[]⟩, .slice none 0 0, .slice none 0 0, .slice none 0 0, .slice none 0 0], undef, .int .i64 0, .bool true, .bool true, .bool true]) (by kernel_rfl) (by kernel_rfl) (by kernel_rfl) (by kernel_rfl) (mixR_later _ _ (stab_cons (SlN.later) (stab_cons (SlN.later) (stab_cons (SlN.later) (stab_nil))))) ?step ?post
          case step =>
            intro iq hiq a W hrest hb hk
            have hp5 : a.eval (.tmp 5) = .pointer (some ⟨z5, 0, none⟩) := (hrest 5 (by intro iq2 hiq2; (repeat' split) <;> omega)).trans rfl
            have fp5 := ev hp5
            have hx5 : W.heap[z5]? = some (.cells #[.int .i64 k, .string s0, .int .i64 vk, .bool vb, .int .i64 vn, .string vs, .slice none 0 0, .slice none 0 0, .slice kp nk kc, .slice np nm nc] 28 (0, 0)) := (hb.block _ (lt_of_row r7)).trans r7
            have hp7 : a.eval (.tmp 7) = .slice q7 i c7 := (hrest 7 (by intro iq2 hiq2; (repeat' split) <;> omega)).trans rfl
            have fp7 := ev hp7
            clear hrest
            obtain rfl | rfl | rfl | rfl | rfl | rfl | rfl | rfl | rfl | rfl | rfl | rfl | rfl | rfl | rfl | rfl | rfl | rfl | rfl | rfl | rfl | rfl | rfl | rfl | rfl | rfl : iq = 0 ∨ iq = 1 ∨ iq = 2 ∨ iq = 3 ∨ iq = 4 ∨ iq = 5 ∨ iq = 6 ∨ iq = 7 ∨ iq = 8 ∨ iq = 9 ∨ iq = 10 ∨ iq = 11 ∨ iq = 12 ∨ iq = 13 ∨ iq = 14 ∨ iq = 15 ∨ iq = 16 ∨ iq = 17 ∨ iq = 18 ∨ iq = 19 ∨ iq = 20 ∨ iq = 21 ∨ iq = 22 ∨ iq = 23 ∨ iq = 24 ∨ iq = 25 := by omega
            · clear hiq
              clear hk
              refine ⟨_, rfl, rfl, Or.inl ⟨wanted_none rfl, wpIn_enter (f := 8) (args := #[]) ?_ ((HKS.out.2.2.2.2.2 W hb).mono ?_)⟩⟩
              · go_simp
              · rintro e w2 ⟨rfl, hb2⟩
                exact ⟨_, rfl, _, rfl, hb2, rfl⟩
            · clear hiq
              have e0 : a.eval (.tmp 35) = .bool true := hk 0 (mem_of (by kernel_rfl))
              have f0 := ev e0
              clear hk
              refine ⟨_, rfl, rfl, Or.inl ⟨wanted_none rfl, wpIn_value (v := .bool true) (w' := W) ?_ ⟨_, rfl, Below.refl _ _, rfl⟩⟩⟩
              go_simp
            · clear hiq
              have e1 : a.eval (.tmp 36) = .bool true := hk 1 (mem_of (by kernel_rfl))
              have f1 := ev e1
              have hc0 := cell_of_row W z5 0 _ _ _ hx5
              have hc1 := cell_of_row W z5 1 _ _ _ hx5
              have hc2 := cell_of_row W z5 2 _ _ _ hx5
              have hc3 := cell_of_row W z5 3 _ _ _ hx5
              have hc4 := cell_of_row W z5 4 _ _ _ hx5
              have hc5 := cell_of_row W z5 5 _ _ _ hx5
              have hc6 := cell_of_row W z5 6 _ _ _ hx5
              have hc7 := cell_of_row W z5 7 _ _ _ hx5
              have hc8 := cell_of_row W z5 8 _ _ _ hx5
              have hc9 := cell_of_row W z5 9 _ _ _ hx5
              clear hk
              refine ⟨_, rfl, rfl, Or.inl ⟨wanted_of (k := 1) (b := true) rfl rfl e1, wpIn_value (v := .agg #[.int .i64 k, .string s0, .int .i64 vk, .bool vb, .int .i64 vn, .string vs, .slice none 0 0, .slice none 0 0, .slice kp nk kc, .slice np nm nc]) (w' := W) ?_ ⟨_, rfl, Below.refl _ _, rfl⟩⟩⟩
              go_simp
            · clear hiq
              have e1 : a.eval (.tmp 36) = .bool true := hk 1 (mem_of (by kernel_rfl))
              have f1 := ev e1
              clear hk
              refine ⟨_, rfl, rfl, Or.inl ⟨wanted_of (k := 1) (b := true) rfl rfl e1, wpIn_value (v := .slice q7 i c7) (w' := W) ?_ ⟨_, rfl, Below.refl _ _, rfl⟩⟩⟩
              go_simp
            · clear hiq
              have e1 : a.eval (.tmp 36) = .bool true := hk 1 (mem_of (by kernel_rfl))
              have f1 := ev e1
              have e2 : a.eval (.tmp 37) = .agg #[.int .i64 k, .string s0, .int .i64 vk, .bool vb, .int .i64 vn, .string vs, .slice none 0 0, .slice none 0 0, .slice kp nk kc, .slice np nm nc] := hk 2 (mem_of (by kernel_rfl))
              have f2 := ev e2
              have e3 : a.eval (.tmp 38) = .slice q7 i c7 := hk 3 (mem_of (by kernel_rfl))
              have f3 := ev e3
              clear hk
              refine ⟨_, rfl, rfl, Or.inl ⟨wanted_of (k := 1) (b := true) rfl rfl e1, wpIn_enter (f := 9) (args := #[.agg #[.int .i64 k, .string s0, .int .i64 vk, .bool vb, .int .i64 vn, .string vs, .slice none 0 0, .slice none 0 0, .slice kp nk kc, .slice np nm nc], .slice q7 i c7]) ?_ ((HKS.out.1 W hb).mono ?_)⟩⟩
              · go_simp
              · rintro e w2 ⟨rfl, hb2⟩
                exact ⟨_, rfl, _, rfl, hb2, rfl⟩
            · clear hiq
              have e1 : a.eval (.tmp 36) = .bool true := hk 1 (mem_of (by kernel_rfl))
              have f1 := ev e1
              have hc0 := cell_of_row W z5 0 _ _ _ hx5
              have hc1 := cell_of_row W z5 1 _ _ _ hx5
              have hc2 := cell_of_row W z5 2 _ _ _ hx5
              have hc3 := cell_of_row W z5 3 _ _ _ hx5
              have hc4 := cell_of_row W z5 4 _ _ _ hx5
              have hc5 := cell_of_row W z5 5 _ _ _ hx5
              have hc6 := cell_of_row W z5 6 _ _ _ hx5
              have hc7 := cell_of_row W z5 7 _ _ _ hx5
              have hc8 := cell_of_row W z5 8 _ _ _ hx5
              have hc9 := cell_of_row W z5 9 _ _ _ hx5
              clear hk
              refine ⟨_, rfl, rfl, Or.inl ⟨wanted_of (k := 1) (b := true) rfl rfl e1, wpIn_value (v := .agg #[.int .i64 k, .string s0, .int .i64 vk, .bool vb, .int .i64 vn, .string vs, .slice none 0 0, .slice none 0 0, .slice kp nk kc, .slice np nm nc]) (w' := W) ?_ ⟨_, rfl, Below.refl _ _, rfl⟩⟩⟩
              go_simp
            · clear hiq
              have e1 : a.eval (.tmp 36) = .bool true := hk 1 (mem_of (by kernel_rfl))
              have f1 := ev e1
              clear hk
              refine ⟨_, rfl, rfl, Or.inl ⟨wanted_of (k := 1) (b := true) rfl rfl e1, wpIn_value (v := .slice q7 i c7) (w' := W) ?_ ⟨_, rfl, Below.refl _ _, rfl⟩⟩⟩
              go_simp
            · clear hiq
              have e1 : a.eval (.tmp 36) = .bool true := hk 1 (mem_of (by kernel_rfl))
              have f1 := ev e1
              have e5 : a.eval (.tmp 40) = .agg #[.int .i64 k, .string s0, .int .i64 vk, .bool vb, .int .i64 vn, .string vs, .slice none 0 0, .slice none 0 0, .slice kp nk kc, .slice np nm nc] := hk 5 (mem_of (by kernel_rfl))
              have f5 := ev e5
              have e6 : a.eval (.tmp 41) = .slice q7 i c7 := hk 6 (mem_of (by kernel_rfl))
              have f6 := ev e6
              clear hk
              refine ⟨_, rfl, rfl, Or.inl ⟨wanted_of (k := 1) (b := true) rfl rfl e1, wpIn_enter (f := 10) (args := #[.agg #[.int .i64 k, .string s0, .int .i64 vk, .bool vb, .int .i64 vn, .string vs, .slice none 0 0, .slice none 0 0, .slice kp nk kc, .slice np nm nc], .slice q7 i c7]) ?_ ((HKS.out.2.1 W hb).mono ?_)⟩⟩
              · go_simp
              · rintro e w2 ⟨rfl, hb2⟩
                exact ⟨_, rfl, _, rfl, hb2, rfl⟩
            · clear hiq
              have e1 : a.eval (.tmp 36) = .bool true := hk 1 (mem_of (by kernel_rfl))
              have f1 := ev e1
              have e4 : a.eval (.tmp 39) = .agg #[.string P0, .string P1, .string P2] := hk 4 (mem_of (by kernel_rfl))
              have f4 := ev e4
              have e7 : a.eval (.tmp 42) = .agg #[.string P0, .string P1, .string P2] := hk 7 (mem_of (by kernel_rfl))
              have f7 := ev e7
              clear hk
              refine ⟨_, rfl, rfl, Or.inl ⟨wanted_of (k := 1) (b := true) rfl rfl e1, wpIn_value (v := .bool true) (w' := W) ?_ ⟨_, rfl, Below.refl _ _, rfl⟩⟩⟩
              go_simp
            · clear hiq
              have e1 : a.eval (.tmp 36) = .bool true := hk 1 (mem_of (by kernel_rfl))
              have f1 := ev e1
              have e8 : a.eval (.tmp 43) = .bool true := hk 8 (mem_of (by kernel_rfl))
              have f8 := ev e8
              clear hk
              refine ⟨_, rfl, rfl, Or.inl ⟨wanted_none rfl, wpIn_value (v := .bool true) (w' := W) ?_ ⟨_, rfl, Below.refl _ _, rfl⟩⟩⟩
              go_simp
            · clear hiq
              have e9 : a.eval (.tmp 44) = .bool true := hk 9 (mem_of (by kernel_rfl))
              have f9 := ev e9
              clear hk
              refine ⟨_, rfl, rfl, Or.inl ⟨wanted_none rfl, wpIn_value (v := .bool true) (w' := W) ?_ ⟨_, rfl, Below.refl _ _, rfl⟩⟩⟩
              go_simp
            · clear hiq
              have e10 : a.eval (.tmp 45) = .bool true := hk 10 (mem_of (by kernel_rfl))
              have f10 := ev e10
              have hc0 := cell_of_row W z5 0 _ _ _ hx5
              have hc1 := cell_of_row W z5 1 _ _ _ hx5
              have hc2 := cell_of_row W z5 2 _ _ _ hx5
              have hc3 := cell_of_row W z5 3 _ _ _ hx5
              have hc4 := cell_of_row W z5 4 _ _ _ hx5
              have hc5 := cell_of_row W z5 5 _ _ _ hx5
              have hc6 := cell_of_row W z5 6 _ _ _ hx5
              have hc7 := cell_of_row W z5 7 _ _ _ hx5
              have hc8 := cell_of_row W z5 8 _ _ _ hx5
              have hc9 := cell_of_row W z5 9 _ _ _ hx5
              clear hk
              refine ⟨_, rfl, rfl, Or.inl ⟨wanted_of (k := 10) (b := true) rfl rfl e10, wpIn_value (v := .agg #[.int .i64 k, .string s0, .int .i64 vk, .bool vb, .int .i64 vn, .string vs, .slice none 0 0, .slice none 0 0, .slice kp nk kc, .slice np nm nc]) (w' := W) ?_ ⟨_, rfl, Below.refl _ _, rfl⟩⟩⟩
              go_simp
            · clear hiq
              have e10 : a.eval (.tmp 45) = .bool true := hk 10 (mem_of (by kernel_rfl))
              have f10 := ev e10
              have e11 : a.eval (.tmp 46) = .agg #[.int .i64 k, .string s0, .int .i64 vk, .bool vb, .int .i64 vn, .string vs, .slice none 0 0, .slice none 0 0, .slice kp nk kc, .slice np nm nc] := hk 11 (mem_of (by kernel_rfl))
              have f11 := ev e11
              clear hk
              refine ⟨_, rfl, rfl, Or.inl ⟨wanted_of (k := 10) (b := true) rfl rfl e10, wpIn_enter (f := 11) (args := #[.agg #[.int .i64 k, .string s0, .int .i64 vk, .bool vb, .int .i64 vn, .string vs, .slice none 0 0, .slice none 0 0, .slice kp nk kc, .slice np nm nc]]) ?_ ((HKS.out.2.2.1 W hb).mono ?_)⟩⟩
              · go_simp
              · rintro e w2 ⟨p2, c2, rfl, hb2⟩
                exact ⟨_, rfl, _, rfl, hb2, p2, c2, rfl⟩
            · clear hiq
              have e10 : a.eval (.tmp 45) = .bool true := hk 10 (mem_of (by kernel_rfl))
              have f10 := ev e10
              obtain ⟨p12, c12, e12⟩ := show (SlN m) (a.eval (.tmp 47)) W from hk 12 (mem_of (by kernel_rfl))
              have f12 := ev e12
              clear hk
              refine ⟨_, rfl, rfl, Or.inl ⟨wanted_of (k := 10) (b := true) rfl rfl e10, wpIn_value (v := .int .i64 (m : Int)) (w' := W) ?_ ⟨_, rfl, Below.refl _ _, rfl⟩⟩⟩
              go_simp
            · clear hiq
              have e10 : a.eval (.tmp 45) = .bool true := hk 10 (mem_of (by kernel_rfl))
              have f10 := ev e10
              have hc0 := cell_of_row W z5 0 _ _ _ hx5
              have hc1 := cell_of_row W z5 1 _ _ _ hx5
              have hc2 := cell_of_row W z5 2 _ _ _ hx5
              have hc3 := cell_of_row W z5 3 _ _ _ hx5
              have hc4 := cell_of_row W z5 4 _ _ _ hx5
              have hc5 := cell_of_row W z5 5 _ _ _ hx5
              have hc6 := cell_of_row W z5 6 _ _ _ hx5
              have hc7 := cell_of_row W z5 7 _ _ _ hx5
              have hc8 := cell_of_row W z5 8 _ _ _ hx5
              have hc9 := cell_of_row W z5 9 _ _ _ hx5
              clear hk
              refine ⟨_, rfl, rfl, Or.inl ⟨wanted_of (k := 10) (b := true) rfl rfl e10, wpIn_value (v := .agg #[.int .i64 k, .string s0, .int .i64 vk, .bool vb, .int .i64 vn, .string vs, .slice none 0 0, .slice none 0 0, .slice kp nk kc, .slice np nm nc]) (w' := W) ?_ ⟨_, rfl, Below.refl _ _, rfl⟩⟩⟩
              go_simp
            · clear hiq
              have e10 : a.eval (.tmp 45) = .bool true := hk 10 (mem_of (by kernel_rfl))
              have f10 := ev e10
              have e14 : a.eval (.tmp 49) = .agg #[.int .i64 k, .string s0, .int .i64 vk, .bool vb, .int .i64 vn, .string vs, .slice none 0 0, .slice none 0 0, .slice kp nk kc, .slice np nm nc] := hk 14 (mem_of (by kernel_rfl))
              have f14 := ev e14
              clear hk
              refine ⟨_, rfl, rfl, Or.inl ⟨wanted_of (k := 10) (b := true) rfl rfl e10, wpIn_enter (f := 12) (args := #[.agg #[.int .i64 k, .string s0, .int .i64 vk, .bool vb, .int .i64 vn, .string vs, .slice none 0 0, .slice none 0 0, .slice kp nk kc, .slice np nm nc]]) ?_ ((HKS.out.2.2.2.1 W hb).mono ?_)⟩⟩
              · go_simp
              · rintro e w2 ⟨p2, c2, rfl, hb2⟩
                exact ⟨_, rfl, _, rfl, hb2, p2, c2, rfl⟩
            · clear hiq
              have e10 : a.eval (.tmp 45) = .bool true := hk 10 (mem_of (by kernel_rfl))
              have f10 := ev e10
              obtain ⟨p15, c15, e15⟩ := show (SlN m) (a.eval (.tmp 50)) W from hk 15 (mem_of (by kernel_rfl))
              have f15 := ev e15
              clear hk
              refine ⟨_, rfl, rfl, Or.inl ⟨wanted_of (k := 10) (b := true) rfl rfl e10, wpIn_value (v := .int .i64 (m : Int)) (w' := W) ?_ ⟨_, rfl, Below.refl _ _, rfl⟩⟩⟩
              go_simp
            · clear hiq
              have e10 : a.eval (.tmp 45) = .bool true := hk 10 (mem_of (by kernel_rfl))
              have f10 := ev e10
              have e13 : a.eval (.tmp 48) = .int .i64 (m : Int) := hk 13 (mem_of (by kernel_rfl))
              have f13 := ev e13
              have e16 : a.eval (.tmp 51) = .int .i64 (m : Int) := hk 16 (mem_of (by kernel_rfl))
              have f16 := ev e16
              clear hk
              refine ⟨_, rfl, rfl, Or.inl ⟨wanted_of (k := 10) (b := true) rfl rfl e10, wpIn_value (v := .bool true) (w' := W) ?_ ⟨_, rfl, Below.refl _ _, rfl⟩⟩⟩
              go_simp
            · clear hiq
              have e10 : a.eval (.tmp 45) = .bool true := hk 10 (mem_of (by kernel_rfl))
              have f10 := ev e10
              have e17 : a.eval (.tmp 52) = .bool true := hk 17 (mem_of (by kernel_rfl))
              have f17 := ev e17
              clear hk
              refine ⟨_, rfl, rfl, Or.inl ⟨wanted_none rfl, wpIn_value (v := .bool true) (w' := W) ?_ ⟨_, rfl, Below.refl _ _, rfl⟩⟩⟩
              go_simp
            · clear hiq
              have e18 : a.eval (.tmp 53) = .bool true := hk 18 (mem_of (by kernel_rfl))
              have f18 := ev e18
              clear hk
              refine ⟨_, rfl, rfl, Or.inl ⟨wanted_none rfl, wpIn_value (v := .bool true) (w' := W) ?_ ⟨_, rfl, Below.refl _ _, rfl⟩⟩⟩
              go_simp
            · clear hiq
              have e19 : a.eval (.tmp 54) = .bool true := hk 19 (mem_of (by kernel_rfl))
              have f19 := ev e19
              clear hk
              refine ⟨_, rfl, rfl, Or.inl ⟨wanted_of (k := 19) (b := true) rfl rfl e19, wpIn_value (v := .agg #[.int .i64 0, .string ⟨#[]⟩, .int .i64 0, .bool false, .int .i64 0, .string ⟨#[]⟩, .slice none 0 0, .slice none 0 0, .slice none 0 0, .slice none 0 0]) (w' := W) ?_ ⟨_, rfl, Below.refl _ _, rfl⟩⟩⟩
              go_simp
            · clear hiq
              have e19 : a.eval (.tmp 54) = .bool true := hk 19 (mem_of (by kernel_rfl))
              have f19 := ev e19
              have e20 : a.eval (.tmp 55) = .agg #[.int .i64 0, .string ⟨#[]⟩, .int .i64 0, .bool false, .int .i64 0, .string ⟨#[]⟩, .slice none 0 0, .slice none 0 0, .slice none 0 0, .slice none 0 0] := hk 20 (mem_of (by kernel_rfl))
              have f20 := ev e20
              clear hk
              refine ⟨_, rfl, rfl, Or.inl ⟨wanted_of (k := 19) (b := true) rfl rfl e19, wpIn_enter (f := 11) (args := #[.agg #[.int .i64 0, .string ⟨#[]⟩, .int .i64 0, .bool false, .int .i64 0, .string ⟨#[]⟩, .slice none 0 0, .slice none 0 0, .slice none 0 0, .slice none 0 0]]) ?_ ((HKS.out.2.2.2.2.1 W).mono ?_)⟩⟩
              · go_simp
              · rintro e w2 ⟨p2, c2, rfl, hb2⟩
                exact ⟨_, rfl, _, rfl, hb2, p2, c2, rfl⟩
            · clear hiq
              have e19 : a.eval (.tmp 54) = .bool true := hk 19 (mem_of (by kernel_rfl))
              have f19 := ev e19
              obtain ⟨p21, c21, e21⟩ := show (SlN 0) (a.eval (.tmp 56)) W from hk 21 (mem_of (by kernel_rfl))
              have f21 := ev e21
              clear hk
              refine ⟨_, rfl, rfl, Or.inl ⟨wanted_of (k := 19) (b := true) rfl rfl e19, wpIn_value (v := .int .i64 0) (w' := W) ?_ ⟨_, rfl, Below.refl _ _, rfl⟩⟩⟩
              go_simp
            · clear hiq
              have e19 : a.eval (.tmp 54) = .bool true := hk 19 (mem_of (by kernel_rfl))
              have f19 := ev e19
              have e22 : a.eval (.tmp 57) = .int .i64 0 := hk 22 (mem_of (by kernel_rfl))
              have f22 := ev e22
              clear hk
              refine ⟨_, rfl, rfl, Or.inl ⟨wanted_of (k := 19) (b := true) rfl rfl e19, wpIn_value (v := .bool true) (w' := W) ?_ ⟨_, rfl, Below.refl _ _, rfl⟩⟩⟩
              go_simp
            · clear hiq
              have e19 : a.eval (.tmp 54) = .bool true := hk 19 (mem_of (by kernel_rfl))
              have f19 := ev e19
              have e23 : a.eval (.tmp 58) = .bool true := hk 23 (mem_of (by kernel_rfl))
              have f23 := ev e23
              clear hk
              refine ⟨_, rfl, rfl, Or.inl ⟨wanted_none rfl, wpIn_value (v := .bool true) (w' := W) ?_ ⟨_, rfl, Below.refl _ _, rfl⟩⟩⟩
              go_simp
            · clear hiq
              have e24 : a.eval (.tmp 59) = .bool true := hk 24 (mem_of (by kernel_rfl))
              have f24 := ev e24
              clear hk
              refine ⟨_, rfl, rfl, Or.inl ⟨wanted_none rfl, wpIn_value (v := .bool true) (w' := W) ?_ ⟨_, rfl, Below.refl _ _, rfl⟩⟩⟩
              go_simp
          case post =>
            intro V1 W hbW hV
            have v25 : V1 25 = .bool true := hV 25 (by omega)
            have H8 : Hid (Below w.heap.size w W) := H7.out.trans (hbW.mono H7.out.size)
            clear hV hbW r7 HKS
            simp only [putAll, reduceIte, Nat.reduceLT, Nat.reduceAdd]
            rw [v25]
            simp only [Act.put, List.setIfInBounds_toArray, List.set_cons_zero, List.set_cons_succ]
            change wpListIn _ _ _ _ _ [] _ _
            gi_wp2
            go_wp2
            go_ret
            exact ⟨rfl, H8.out⟩
end Go.Proofs.YtfemippjaokcmaaGreatDoor
namespace Go.Proofs.YtfemippjaokcmaaGreatDoor
open Go.ChangeShapes Go.WideShapes Go.ChangeAt Go.WideMaps Go.WideElems Go.RowKit
theorem own : ownKnob Tryz.prog.godebug = none := by kernel_rfl
abbrev laid7 : List (String × DataW Unit) := [("math/bits.deBruijn32tab", Rows.laid_math_bits_deBruijn32tab), ("math/bits.deBruijn64tab", Rows.laid_math_bits_deBruijn64tab), ("internal/strconv.uint64pow10", Rows.laid_internal_strconv_uint64pow10), ("unicode/utf8.acceptRanges", Rows.laid_unicode_utf8_acceptRanges), ("strconv.ErrRange", Rows.laid_strconv_ErrRange), ("strconv.ErrSyntax", Rows.laid_strconv_ErrSyntax), ("unicode/utf8.first", Rows.laid_unicode_utf8_first)]
theorem gErr : Tryz.prog.globalNamed "strconv.ErrRange" = some 2 := by kernel_rfl
theorem tErr : (Tryz.prog.globals[2]?).map (·.type) = some 139 := by kernel_rfl
theorem gSyn : Tryz.prog.globalNamed "strconv.ErrSyntax" = some 1 := by kernel_rfl
theorem tSyn : (Tryz.prog.globals[1]?).map (·.type) = some 139 := by kernel_rfl
theorem star : "*" ++ "errors.errorString" = "*errors.errorString" := by decide
theorem row212 (u : TypeId) (h : Tryz.prog.typeName? 3 u = some "*errors.errorString") : u = 212 :=
  typeName_ptr_named (nm := "errors.errorString") (by rw [star]; kernel_rfl) (by kernel_rfl) (by decide) u (by rw [star]; exact h)
theorem cells214 : Tryz.prog.cellsOf 214 = 1 := by kernel_rfl
theorem cells9 : Tryz.prog.cellsOf 9 = 1 := by kernel_rfl
theorem of_laid {W : World} (h : laidMetH Tryz.prog laid7 W) : Ev W := by
  rw [MakeChecks.laidMetH_plain _ _ _ (by kernel_rfl)] at h
  have h3 := h.tail.tail.tail.tail
  have h4 := h3.tail
  obtain ⟨a, s, hv, _⟩ := laid_sentinel h3 gErr tErr Tryz.underlying139 row212 Tryz.underlying212 Tryz.underlying214 rfl rfl Tryz.underlying9 cells214 cells9
  obtain ⟨a', s', hv', _⟩ := laid_sentinel h4 gSyn tSyn Tryz.underlying139 row212 Tryz.underlying212 Tryz.underlying214 rfl rfl Tryz.underlying9 cells214 cells9
  have h0 := World.var?_cell gErr hv 0
  have h1 := World.var?_cell gSyn hv' 0
  exact ⟨⟨212, _, by simpa using h1⟩, ⟨212, _, by simpa using h0⟩⟩
end Go.Proofs.YtfemippjaokcmaaGreatDoor
namespace Go.Proofs.YtfemippjaokcmaaGreatDoor
open Go.RowKit
theorem wrap_shaped {H : Type} {enc : TypeId × Value → H} {a : Assume} {C : Checked} {os : Os} {f : FuncId} {fn : Func} {s : ChangeSpec} {conds : List PathCond} {apart fresh handsOn again : Bool} {X : World → Array Value → Prop}
    (hX : ∀ (w w' : World) (args : Array Value), w.heap = w'.heap → X w args → X w' args)
    (own : ownKnob C.prog.godebug = none) (started : os.Started) (noInit : C.prog.inits.idxOf? f = none) (hfn : C.prog.funcs[f]? = some fn)
    (witness : ∃ (w : World) (tape : Tape) (i : Input), w.os = os ∧ (w.forCall tape i).Shaped C.prog ∧ i.vars = [] ∧ Input.okWide C.prog (w.forCall tape i) .any w.heap.size f i ∧
      ((s.pre enc C.prog fn conds apart (w.forCall tape i).memory i.args ∧ X (w.forCall tape i).memory i.args) ∧ sizedMet enc C.prog fn (OpenSpec.ofChange s) apart (w.forCall tape i).memory i.args) ∧ a.holds C.prog (lone (Frame.enter C.prog f i.args .normal) [] (w.forCall tape i)))
    (contract : ∀ (W : World) (base : Nat) (args : Array Value) (ds gs : List (DataW H)) (before : List MemPlace),
      (∀ (j : Nat) t v, fn.params[j]? = some t → args[j]? = some v → Value.okWide C.prog W .any base t v) →
      DataW.Whole enc C.prog fn.params.toList s.vars apart W args.toList ds gs before → W.ShapedOpen C.prog → X W args →
      Calls C.prog f args W fun e W' => ∃ v, e = .returned v ∧ s.post enc C.prog fn apart fresh handsOn again W args v W') :
    ReturnsInHanded a C os f .any (fun w args => (s.pre enc C.prog fn conds apart w args ∧ X w args) ∧ sizedMet enc C.prog fn (OpenSpec.ofChange s) apart w args) (s.post enc C.prog fn apart fresh handsOn again) := by
  refine returnsInHanded_of_calls own started noInit witness ?_
  intro w tape i _ hsh _ hok hpre _
  obtain ⟨_, _, _, fn', hfn', _, _, _, _, hval⟩ := hok
  have e : fn' = fn := Option.some.inj (hfn'.symm.trans hfn)
  subst e
  obtain ⟨⟨⟨ds, gs, before, hw, _⟩, hx⟩, _⟩ := hpre
  have hw' := DataW.Whole.of_heap (w' := w.forCall tape i) (by rfl) hw
  refine (contract (w.forCall tape i) w.heap.size i.args ds gs before hval hw' hsh (hX _ _ _ (by rfl) hx)).mono fun e W' ⟨v, he, hp⟩ => ?_
  subst he
  exact ChangeSpec.post_blind hp
theorem gm_of {W : World} (h : W.ShapedOpen Tryz.prog) : V.Gm W :=
  cell_of_shapedOpen_int (P := Tryz.prog) (g := 0) (t := 3) (zero := #[.int .i64 0]) h (of_decide_eq_true (by kernel_rfl)) (by kernel_rfl) rfl (by kernel_rfl) (by kernel_rfl) Tryz.underlying3
end Go.Proofs.YtfemippjaokcmaaGreatDoor
