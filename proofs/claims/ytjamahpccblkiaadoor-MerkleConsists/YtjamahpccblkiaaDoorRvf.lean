/- The document's Verify, called: the same answer as the program's (verA). -/
import Derived.Test.YtjamahpccblkiaaDoorOwn
import Derived.Deep.QuietTactic
import Derived.BigGuardPart
namespace Go.Proofs.YtjamahpccblkiaaDoor
open Go.RowKit
theorem verA_up (leaf root : ByteArray) (m N : Int) (h : 1 ≤ N) (g : Nat → ByteArray) (n : Nat) (hn : ¬ 64 < n) :
    verA leaf root m N g n = if up leaf ((List.range n).map g) (turns m.toNat N.toNat).reverse = some root then 0 else 80 := by
  unfold verA
  rw [if_neg hn, ← revL_rev, up_rb leaf (revL g n) m.toNat N.toNat (by omega)]
theorem up_len : ∀ (h : ByteArray) (xs : List ByteArray) (ts : List Bool), xs.length ≠ ts.length → up h xs ts = none
  | _, [], [], e => absurd rfl e
  | _, _ :: _, [], _ => rfl
  | _, [], _ :: _, _ => rfl
  | _, x :: xs, _ :: ts, e => by
    show (if x.size = 32 then _ else none) = none
    split
    · exact up_len _ xs ts (by simpa using e)
    · rfl
theorem up_at (hh : ByteArray) (g : Nat → ByteArray) (n : Nat) (T : List Bool) (hT : T.length = n) (i : Nat) (hi : i < n) (b : Bool) (hb : T[n - 1 - i]? = some b) :
    up hh (((List.range n).map g).drop i) (T.reverse.drop i) = if (g i).size = 32 then up (if b = true then nodeS (g i) hh else nodeS hh (g i)) (((List.range n).map g).drop (i + 1)) (T.reverse.drop (i + 1)) else none := by
  have e1 : ((List.range n).map g).drop i = g i :: ((List.range n).map g).drop (i + 1) := by
    rw [List.drop_eq_getElem_cons (by simpa using hi)]
    simp
  have e2 : T.reverse.drop i = b :: T.reverse.drop (i + 1) := by
    rw [List.drop_eq_getElem_cons (by simp; omega)]
    congr 1
    rw [List.getElem_reverse]
    have : T[n - 1 - i]? = some T[T.length - 1 - i] := by rw [List.getElem?_eq_getElem (by omega)]; congr 1; congr 1; omega
    rw [this] at hb
    injection hb
  rw [e1, e2]
  rfl
theorem up_end (hh : ByteArray) (g : Nat → ByteArray) (n : Nat) (T : List Bool) (hT : T.length = n) :
    up hh (((List.range n).map g).drop n) (T.reverse.drop n) = some hh := by
  rw [List.drop_of_length_le (by simp), List.drop_of_length_le (by simp; omega)]
  rfl
set_option maxHeartbeats 2000000 in
theorem rver_arg (root leaf : ByteArray) (m N : Int) (h : badV root leaf m N) (v : Value) (w : World) :
    Calls Tryd.prog 25 #[.string root, .string leaf, .int .i64 m, .int .i64 N, v] w fun e w' => e = .returned (.int .i64 1) ∧ w' = w := by
  unfold badV at h
  by_cases a : N < 1
  · clear h
    go_enter Tryd.func25, Tryd.ntmps25
    go_wp2
    go_ret
    exact ⟨rfl, rfl⟩
  · by_cases b : 2147483648 < N
    · clear h
      go_enter Tryd.func25, Tryd.ntmps25
      go_wp2
      go_ret
      exact ⟨rfl, rfl⟩
    · by_cases c : m < 0
      · clear h
        go_enter Tryd.func25, Tryd.ntmps25
        go_wp2
        go_ret
        exact ⟨rfl, rfl⟩
      · by_cases d : N ≤ m
        · clear h
          go_enter Tryd.func25, Tryd.ntmps25
          go_wp2
          go_ret
          exact ⟨rfl, rfl⟩
        · by_cases f : root.size = 32
          · have e : ¬ (leaf.size : Int) = 32 := by omega
            have f' : (root.size : Int) = 32 := by omega
            clear h f
            go_enter Tryd.func25, Tryd.ntmps25
            go_wp2
            go_ret
            exact ⟨rfl, rfl⟩
          · have f' : ¬ (root.size : Int) = 32 := by omega
            clear h f
            go_enter Tryd.func25, Tryd.ntmps25
            go_wp2
            go_ret
            exact ⟨rfl, rfl⟩
set_option maxHeartbeats 4000000 in
theorem rver_any (root leaf : ByteArray) (m N : Int) (h : ¬ badV root leaf m N) (p : Option Addr) (n c : Nat) (g : Nat → ByteArray) (w : World) (H : Strs w p n c g) :
    Calls Tryd.prog 25 #[.string root, .string leaf, .int .i64 m, .int .i64 N, .slice p n c] w fun e w' => e = .returned (.int .i64 (verA leaf root m N g n)) ∧ Below w.heap.size w w' := by
  unfold badV at h
  have h0 : 0 ≤ m := by omega
  have h1 : m < N := by omega
  have h2 : N ≤ 2147483648 := by omega
  have d : (root.size : Int) = 32 := by omega
  have e : (leaf.size : Int) = 32 := by omega
  have A1 : ¬ m < 0 := by omega
  have A2 : ¬ N ≤ m := by omega
  have A3 : ¬ 2147483648 < N := by omega
  have A4 : ¬ N < 1 := by omega
  have hcap := H.cap
  have hm : maxLen = 9223372036854775807 := rfl
  clear h
  by_cases hn : 64 < n
  · have ea : verA leaf root m N g n = 80 := if_pos hn
    rw [ea]
    have hn' : (64 : Int) < (n : Int) := by omega
    go_enter Tryd.func25, Tryd.ntmps25
    go_wp2
    go_ret
    exact ⟨rfl, Below.refl _ _⟩
  · have hn' : ¬ (64 : Int) < (n : Int) := by omega
    rw [verA_up leaf root m N (by omega) g n hn]
    have hlf : leaf.size ≤ 400 := by omega
    obtain ⟨T, hT⟩ : ∃ T, turns m.toNat N.toNat = T := ⟨_, rfl⟩
    rw [hT]
    obtain ⟨ans, hans⟩ : ∃ ans : Int, (if up leaf ((List.range n).map g) T.reverse = some root then 0 else 80) = ans := ⟨_, rfl⟩
    rw [hans]
    have HA : Hid ((if up leaf ((List.range n).map g) T.reverse = some root then 0 else 80) = ans) := hans
    have HT : Hid (turns m.toNat N.toNat = T) := hT
    clear hans hT
    obtain ⟨i4, hi, hz0, hz1, hz2⟩ := info_parts info4
    go_enter Tryd.func25, Tryd.ntmps25
    go_wp2_with fail
    go_loopw [2, 3, 11] (fun vm vN vt wr => ∃ (m' N' : Int) (U : List Bool), Hid (T = U ++ turns m'.toNat N'.toNat) ∧ 0 ≤ m' ∧ m' < N' ∧ N' ≤ 2147483648 ∧ U.length + N'.toNat ≤ 2147483648 ∧ vm = .int .i64 m' ∧ vN = .int .i64 N' ∧ wr.ownsRow w.heap.size 4 1 vt U.length (boos U) ∧ Below w.heap.size w wr) (fun _ vN _ _ => (intOf vN).toNat)
    case atStart =>
      exact ⟨m, N, [], by unfold Hid; rw [HT.out]; rfl, h0, h1, h2, by simp; omega, rfl, rfl, World.ownsRow_made w #[] 0 (Nat.le_refl _) (by omega) rfl, (Below.refl _ _).alloc (Nat.le_refl _) _⟩
    case round =>
      obtain ⟨m', N', U, hU, q0, q1, q2, q3, rfl, rfl, hown, hbl⟩ := hrel
      by_cases hN : 1 < N'
      · obtain ⟨k, hk, k1, k2, k3, k4⟩ := half_int N' (by omega)
        have HH := fun w => rhalf_any N' (by omega) q2 w
        rw [hk] at HH
        have hsz := hbl.size
        by_cases hmk : m' < k
        · go_wp2_with fail
          refine (HH _).mono ?_
          rintro e w2 ⟨rfl, rfl⟩
          go_wp2_with (at_builtin; refine wpList_append_lies _ (by rfl) (.tmp 51) (.tmp 52) 61 (by rfl) w.heap.size 4 i4 _ 1 1 Tryd.underlying61 hi hz0 hz1 hz2 (by rfl) (by decide) u11 U.length _ (by rfl) (hown.alloc _) ⟨w2.heap.size, 0, none⟩ 1 1 [.bool false] (by rfl) (by rfl) (World.news_of_block (heap_alloc_new w2 _)) (by simp [Value.oneCell']) (by decide) (by unfold maxLen; omega) (by omega) (by simp; omega) _ rfl ?_; intro g6 cap6 w6 hown6 hgr6 hat6 hlt6)
          go_roundw
          case rel =>
            refine ⟨m', k, U ++ [false], ?_, q0, hmk, by omega, by simp; omega, rfl, rfl, ?_, ?_⟩
            · unfold Hid
              rw [hU.out, turns_left m'.toNat (by omega) (by omega), k4, List.append_assoc]
              rfl
            · rw [boos_snoc, List.length_append]
              exact hown6
            · exact (hbl.alloc hsz _).grown hgr6 (by simp; omega) (fun k hk => (hown.lt k hk).1)
          case measure =>
            show k.toNat < N'.toNat
            omega
        · go_wp2_with fail
          refine (HH _).mono ?_
          rintro e w2 ⟨rfl, rfl⟩
          go_wp2_with (at_builtin; refine wpList_append_lies _ (by rfl) (.tmp 55) (.tmp 56) 61 (by rfl) w.heap.size 4 i4 _ 1 1 Tryd.underlying61 hi hz0 hz1 hz2 (by rfl) (by decide) u11 U.length _ (by rfl) (hown.alloc _) ⟨w2.heap.size, 0, none⟩ 1 1 [.bool true] (by rfl) (by rfl) (World.news_of_block (heap_alloc_new w2 _)) (by simp [Value.oneCell']) (by decide) (by unfold maxLen; omega) (by omega) (by simp; omega) _ rfl ?_; intro g6 cap6 w6 hown6 hgr6 hat6 hlt6)
          go_roundw
          case rel =>
            refine ⟨m' - k, N' - k, U ++ [true], ?_, by omega, by omega, by omega, by simp; omega, rfl, rfl, ?_, ?_⟩
            · unfold Hid
              rw [hU.out, turns_right m'.toNat (by omega) (by omega), k4, List.append_assoc, show m'.toNat - k.toNat = (m' - k).toNat by omega, show N'.toNat - k.toNat = (N' - k).toNat by omega]
              rfl
            · rw [boos_snoc, List.length_append]
              exact hown6
            · exact (hbl.alloc hsz _).grown hgr6 (by simp; omega) (fun k hk => (hown.lt k hk).1)
          case measure =>
            show (N' - k).toNat < N'.toNat
            omega
      · have hUT : T = U := by rw [hU.out, turns_one m'.toNat (by omega), List.append_nil]
        subst hUT
        clear hU
        obtain ⟨tp, tc, htv, htc⟩ := own_slice hown
        have hcell : 0 < T.length → ∃ G, tp = some ⟨G, 0, none⟩ ∧ w.heap.size ≤ G ∧ G < wr.heap.size ∧ ∀ i x, T[i]? = some x → wr.cell? ⟨G, i, none⟩ = some (.bool x) := fun h => by
          obtain ⟨G, cap, e1, e2, e3, _, e4⟩ := own_cell hown h
          rw [htv] at e1
          injection e1 with e1
          exact ⟨G, e1, e2, e3, fun i x hx => e4 i _ (by simp [boos, hx])⟩
        subst htv
        have hTl : T.length ≤ 2147483648 := by omega
        obtain ⟨L, hL⟩ : ∃ L, T.length = L := ⟨_, rfl⟩
        have HL : Hid (T.length = L) := hL
        rw [hL] at hcell htc hTl ⊢
        have Hw := H.later hbl
        clear hown hL
        by_cases hLn : L = n
        · subst hLn
          go_wp2_with fail
          go_loopw [13, 14] (fun vh vi w3 => ∃ (hh : ByteArray) (i : Nat), i ≤ L ∧ hh.size ≤ 400 ∧ Hid (up leaf ((List.range L).map g) T.reverse = up hh (((List.range L).map g).drop i) (T.reverse.drop i)) ∧ vh = .string hh ∧ vi = .int .i64 (i : Int) ∧ Below wr.heap.size wr w3) (fun _ vi _ => L - (intOf vi).toNat)
          case atStart => exact ⟨leaf, 0, Nat.zero_le _, hlf, rfl, rfl, rfl, Below.refl _ _⟩
          case round =>
            obtain ⟨hh, i, hi1, hhs, hup, rfl, rfl, hb3⟩ := hrel
            have hs3 := hb3.size
            have hsr := hbl.size
            by_cases hlt : i < L
            · have hlt' : (i : Int) < (L : Int) := by omega
              obtain ⟨b, o, rfl, hbb, hcs⟩ := Hw.at' (by omega)
              obtain ⟨G, rfl, hG1, hG2, hcb⟩ := hcell (by omega)
              have c1 := (hb3.cell (p := ⟨b, o + i, none⟩) hbb).trans (hcs i hlt)
              obtain ⟨bt, hbt⟩ : ∃ bt, T[L - 1 - i]? = some bt := ⟨_, List.getElem?_eq_getElem (by rw [HL.out]; omega)⟩
              have c2 := (hb3.cell (p := ⟨G, L - 1 - i, none⟩) hG2).trans (hcb _ _ hbt)
              have hua := up_at hh g L T HL.out i hlt bt hbt
              have HU : Hid (up leaf ((List.range L).map g) T.reverse = if (g i).size = 32 then up (if bt = true then nodeS (g i) hh else nodeS hh (g i)) (((List.range L).map g).drop (i + 1)) (T.reverse.drop (i + 1)) else none) := hup.out.trans hua
              clear hua hup hbt hcs hcb
              obtain ⟨x, hx⟩ : ∃ x, g i = x := ⟨_, rfl⟩
              rw [hx] at HU c1
              clear hx
              obtain ⟨z, hz⟩ : ∃ z, L - 1 - i = z := ⟨_, rfl⟩
              rw [hz] at c2
              have hz' : (L : Int) - 1 - (i : Int) = (z : Int) := by omega
              have hz2 : z < L := by omega
              clear hz
              by_cases hxs : x.size = 32
              · have hxs' : (x.size : Int) = 32 := by omega
                have HU2 : Hid (up leaf ((List.range L).map g) T.reverse = up (if bt = true then nodeS x hh else nodeS hh x) (((List.range L).map g).drop (i + 1)) (T.reverse.drop (i + 1))) := by
                  unfold Hid
                  rw [HU.out, if_pos hxs]
                clear HU
                cases bt with
                | true =>
                  go_wp2_with fail
                  refine (rnode_any x hh (by omega) hhs _).mono ?_
                  rintro e w4 ⟨rfl, hb4⟩
                  go_wp2
                  go_roundw
                  case rel => exact ⟨nodeS x hh, i + 1, by omega, by rw [nodeS, sumS_size]; omega, HU2, rfl, by go_num, hb3.trans (hb4.mono hs3)⟩
                  case measure =>
                    show L - (intOf (.int .i64 ((i : Int) + 1))).toNat < L - (intOf (.int .i64 (i : Int))).toNat
                    simp only [intOf_i64]
                    omega
                | false =>
                  go_wp2_with fail
                  refine (rnode_any hh x hhs (by omega) _).mono ?_
                  rintro e w4 ⟨rfl, hb4⟩
                  go_wp2
                  go_roundw
                  case rel => exact ⟨nodeS hh x, i + 1, by omega, by rw [nodeS, sumS_size]; omega, HU2, rfl, by go_num, hb3.trans (hb4.mono hs3)⟩
                  case measure =>
                    show L - (intOf (.int .i64 ((i : Int) + 1))).toNat < L - (intOf (.int .i64 (i : Int))).toNat
                    simp only [intOf_i64]
                    omega
              · have hxs' : ¬ (x.size : Int) = 32 := by omega
                have hans : ans = 80 := by
                  rw [← HA.out, HU.out, if_neg hxs, if_neg (by simp)]
                clear HU HA
                subst hans
                go_wp2
                go_ret
                exact ⟨rfl, hbl.trans (hb3.mono hsr)⟩
            · have hiL : i = L := by omega
              subst hiL
              have hue := up_end hh g i T HL.out
              by_cases hr : hh = root
              · subst hr
                have hans : ans = 0 := by
                  rw [← HA.out, hup.out, hue, if_pos rfl]
                clear hue hup HA
                subst hans
                go_wp2
                go_ret
                exact ⟨rfl, hbl.trans (hb3.mono hsr)⟩
              · have hans : ans = 80 := by
                  rw [← HA.out, hup.out, hue, if_neg (by simpa using hr)]
                clear hue hup HA
                subst hans
                have hne := beq_of_ne hr
                clear hr
                go_wp2
                go_ret
                exact ⟨rfl, hbl.trans (hb3.mono hsr)⟩
        · have hans : ans = 80 := by
            rw [← HA.out, up_len leaf _ _ (by simp [HL.out]; omega), if_neg (by simp)]
          clear HA
          subst hans
          have hne : ¬ (L : Int) = (n : Int) := by omega
          go_wp2
          go_ret
          exact ⟨rfl, hbl⟩
end Go.Proofs.YtjamahpccblkiaaDoor
