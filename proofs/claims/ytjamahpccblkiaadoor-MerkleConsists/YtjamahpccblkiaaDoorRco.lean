/- The document's Consistent, called: the same answer as the program's (conA). -/
import Derived.Test.YtjamahpccblkiaaDoorRvf
import Derived.Test.YtjamahpccblkiaaDoorRro
import Derived.Test.YtjamahpccblkiaaDoorCon
namespace Go.Proofs.YtjamahpccblkiaaDoor
open Go.RowKit
theorem conA_up (old now : ByteArray) (m N : Int) (h1 : 1 ≤ m) (h2 : m ≤ N) (g : Nat → ByteArray) (n : Nat) (hn : ¬ 64 < n) :
    conA old now m N g n = if conS old ((gturns m.toNat N.toNat).any id) ((List.range n).map g) (gturns m.toNat N.toNat).reverse = some (old, now) then 0 else 80 := by
  unfold conA
  rw [if_neg hn, ← revL_rev, ← up_rbs old (revL g n) m.toNat N.toNat true (by omega) (by omega)]
  rfl
theorem up2_len : ∀ (a b : ByteArray) (xs : List ByteArray) (ts : List Bool), xs.length ≠ ts.length → up2 a b xs ts = none
  | _, _, [], [], e => absurd rfl e
  | _, _, _ :: _, [], _ => rfl
  | _, _, [], _ :: _, _ => rfl
  | _, _, x :: xs, _ :: ts, e => by
    show (if x.size = 32 then _ else none) = none
    split
    · exact up2_len _ _ xs ts (by simpa using e)
    · rfl
theorem up2_at (a b : ByteArray) (g : Nat → ByteArray) (n : Nat) (T : List Bool) (hT : T.length = n) (i : Nat) (hi : i < n) (t : Bool) (hb : T[n - 1 - i]? = some t) :
    up2 a b (((List.range n).map g).drop i) (T.reverse.drop i) = if (g i).size = 32 then up2 (if t = true then nodeS (g i) a else a) (if t = true then nodeS (g i) b else nodeS b (g i)) (((List.range n).map g).drop (i + 1)) (T.reverse.drop (i + 1)) else none := by
  have e1 : ((List.range n).map g).drop i = g i :: ((List.range n).map g).drop (i + 1) := by
    rw [List.drop_eq_getElem_cons (by simpa using hi)]
    simp
  have e2 : T.reverse.drop i = t :: T.reverse.drop (i + 1) := by
    rw [List.drop_eq_getElem_cons (by simp; omega)]
    congr 1
    rw [List.getElem_reverse]
    have : T[n - 1 - i]? = some T[T.length - 1 - i] := by rw [List.getElem?_eq_getElem (by omega)]; congr 1; congr 1; omega
    rw [this] at hb
    injection hb
  rw [e1, e2]
  rfl
theorem up2_end (a b : ByteArray) (g : Nat → ByteArray) (n : Nat) (T : List Bool) (hT : T.length = n) :
    up2 a b (((List.range n).map g).drop n) (T.reverse.drop n) = some (a, b) := by
  rw [List.drop_of_length_le (by simp), List.drop_of_length_le (by simp; omega)]
  rfl
theorem any_take (T : List Bool) (i : Nat) (b : Bool) (h : T[i]? = some b) : ((T.take (i + 1)).any id) = ((T.take i).any id || b) := by
  rw [List.take_add_one, List.any_append, h]
  simp
theorem conS_no (old : ByteArray) (way : List ByteArray) (ts : List Bool) : conS old false way ts = up2 old old way ts := rfl
theorem conS_none (old : ByteArray) (ts : List Bool) : conS old true [] ts = none := rfl
theorem range_map_cons (g : Nat → ByteArray) (n : Nat) : (List.range (n + 1)).map g = g 0 :: (List.range n).map (fun i => g (1 + i)) := by
  rw [List.range_succ_eq_map]
  simp [Function.comp_def, Nat.add_comm]
theorem conS_yes (old : ByteArray) (g : Nat → ByteArray) (n : Nat) (ts : List Bool) (h : (g 0).size = 32) : conS old true ((List.range (n + 1)).map g) ts = up2 (g 0) (g 0) ((List.range n).map (fun i => g (1 + i))) ts := by
  rw [range_map_cons]
  show (if (g 0).size = 32 then _ else none) = _
  rw [if_pos h]
theorem conS_bad (old : ByteArray) (g : Nat → ByteArray) (n : Nat) (ts : List Bool) (h : ¬ (g 0).size = 32) : conS old true ((List.range (n + 1)).map g) ts = none := by
  rw [range_map_cons]
  show (if (g 0).size = 32 then _ else none) = _
  rw [if_neg h]
set_option maxHeartbeats 2000000 in
theorem rcon_arg (old now : ByteArray) (m N : Int) (h : badC old now m N) (v : Value) (w : World) :
    Calls Tryd.prog 26 #[.string old, .string now, .int .i64 m, .int .i64 N, v] w fun e w' => e = .returned (.int .i64 1) ∧ w' = w := by
  unfold badC at h
  by_cases a : m < 1
  · clear h
    go_enter Tryd.func26, Tryd.ntmps26
    go_wp2
    all_goals (go_ret; exact ⟨rfl, rfl⟩)
  · by_cases b : N < m
    · clear h
      go_enter Tryd.func26, Tryd.ntmps26
      go_wp2
      all_goals (go_ret; exact ⟨rfl, rfl⟩)
    · by_cases c : 2147483648 < N
      · clear h
        go_enter Tryd.func26, Tryd.ntmps26
        go_wp2
        all_goals (go_ret; exact ⟨rfl, rfl⟩)
      · have A1 : decide (m < 1) = false := decide_eq_false a
        have A2 : decide (N < m) = false := decide_eq_false b
        have A3 : decide (2147483648 < N) = false := decide_eq_false c
        by_cases f : old.size = 32
        · have e : ¬ (now.size : Int) = 32 := by omega
          have f' : (old.size : Int) = 32 := by omega
          clear h f
          go_enter Tryd.func26, Tryd.ntmps26
          go_wp2
          all_goals (go_ret; exact ⟨rfl, rfl⟩)
        · have f' : ¬ (old.size : Int) = 32 := by omega
          clear h f
          go_enter Tryd.func26, Tryd.ntmps26
          go_wp2
          all_goals (go_ret; exact ⟨rfl, rfl⟩)
set_option maxHeartbeats 16000000 in
set_option maxRecDepth 100000 in
theorem rcon_any (old now : ByteArray) (m N : Int) (h : ¬ badC old now m N) (p : Option Addr) (n c : Nat) (g : Nat → ByteArray) (w : World) (H : Strs w p n c g) :
    Calls Tryd.prog 26 #[.string old, .string now, .int .i64 m, .int .i64 N, .slice p n c] w fun e w' => e = .returned (.int .i64 (conA old now m N g n)) ∧ Below w.heap.size w w' := by
  unfold badC at h
  have h0 : 1 ≤ m := by omega
  have h1 : m ≤ N := by omega
  have h2 : N ≤ 2147483648 := by omega
  have d : (old.size : Int) = 32 := by omega
  have e : (now.size : Int) = 32 := by omega
  have A1 : ¬ m < 1 := by omega
  have A2 : ¬ N < m := by omega
  have A3 : ¬ 2147483648 < N := by omega
  have D1 : decide (m < 1) = false := decide_eq_false A1
  have D2 : decide (N < m) = false := decide_eq_false A2
  have D3 : decide (2147483648 < N) = false := decide_eq_false A3
  have hcap := H.cap
  have hm : maxLen = 9223372036854775807 := rfl
  clear h
  by_cases hn : 64 < n
  · have ea : conA old now m N g n = 80 := if_pos hn
    rw [ea]
    have hn' : (64 : Int) < (n : Int) := by omega
    go_enter Tryd.func26, Tryd.ntmps26
    go_wp2
    all_goals (go_ret; exact ⟨rfl, Below.refl _ _⟩)
  · have hn' : ¬ (64 : Int) < (n : Int) := by omega
    rw [conA_up old now m N h0 h1 g n hn]
    have hlf : old.size ≤ 400 := by omega
    obtain ⟨T, hT⟩ : ∃ T, gturns m.toNat N.toNat = T := ⟨_, rfl⟩
    rw [hT]
    obtain ⟨ans, hans⟩ : ∃ ans : Int, (if conS old (T.any id) ((List.range n).map g) T.reverse = some (old, now) then 0 else 80) = ans := ⟨_, rfl⟩
    rw [hans]
    have HA : Hid ((if conS old (T.any id) ((List.range n).map g) T.reverse = some (old, now) then 0 else 80) = ans) := hans
    have HT : Hid (gturns m.toNat N.toNat = T) := hT
    clear hans hT
    obtain ⟨i4, hi, hz0, hz1, hz2⟩ := info_parts info4
    go_enter Tryd.func26, Tryd.ntmps26
    go_wp2_with fail
    go_loopw [2, 3, 11] (fun vm vN vt wr => ∃ (m' N' : Int) (U : List Bool), Hid (T = U ++ gturns m'.toNat N'.toNat) ∧ 1 ≤ m' ∧ m' ≤ N' ∧ N' ≤ 2147483648 ∧ U.length + N'.toNat ≤ 2147483648 ∧ vm = .int .i64 m' ∧ vN = .int .i64 N' ∧ wr.ownsRow w.heap.size 4 1 vt U.length (boos U) ∧ Below w.heap.size w wr) (fun _ vN _ _ => (intOf vN).toNat)
    case atStart =>
      exact ⟨m, N, [], by unfold Hid; rw [HT.out]; rfl, h0, h1, h2, by simp; omega, rfl, rfl, World.ownsRow_made w #[] 0 (Nat.le_refl _) (by omega) rfl, (Below.refl _ _).alloc (Nat.le_refl _) _⟩
    case round =>
      obtain ⟨m', N', U, hU, q0, q1, q2, q3, rfl, rfl, hown, hbl⟩ := hrel
      by_cases hN : m' < N'
      · obtain ⟨k, hk, k1, k2, k3, k4⟩ := half_int N' (by omega)
        have HH := fun w => rhalf_any N' (by omega) q2 w
        rw [hk] at HH
        have hsz := hbl.size
        by_cases hmk : m' ≤ k
        · go_wp2_with fail
          refine (HH _).mono ?_
          rintro e w2 ⟨rfl, rfl⟩
          go_wp2_with (at_builtin; refine wpList_append_lies _ (by rfl) (.tmp 52) (.tmp 53) 61 (by rfl) w.heap.size 4 i4 _ 1 1 Tryd.underlying61 hi hz0 hz1 hz2 (by rfl) (by decide) u11 U.length _ (by rfl) (hown.alloc _) ⟨w2.heap.size, 0, none⟩ 1 1 [.bool false] (by rfl) (by rfl) (World.news_of_block (heap_alloc_new w2 _)) (by simp [Value.oneCell']) (by decide) (by unfold maxLen; omega) (by omega) (by simp; omega) _ rfl ?_; intro g6 cap6 w6 hown6 hgr6 hat6 hlt6)
          go_roundw
          case rel =>
            refine ⟨m', k, U ++ [false], ?_, q0, hmk, by omega, by simp; omega, rfl, rfl, ?_, ?_⟩
            · unfold Hid
              rw [hU.out, gturns_left (by omega) (by omega) (by omega), k4, List.append_assoc]
              rfl
            · rw [boos_snoc, List.length_append]
              exact hown6
            · exact (hbl.alloc hsz _).grown hgr6 (by simp; omega) (fun k hk => (hown.lt k hk).1)
          case measure =>
            show k.toNat < N'.toNat
            omega
        · go_wp2_with fail
          refine (HH _).mono ?_
          rintro e w2 ⟨rfl, rfl⟩
          go_wp2_with (at_builtin; refine wpList_append_lies _ (by rfl) (.tmp 56) (.tmp 57) 61 (by rfl) w.heap.size 4 i4 _ 1 1 Tryd.underlying61 hi hz0 hz1 hz2 (by rfl) (by decide) u11 U.length _ (by rfl) (hown.alloc _) ⟨w2.heap.size, 0, none⟩ 1 1 [.bool true] (by rfl) (by rfl) (World.news_of_block (heap_alloc_new w2 _)) (by simp [Value.oneCell']) (by decide) (by unfold maxLen; omega) (by omega) (by simp; omega) _ rfl ?_; intro g6 cap6 w6 hown6 hgr6 hat6 hlt6)
          go_roundw
          case rel =>
            refine ⟨m' - k, N' - k, U ++ [true], ?_, by omega, by omega, by omega, by simp; omega, rfl, rfl, ?_, ?_⟩
            · unfold Hid
              rw [hU.out, gturns_right (by omega) (by omega) (by omega), k4, List.append_assoc, show m'.toNat - k.toNat = (m' - k).toNat by omega, show N'.toNat - k.toNat = (N' - k).toNat by omega]
              rfl
            · rw [boos_snoc, List.length_append]
              exact hown6
            · exact (hbl.alloc hsz _).grown hgr6 (by simp; omega) (fun k hk => (hown.lt k hk).1)
          case measure =>
            show (N' - k).toNat < N'.toNat
            omega
      · have hUT : T = U := by rw [hU.out, show m' = N' by omega, gturns_all, List.append_nil]
        subst hUT
        clear hU
        obtain ⟨tp, tc, htv, htc⟩ := own_slice hown
        have hcell : 0 < T.length → ∃ G, tp = some ⟨G, 0, none⟩ ∧ w.heap.size ≤ G ∧ G < wr.heap.size ∧ ∀ i x, T[i]? = some x → wr.cell? ⟨G, i, none⟩ = some (.bool x) := fun h => by
          obtain ⟨G, cap, e1, e2, e3, _, e4⟩ := own_cell hown h
          rw [htv] at e1
          injection e1 with e1
          exact ⟨G, e1, e2, e3, fun i x hx => e4 i _ (by simp [boos, hx])⟩
        subst htv
        have hTl : T.length ≤ 2147483648 := by omega
        obtain ⟨L, hL⟩ : ∃ L, T.length = L := ⟨_, rfl⟩
        have HL : Hid (T.length = L) := hL
        rw [hL] at hcell htc hTl ⊢
        have Hw := H.later hbl
        have hsr := hbl.size
        clear hown hL
        go_wp2_with fail
        go_loopw [13, 14] (fun vr vi w3 => ∃ (i : Nat) (r : Bool), i ≤ L ∧ Hid (r = (T.take i).any id) ∧ vr = .bool r ∧ vi = .int .i64 (i : Int) ∧ w3 = wr) (fun _ vi _ => L - (intOf vi).toNat)
        case atStart => exact ⟨0, false, Nat.zero_le _, rfl, rfl, rfl, rfl⟩
        case round =>
          obtain ⟨i, r, hi1, hr, rfl, rfl, rfl⟩ := hrel
          by_cases hlt : i < L
          · have hlt' : (i : Int) < (L : Int) := by omega
            have hi0 : (0 : Int) ≤ (i : Int) := by omega
            obtain ⟨G, rfl, hG1, hG2, hcb⟩ := hcell (by omega)
            obtain ⟨bt, hbt⟩ : ∃ bt, T[i]? = some bt := ⟨_, List.getElem?_eq_getElem (by rw [HL.out]; omega)⟩
            have c2 := hcb _ _ hbt
            have hat := any_take T i bt hbt
            cases r with
            | true =>
              have HR2 : Hid (true = (T.take (i + 1)).any id) := by unfold Hid; rw [hat, ← hr.out]; rfl
              clear hat hbt hr
              go_wp2
              go_roundw
              case rel => exact ⟨i + 1, true, by omega, HR2, rfl, by go_num, by trivial⟩
              case measure =>
                show L - (intOf (.int .i64 ((i : Int) + 1))).toNat < L - (intOf (.int .i64 (i : Int))).toNat
                simp only [intOf_i64]
                omega
            | false =>
              have HR2 : Hid (bt = (T.take (i + 1)).any id) := by unfold Hid; rw [hat, ← hr.out]; rfl
              clear hat hbt hr
              go_wp2
              go_roundw
              case rel => exact ⟨i + 1, bt, by omega, HR2, rfl, by go_num, by trivial⟩
              case measure =>
                show L - (intOf (.int .i64 ((i : Int) + 1))).toNat < L - (intOf (.int .i64 (i : Int))).toNat
                simp only [intOf_i64]
                omega
          · have hiL : i = L := by omega
            have hrT : r = T.any id := by rw [hr.out, hiL, ← HL.out, List.take_length]
            rw [← hrT] at HA
            have hlt' : ¬ (i : Int) < (L : Int) := by omega
            clear hr hrT hi1
            cases r with
            | false =>
              rw [conS_no] at HA
              by_cases hLn : L = n
              · subst hLn
                go_wp2_with fail
                go_loopw [15, 17, 18] (fun va vb vi w3 => ∃ (a b : ByteArray) (i : Nat), i ≤ L ∧ a.size ≤ 400 ∧ b.size ≤ 400 ∧ Hid (up2 old old ((List.range L).map g) T.reverse = up2 a b (((List.range L).map g).drop i) (T.reverse.drop i)) ∧ va = .string a ∧ vb = .string b ∧ vi = .int .i64 (i : Int) ∧ Below wr.heap.size wr w3) (fun _ _ vi _ => L - (intOf vi).toNat)
                case atStart => exact ⟨old, old, 0, Nat.zero_le _, hlf, hlf, rfl, rfl, rfl, rfl, Below.refl _ _⟩
                case round =>
                  obtain ⟨a, bb, i, hi1, has, hbs, hup, rfl, rfl, rfl, hb3⟩ := hrel
                  have hs3 := hb3.size
                  by_cases hlt : i < L
                  · have hlt' : (i : Int) < (L : Int) := by omega
                    obtain ⟨b, o, rfl, hbb, hcs⟩ := Hw.at' (by omega)
                    obtain ⟨G, rfl, hG1, hG2, hcb⟩ := hcell (by omega)
                    skip
                    have c1 := (hb3.cell (p := ⟨b, o + i, none⟩) hbb).trans (hcs i hlt)
                    obtain ⟨bt, hbt⟩ : ∃ bt, T[L - 1 - i]? = some bt := ⟨_, List.getElem?_eq_getElem (by rw [HL.out]; omega)⟩
                    have c2 := (hb3.cell (p := ⟨G, L - 1 - i, none⟩) hG2).trans (hcb _ _ hbt)
                    have hua := up2_at a bb g L T HL.out i hlt bt hbt
                    have HU : Hid (up2 old old ((List.range L).map g) T.reverse = if (g i).size = 32 then up2 (if bt = true then nodeS (g i) a else a) (if bt = true then nodeS (g i) bb else nodeS bb (g i)) (((List.range L).map g).drop (i + 1)) (T.reverse.drop (i + 1)) else none) := hup.out.trans hua
                    clear hua hup hbt hcs hcb
                    obtain ⟨x, hx⟩ : ∃ x, g i = x := ⟨_, rfl⟩
                    rw [hx] at HU c1
                    clear hx
                    obtain ⟨z, hz⟩ : ∃ z, L - 1 - i = z := ⟨_, rfl⟩
                    rw [hz] at c2
                    have hz' : (L : Int) - 1 - (i : Int) = (z : Int) := by omega
                    have hz2 : z < L := by omega
                    have hblx := World.block_lt_of_cell? _ _ c1
                    clear hz
                    by_cases hxs : x.size = 32
                    · have hxs' : (x.size : Int) = 32 := by omega
                      have HU2 : Hid (up2 old old ((List.range L).map g) T.reverse = up2 (if bt = true then nodeS x a else a) (if bt = true then nodeS x bb else nodeS bb x) (((List.range L).map g).drop (i + 1)) (T.reverse.drop (i + 1))) := by
                        unfold Hid
                        rw [HU.out, if_pos hxs]
                      clear HU
                      cases bt with
                      | true =>
                        go_wp2_with fail
                        refine quiet_class (C := fun W => Below wr.heap.size wr W) (by kernel_rfl) (by kernel_rfl) (below_drewN (Below.refl _ _) 1) ?_
                        go_big_quiet_step (fail)
                        go_big_quiet_step (fail)
                        refine BigFrame.wpQuiet_want (by rfl) (fun K hK => q_pure (v := .pointer (some ⟨b, o + i, none⟩)) (fun W => ?_) (hK _ ?_))
                        · go_simp
                        simp only [Act.put, List.setIfInBounds_toArray, List.set_cons_zero, List.set_cons_succ]
                        refine BigFrame.wpQuiet_want (by rfl) (fun K hK => q_at (v := .string x) (fun W hW => ?_) (hK _ ?_))
                        · have hcW := (hW.cell (p := ⟨b, o + i, none⟩) hblx).trans c1
                          go_simp
                        simp only [Act.put, List.setIfInBounds_toArray, List.set_cons_zero, List.set_cons_succ]
                        go_big_quiet_step (fail)
                        refine BigFrame.wpQuiet_want (by rfl) (fun K hK => q_call (v := .string (nodeS x a)) (f := 32) (args := #[.string x, .string a]) (fun W => ?_) (fun W hW => ?_) (hK _ ?_))
                        · go_simp
                        · refine (rnode_any x a (by omega) has W).mono ?_
                          rintro e w' ⟨rfl, hb'⟩
                          exact ⟨rfl, hW.trans (hb'.mono hW.size)⟩
                        simp only [Act.put, List.setIfInBounds_toArray, List.set_cons_zero, List.set_cons_succ]
                        go_big_quiet_step (fail)
                        go_big_quiet_step (fail)
                        refine BigFrame.wpQuiet_want (by rfl) (fun K hK => q_pure (v := .pointer (some ⟨b, o + i, none⟩)) (fun W => ?_) (hK _ ?_))
                        · go_simp
                        simp only [Act.put, List.setIfInBounds_toArray, List.set_cons_zero, List.set_cons_succ]
                        refine BigFrame.wpQuiet_want (by rfl) (fun K hK => q_at (v := .string x) (fun W hW => ?_) (hK _ ?_))
                        · have hcW := (hW.cell (p := ⟨b, o + i, none⟩) hblx).trans c1
                          go_simp
                        simp only [Act.put, List.setIfInBounds_toArray, List.set_cons_zero, List.set_cons_succ]
                        go_big_quiet_step (fail)
                        refine BigFrame.wpQuiet_want (by rfl) (fun K hK => q_call (v := .string (nodeS x bb)) (f := 32) (args := #[.string x, .string bb]) (fun W => ?_) (fun W hW => ?_) (hK _ ?_))
                        · go_simp
                        · refine (rnode_any x bb (by omega) hbs W).mono ?_
                          rintro e w' ⟨rfl, hb'⟩
                          exact ⟨rfl, hW.trans (hb'.mono hW.size)⟩
                        simp only [Act.put, List.setIfInBounds_toArray, List.set_cons_zero, List.set_cons_succ]
                        go_big_quiet_step (fail)
                        go_big_quiet_step (fail)
                        refine wpQuiet_nil (fun w' hW => ?_)
                        go_wp2
                        go_roundw
                        case rel => exact ⟨nodeS x a, nodeS x bb, i + 1, by omega, nodeS_le _ _, nodeS_le _ _, HU2, rfl, rfl, by go_num, hb3.trans (hW.mono hs3)⟩
                        case measure =>
                          show L - (intOf (.int .i64 ((i : Int) + 1))).toNat < L - (intOf (.int .i64 (i : Int))).toNat
                          simp only [intOf_i64]
                          omega
                      | false =>
                        go_wp2_with fail
                        refine (rnode_any bb x hbs (by omega) _).mono ?_
                        rintro e w4 ⟨rfl, hb4⟩
                        go_wp2
                        go_roundw
                        case rel => exact ⟨a, nodeS bb x, i + 1, by omega, has, nodeS_le _ _, HU2, rfl, rfl, by go_num, hb3.trans (hb4.mono hs3)⟩
                        case measure =>
                          show L - (intOf (.int .i64 ((i : Int) + 1))).toNat < L - (intOf (.int .i64 (i : Int))).toNat
                          simp only [intOf_i64]
                          omega
                    · have hxs' : ¬ (x.size : Int) = 32 := by omega
                      have hans : ans = 80 := by
                        rw [← HA.out, HU.out, if_neg hxs, if_neg (by simp)]
                      clear HU HA
                      subst hans
                      go_wp2
                      go_ret
                      exact ⟨rfl, hbl.trans (hb3.mono hsr)⟩
                  · have hiL : i = L := by omega
                    have hue := up2_end a bb g L T HL.out
                    have hlt' : ¬ (i : Int) < (L : Int) := by omega
                    rw [hiL] at hup
                    by_cases hr : a = old
                    · by_cases hs : bb = now
                      · have hans : ans = 0 := by
                          rw [← HA.out, hup.out, hue, hr, hs, if_pos rfl]
                        clear hue hup HA
                        subst hans
                        have e1 : (a.toList == old.toList) = true := by rw [hr]; simp
                        have e2 : (bb.toList == now.toList) = true := by rw [hs]; simp
                        clear hr hs
                        go_wp2
                        go_ret
                        exact ⟨rfl, hbl.trans (hb3.mono hsr)⟩
                      · have hans : ans = 80 := by
                          rw [← HA.out, hup.out, hue, if_neg (by simp; intro _; exact hs)]
                        clear hue hup HA
                        subst hans
                        have e1 : (a.toList == old.toList) = true := by rw [hr]; simp
                        have hne := beq_of_ne hs
                        clear hr hs
                        go_wp2
                        go_ret
                        exact ⟨rfl, hbl.trans (hb3.mono hsr)⟩
                    · have hans : ans = 80 := by
                        rw [← HA.out, hup.out, hue, if_neg (by simp; intro h; exact absurd h hr)]
                      clear hue hup HA
                      subst hans
                      have hne := beq_of_ne hr
                      clear hr
                      go_wp2
                      go_ret
                      exact ⟨rfl, hbl.trans (hb3.mono hsr)⟩
              · have hans : ans = 80 := by
                  rw [← HA.out, up2_len _ _ _ _ (by simp [HL.out]; omega), if_neg (by simp)]
                clear HA
                subst hans
                have hne : ¬ (n : Int) = (L : Int) := by omega
                go_wp2
                go_ret
                exact ⟨rfl, hbl⟩
            | true =>
              by_cases hnz : n = 0
              · subst hnz
                have hans : ans = 80 := by
                  have := HA.out
                  rw [show (List.range 0).map g = [] from rfl, conS_none, if_neg (by simp)] at this
                  exact this.symm
                clear HA
                subst hans
                go_wp2
                go_ret
                exact ⟨rfl, hbl⟩
              · obtain ⟨n1, rfl⟩ : ∃ n1, n = n1 + 1 := ⟨n - 1, by omega⟩
                obtain ⟨b, o, rfl, hbb, hcs⟩ := Hw.at' (by omega)
                have c3 := hcs 0 (by omega)
                rw [Nat.add_zero] at c3
                have hnB : (((n1 + 1 : Nat) : Int) == 0) = false := beq_eq_false_iff_ne.2 (by omega)
                by_cases hx0 : (g 0).size = 32
                · rw [conS_yes old g n1 T.reverse hx0] at HA
                  have Hf := Hw.from 1 (by omega)
                  rw [Nat.add_sub_cancel] at Hf
                  obtain ⟨a0, ha0⟩ : ∃ a0, g 0 = a0 := ⟨_, rfl⟩
                  rw [ha0] at HA c3 hx0
                  have hx0' : (a0.size : Int) = 32 := by omega
                  have ha400 : a0.size ≤ 400 := by omega
                  obtain ⟨gf, hgf⟩ : ∃ gf : Nat → ByteArray, (fun i => g (1 + i)) = gf := ⟨_, rfl⟩
                  rw [hgf] at HA Hf
                  clear ha0 hcs hgf
                  by_cases hc1 : c = 1
                  · have hn10 : n1 = 0 := by omega
                    subst hc1
                    go_wp2_with fail
                    go_quiet (fail)
                    by_cases hLn : L = n1
                    · subst hLn
                      go_wp2_with fail
                      go_loopw [15, 17, 18] (fun va vb vi w3 => ∃ (a b : ByteArray) (i : Nat), i ≤ L ∧ a.size ≤ 400 ∧ b.size ≤ 400 ∧ Hid (up2 a0 a0 ((List.range L).map gf) T.reverse = up2 a b (((List.range L).map gf).drop i) (T.reverse.drop i)) ∧ va = .string a ∧ vb = .string b ∧ vi = .int .i64 (i : Int) ∧ Below wr.heap.size wr w3) (fun _ _ vi _ => L - (intOf vi).toNat)
                      case atStart => exact ⟨a0, a0, 0, Nat.zero_le _, ha400, ha400, rfl, rfl, rfl, rfl, below_drewN (Below.refl _ _) _⟩
                      case round =>
                        obtain ⟨a, bb, i, hi1, has, hbs, hup, rfl, rfl, rfl, hb3⟩ := hrel
                        have hs3 := hb3.size
                        by_cases hlt : i < L
                        · exact absurd hlt (by omega)
                        · have hiL : i = L := by omega
                          have hue := up2_end a bb gf L T HL.out
                          have hlt' : ¬ (i : Int) < (L : Int) := by omega
                          rw [hiL] at hup
                          by_cases hr : a = old
                          · by_cases hs : bb = now
                            · have hans : ans = 0 := by
                                rw [← HA.out, hup.out, hue, hr, hs, if_pos rfl]
                              clear hue hup HA
                              subst hans
                              have e1 : (a.toList == old.toList) = true := by rw [hr]; simp
                              have e2 : (bb.toList == now.toList) = true := by rw [hs]; simp
                              clear hr hs
                              go_wp2
                              go_ret
                              exact ⟨rfl, hbl.trans (hb3.mono hsr)⟩
                            · have hans : ans = 80 := by
                                rw [← HA.out, hup.out, hue, if_neg (by simp; intro _; exact hs)]
                              clear hue hup HA
                              subst hans
                              have e1 : (a.toList == old.toList) = true := by rw [hr]; simp
                              have hne := beq_of_ne hs
                              clear hr hs
                              go_wp2
                              go_ret
                              exact ⟨rfl, hbl.trans (hb3.mono hsr)⟩
                          · have hans : ans = 80 := by
                              rw [← HA.out, hup.out, hue, if_neg (by simp; intro h; exact absurd h hr)]
                            clear hue hup HA
                            subst hans
                            have hne := beq_of_ne hr
                            clear hr
                            go_wp2
                            go_ret
                            exact ⟨rfl, hbl.trans (hb3.mono hsr)⟩
                    · have hans : ans = 80 := by
                        rw [← HA.out, up2_len _ _ _ _ (by simp [HL.out]; omega), if_neg (by simp)]
                      clear HA
                      subst hans
                      have hne : ¬ (n1 : Int) = (L : Int) := by omega
                      go_wp2
                      go_ret
                      exact ⟨rfl, below_drewN hbl _⟩
                  · go_wp2_with fail
                    go_quiet (fail)
                    by_cases hLn : L = n1
                    · subst hLn
                      go_wp2_with fail
                      go_loopw [15, 17, 18] (fun va vb vi w3 => ∃ (a b : ByteArray) (i : Nat), i ≤ L ∧ a.size ≤ 400 ∧ b.size ≤ 400 ∧ Hid (up2 a0 a0 ((List.range L).map gf) T.reverse = up2 a b (((List.range L).map gf).drop i) (T.reverse.drop i)) ∧ va = .string a ∧ vb = .string b ∧ vi = .int .i64 (i : Int) ∧ Below wr.heap.size wr w3) (fun _ _ vi _ => L - (intOf vi).toNat)
                      case atStart => exact ⟨a0, a0, 0, Nat.zero_le _, ha400, ha400, rfl, rfl, rfl, rfl, below_drewN (Below.refl _ _) _⟩
                      case round =>
                        obtain ⟨a, bb, i, hi1, has, hbs, hup, rfl, rfl, rfl, hb3⟩ := hrel
                        have hs3 := hb3.size
                        by_cases hlt : i < L
                        · have hlt' : (i : Int) < (L : Int) := by omega
                          obtain ⟨b, o, hst, hbb, hcs⟩ := Hf.at' (by omega)
                          obtain ⟨G, rfl, hG1, hG2, hcb⟩ := hcell (by omega)
                          (injection hst with hst; injection hst with hst1 hst2 _; subst hst1; subst hst2)
                          have c1 := (hb3.cell (p := ⟨b, o + 1 + i, none⟩) hbb).trans (hcs i hlt)
                          obtain ⟨bt, hbt⟩ : ∃ bt, T[L - 1 - i]? = some bt := ⟨_, List.getElem?_eq_getElem (by rw [HL.out]; omega)⟩
                          have c2 := (hb3.cell (p := ⟨G, L - 1 - i, none⟩) hG2).trans (hcb _ _ hbt)
                          have hua := up2_at a bb gf L T HL.out i hlt bt hbt
                          have HU : Hid (up2 a0 a0 ((List.range L).map gf) T.reverse = if (gf i).size = 32 then up2 (if bt = true then nodeS (gf i) a else a) (if bt = true then nodeS (gf i) bb else nodeS bb (gf i)) (((List.range L).map gf).drop (i + 1)) (T.reverse.drop (i + 1)) else none) := hup.out.trans hua
                          clear hua hup hbt hcs hcb
                          obtain ⟨x, hx⟩ : ∃ x, gf i = x := ⟨_, rfl⟩
                          rw [hx] at HU c1
                          clear hx
                          obtain ⟨z, hz⟩ : ∃ z, L - 1 - i = z := ⟨_, rfl⟩
                          rw [hz] at c2
                          have hz' : (L : Int) - 1 - (i : Int) = (z : Int) := by omega
                          have hz2 : z < L := by omega
                          have hblx := World.block_lt_of_cell? _ _ c1
                          clear hz
                          by_cases hxs : x.size = 32
                          · have hxs' : (x.size : Int) = 32 := by omega
                            have HU2 : Hid (up2 a0 a0 ((List.range L).map gf) T.reverse = up2 (if bt = true then nodeS x a else a) (if bt = true then nodeS x bb else nodeS bb x) (((List.range L).map gf).drop (i + 1)) (T.reverse.drop (i + 1))) := by
                              unfold Hid
                              rw [HU.out, if_pos hxs]
                            clear HU
                            cases bt with
                            | true =>
                              go_wp2_with fail
                              refine quiet_class (C := fun W => Below wr.heap.size wr W) (by kernel_rfl) (by kernel_rfl) (below_drewN (Below.refl _ _) 1) ?_
                              go_big_quiet_step (fail)
                              go_big_quiet_step (fail)
                              refine BigFrame.wpQuiet_want (by rfl) (fun K hK => q_pure (v := .pointer (some ⟨b, o + 1 + i, none⟩)) (fun W => ?_) (hK _ ?_))
                              · go_simp
                              simp only [Act.put, List.setIfInBounds_toArray, List.set_cons_zero, List.set_cons_succ]
                              refine BigFrame.wpQuiet_want (by rfl) (fun K hK => q_at (v := .string x) (fun W hW => ?_) (hK _ ?_))
                              · have hcW := (hW.cell (p := ⟨b, o + 1 + i, none⟩) hblx).trans c1
                                go_simp
                              simp only [Act.put, List.setIfInBounds_toArray, List.set_cons_zero, List.set_cons_succ]
                              go_big_quiet_step (fail)
                              refine BigFrame.wpQuiet_want (by rfl) (fun K hK => q_call (v := .string (nodeS x a)) (f := 32) (args := #[.string x, .string a]) (fun W => ?_) (fun W hW => ?_) (hK _ ?_))
                              · go_simp
                              · refine (rnode_any x a (by omega) has W).mono ?_
                                rintro e w' ⟨rfl, hb'⟩
                                exact ⟨rfl, hW.trans (hb'.mono hW.size)⟩
                              simp only [Act.put, List.setIfInBounds_toArray, List.set_cons_zero, List.set_cons_succ]
                              go_big_quiet_step (fail)
                              go_big_quiet_step (fail)
                              refine BigFrame.wpQuiet_want (by rfl) (fun K hK => q_pure (v := .pointer (some ⟨b, o + 1 + i, none⟩)) (fun W => ?_) (hK _ ?_))
                              · go_simp
                              simp only [Act.put, List.setIfInBounds_toArray, List.set_cons_zero, List.set_cons_succ]
                              refine BigFrame.wpQuiet_want (by rfl) (fun K hK => q_at (v := .string x) (fun W hW => ?_) (hK _ ?_))
                              · have hcW := (hW.cell (p := ⟨b, o + 1 + i, none⟩) hblx).trans c1
                                go_simp
                              simp only [Act.put, List.setIfInBounds_toArray, List.set_cons_zero, List.set_cons_succ]
                              go_big_quiet_step (fail)
                              refine BigFrame.wpQuiet_want (by rfl) (fun K hK => q_call (v := .string (nodeS x bb)) (f := 32) (args := #[.string x, .string bb]) (fun W => ?_) (fun W hW => ?_) (hK _ ?_))
                              · go_simp
                              · refine (rnode_any x bb (by omega) hbs W).mono ?_
                                rintro e w' ⟨rfl, hb'⟩
                                exact ⟨rfl, hW.trans (hb'.mono hW.size)⟩
                              simp only [Act.put, List.setIfInBounds_toArray, List.set_cons_zero, List.set_cons_succ]
                              go_big_quiet_step (fail)
                              go_big_quiet_step (fail)
                              refine wpQuiet_nil (fun w' hW => ?_)
                              go_wp2
                              go_roundw
                              case rel => exact ⟨nodeS x a, nodeS x bb, i + 1, by omega, nodeS_le _ _, nodeS_le _ _, HU2, rfl, rfl, by go_num, hb3.trans (hW.mono hs3)⟩
                              case measure =>
                                show L - (intOf (.int .i64 ((i : Int) + 1))).toNat < L - (intOf (.int .i64 (i : Int))).toNat
                                simp only [intOf_i64]
                                omega
                            | false =>
                              go_wp2_with fail
                              refine (rnode_any bb x hbs (by omega) _).mono ?_
                              rintro e w4 ⟨rfl, hb4⟩
                              go_wp2
                              go_roundw
                              case rel => exact ⟨a, nodeS bb x, i + 1, by omega, has, nodeS_le _ _, HU2, rfl, rfl, by go_num, hb3.trans (hb4.mono hs3)⟩
                              case measure =>
                                show L - (intOf (.int .i64 ((i : Int) + 1))).toNat < L - (intOf (.int .i64 (i : Int))).toNat
                                simp only [intOf_i64]
                                omega
                          · have hxs' : ¬ (x.size : Int) = 32 := by omega
                            have hans : ans = 80 := by
                              rw [← HA.out, HU.out, if_neg hxs, if_neg (by simp)]
                            clear HU HA
                            subst hans
                            go_wp2
                            go_ret
                            exact ⟨rfl, hbl.trans (hb3.mono hsr)⟩
                        · have hiL : i = L := by omega
                          have hue := up2_end a bb gf L T HL.out
                          have hlt' : ¬ (i : Int) < (L : Int) := by omega
                          rw [hiL] at hup
                          by_cases hr : a = old
                          · by_cases hs : bb = now
                            · have hans : ans = 0 := by
                                rw [← HA.out, hup.out, hue, hr, hs, if_pos rfl]
                              clear hue hup HA
                              subst hans
                              have e1 : (a.toList == old.toList) = true := by rw [hr]; simp
                              have e2 : (bb.toList == now.toList) = true := by rw [hs]; simp
                              clear hr hs
                              go_wp2
                              go_ret
                              exact ⟨rfl, hbl.trans (hb3.mono hsr)⟩
                            · have hans : ans = 80 := by
                                rw [← HA.out, hup.out, hue, if_neg (by simp; intro _; exact hs)]
                              clear hue hup HA
                              subst hans
                              have e1 : (a.toList == old.toList) = true := by rw [hr]; simp
                              have hne := beq_of_ne hs
                              clear hr hs
                              go_wp2
                              go_ret
                              exact ⟨rfl, hbl.trans (hb3.mono hsr)⟩
                          · have hans : ans = 80 := by
                              rw [← HA.out, hup.out, hue, if_neg (by simp; intro h; exact absurd h hr)]
                            clear hue hup HA
                            subst hans
                            have hne := beq_of_ne hr
                            clear hr
                            go_wp2
                            go_ret
                            exact ⟨rfl, hbl.trans (hb3.mono hsr)⟩
                    · have hans : ans = 80 := by
                        rw [← HA.out, up2_len _ _ _ _ (by simp [HL.out]; omega), if_neg (by simp)]
                      clear HA
                      subst hans
                      have hne : ¬ (n1 : Int) = (L : Int) := by omega
                      go_wp2
                      go_ret
                      exact ⟨rfl, below_drewN hbl _⟩
                · rw [conS_bad old g n1 T.reverse hx0] at HA
                  have hans : ans = 80 := by
                    have := HA.out
                    rw [if_neg (by simp)] at this
                    exact this.symm
                  clear HA
                  subst hans
                  generalize g 0 = a0 at c3 hx0
                  have hx0' : ¬ (a0.size : Int) = 32 := by omega
                  go_wp2
                  go_ret
                  exact ⟨rfl, hbl⟩
end Go.Proofs.YtjamahpccblkiaaDoor
