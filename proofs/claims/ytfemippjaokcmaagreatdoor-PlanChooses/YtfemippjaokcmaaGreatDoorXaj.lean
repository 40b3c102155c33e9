/- Fields of SET with commas between them (commas). Texts with commas between them (commas of paths). An expression of any strength (expression); a name, a sign and an expression (named, part, assignment). Names of fields, and their expressions (apart). -/
import Derived.Test.YtfemippjaokcmaaGreatDoorXai
namespace Go.Proofs.YtfemippjaokcmaaGreatDoor
open Go.RowKit Go.Shelf
attribute [local go_sem] Oper.semAt_some fw0 fw1 fw2
theorem info98d : (Tryz.prog.info? 158).map (fun i => (i.zero, i.size, i.bytes)) = some (some (.agg #[.string ⟨#[]⟩, .int .i64 0, .string ⟨#[]⟩, .int .i64 0, .bool false, .int .i64 0, .string ⟨#[]⟩, .slice none 0 0, .slice none 0 0, .slice none 0 0, .slice none 0 0]), 11, 176) := by kernel_rfl
set_option maxRecDepth 100000 in
set_option maxHeartbeats 8000000 in
theorem commasA_any {w : World} {b : Nat} {p : Option Addr} {c : Nat} {ws : List Wd} {s : PS} (H : Ps w b p c ws s) (hz : Wz ws) (F : PS → (ByteArray × Et) × PS) (hF : ∀ u, u.at' < ws.length → Pk 0 0 ws u (F u).2)
    (kb : ∀ W u, Ps W b p c ws u → Pk 0 0 ws s u → Calls Tryz.prog 123 #[.pointer (some ⟨b, 0, none⟩)] W fun r w' => ∃ v d, r = .returned v ∧ v = .agg d.toArray ∧ EFld w' (fun k => W.heap.size ≤ k) (F u).1 d ∧ Ps w' b p c ws (F u).2 ∧ Onl b W w') :
    Calls Tryz.prog 122 #[.pointer (some ⟨b, 0, none⟩), .func (.func 123) #[.pointer (some ⟨b, 0, none⟩)] #[]] w fun r w' => ∃ v, r = .returned v ∧ Gl EFld 158 11 w w' b p c ws v (comF ws F 33 [] s).1 (comF ws F 33 [] s).2 := by
  obtain ⟨V, hV⟩ : ∃ V, comF ws F 33 [] s = V := ⟨_, rfl⟩
  rw [hV]
  have HV : Hid (comF ws F 33 [] s = V ∧ Ps w b p c ws s) := ⟨hV, H⟩
  have HF : Hid (∀ u, u.at' < ws.length → Pk 0 0 ws u (F u).2) := hF
  clear H hV hF
  obtain ⟨i0, hi, hz0, hz1, hz2⟩ := info_parts info98d
  go_enter Tryz.func122, Tryz.ntmps122
  go_wp2_with fail
  go_loopw [5] (fun c5 wr => ∃ n l t, (n + l.length = 33 ∧ 0 < n) ∧ (∃ q k, c5 = .slice q l.length k) ∧ Hid (Gl EFld 158 11 w wr b p c ws c5 l t ∧ comF ws F n l t = V ∧ Pk 0 0 ws s t)) (fun c5 _ => 33 - lenOf c5)
  case atStart =>
    refine ⟨33, [], s, ⟨rfl, by decide⟩, ⟨none, 0, rfl⟩, ?_⟩
    have hh : Gl EFld 158 11 w w b p c ws (.slice none 0 0) [] s ∧ comF ws F 33 [] s = V ∧ Pk 0 0 ws s s := ⟨Gl.start _ _ _ HV.out.2, HV.out.1, Pk.refl HV.out.2.lt⟩
    exact hh
  case round =>
    obtain ⟨n, l, t, ⟨hn, hn0⟩, ⟨q5, k5, rfl⟩, hh⟩ := hrel
    obtain ⟨G, hlo, hpk⟩ := hh.out
    by_cases h32 : l.length = 32
    · obtain rfl : n = 1 := by omega
      have hlo2 : ([], failP ws t 3) = V := by
        unfold comF at hlo
        rw [if_pos h32] at hlo
        exact hlo
      have kf := fail_any G.ps 3
      have HG : Hid (Gl EFld 158 11 w wr b p c ws (.slice q5 l.length k5) l t) := G
      have h32' : (l.length : Int) = 32 := by omega
      subst hlo2
      clear hlo G hpk hh h32 HV
      go_wp2_with fail
      refine kf.mono ?_
      rintro r w2 ⟨rfl, hP2, hO2⟩
      have HG2 : Hid (Ps w2 b p c ws (failP ws t 3) ∧ Onl b wr w2) := ⟨hP2, hO2⟩
      clear kf hP2 hO2
      go_wp2
      go_ret
      exact ⟨_, rfl, ⟨[], World.ownsRow_nil _ _ _ _, rfl⟩, HG.out.onl.trans HG2.out.2, HG2.out.1, HG.out.lb, HG.out.old⟩
    · obtain ⟨m, rfl⟩ : ∃ m, n = m + 1 := ⟨n - 1, by omega⟩
      unfold comF at hlo
      rw [if_neg h32] at hlo
      have h32' : ¬ (l.length : Int) = 32 := by omega
      have kb1 := kb wr t G.ps hpk
      have hpk2 := hpk.trans (HF.out t G.ps.lt)
      obtain ⟨X, hX⟩ : ∃ X, F t = X := ⟨_, rfl⟩
      rw [hX] at kb1 hlo hpk2
      have HG : Hid (Gl EFld 158 11 w wr b p c ws (.slice q5 l.length k5) l t ∧ (if isP (wAt ws X.2.at') 6 [44] = true then comF ws F m (l ++ [X.1]) (takeP X.2) else (l ++ [X.1], X.2)) = V ∧ Pk 0 0 ws s X.2) := ⟨G, hlo, hpk2⟩
      have hlw : l.length ≤ 32 := by omega
      clear hlo G hpk hpk2 hh hX HV h32
      go_wp2_with fail
      refine kb1.mono ?_
      rintro r w2 ⟨v2, d2, rfl, hv2, hE2, hP2, hO2⟩
      have G2 := HG.out.1.calls eFld hO2 hP2
      obtain ⟨L, hown, hels⟩ := G2.own
      have hsz := G2.onl.size
      have hszr := HG.out.1.onl.size
      obtain ⟨e2, he2, dd, hdd⟩ := id hE2
      obtain ⟨R, hR⟩ := hdd.row
      have hd2 : d2 = [.string X.1.1, .int .i64 R.k, .string R.s, .int .i64 R.vk, .bool R.vb, .int .i64 R.vn, .string R.vs, .slice none 0 0, .slice none 0 0, .slice R.kp R.n R.kc, .slice R.np R.m R.nc] := by
        unfold rowX at hR
        injection hR with hR
        have := congrArg Array.toList hR
        rw [he2]
        simpa using this
      subst hd2
      subst hv2
      clear hdd hR he2
      have HG2 : Hid (Gl EFld 158 11 w w2 b p c ws (.slice q5 l.length k5) l X.2 ∧ Els EFld w2 (fun k => w.heap.size ≤ k ∧ (Value.slice q5 l.length k5).ownBlock ≠ some k) l L ∧ EFld w2 (fun k => w.heap.size ≤ k ∧ (Value.slice q5 l.length k5).ownBlock ≠ some k) X.1 [.string X.1.1, .int .i64 R.k, .string R.s, .int .i64 R.vk, .bool R.vb, .int .i64 R.vn, .string R.vs, .slice none 0 0, .slice none 0 0, .slice R.kp R.n R.kc, .slice R.np R.m R.nc]) := by
        refine ⟨G2, hels, eFld.imp (fun k hk hl => ⟨by omega, fun e => ?_⟩) hE2⟩
        obtain ⟨L1, hown1, -⟩ := HG.out.1.own
        have := (hown1.lt k e).2
        omega
      clear kb1 hP2 hO2 G2 hels hE2
      go_wp2_with (at_builtin; refine wpList_append_own_at _ rfl _ _ 155 rfl w.heap.size 158 i0 (.agg #[.string ⟨#[]⟩, .int .i64 0, .string ⟨#[]⟩, .int .i64 0, .bool false, .int .i64 0, .string ⟨#[]⟩, .slice none 0 0, .slice none 0 0, .slice none 0 0, .slice none 0 0]) 11 176 Tryz.underlying155 hi hz0 hz1 hz2 rfl (by decide) _ _ _ rfl (hown.alloc _) ⟨w2.heap.size, 0, none⟩ 1 1 [.string X.1.1, .int .i64 R.k, .string R.s, .int .i64 R.vk, .bool R.vb, .int .i64 R.vn, .string R.vs, .slice none 0 0, .slice none 0 0, .slice R.kp R.n R.kc, .slice R.np R.m R.nc] rfl rfl ?c1 ?c2 ?c3 ?c4 ?c5 ?_)
      case c1 => exact World.news_of_block (heap_alloc_new w2 _)
      case c2 => exact eFld.ones HG2.out.2.2
      case c3 => unfold maxLen; omega
      case c4 => omega
      case c5 => simp; omega
      intro v' w5 hown5 hgr5 _ hat5
      have G5 : Gl EFld 158 11 w w5 b p c ws v' (l ++ [X.1]) X.2 := HG2.out.1.more eFld HG2.out.2.1 (x := X.1) (d := [.string X.1.1, .int .i64 R.k, .string R.s, .int .i64 R.vk, .bool R.vb, .int .i64 R.vn, .string R.vs, .slice none 0 0, .slice none 0 0, .slice R.kp R.n R.kc, .slice R.np R.m R.nc]) HG2.out.2.2 rfl hown5 hgr5 hat5
      have kt := tookSign_any G5.ps hz ⟨#[44]⟩
      have hI : isW (wAt ws X.2.at') 6 ⟨#[44]⟩ = isP (wAt ws X.2.at') 6 [44] := isW_isP _ _ _
      unfold tookP at kt
      rw [hI] at kt
      obtain ⟨q6, k6, rfl⟩ := own_len hown5
      have HG5 : Hid (Gl EFld 158 11 w w5 b p c ws (.slice q6 (l.length + 1) k6) (l ++ [X.1]) X.2) := G5
      clear hown hown5 hgr5 hat5 G5 hI HG2
      by_cases hy : isP (wAt ws X.2.at') 6 [44] = true
      · rw [hy, if_pos rfl] at kt
        have hlo : comF ws F m (l ++ [X.1]) (takeP X.2) = V := by
          have := HG.out.2.1
          rw [if_pos hy] at this
          exact this
        have hpk3 := (HG.out.2.2.is hz hy (by decide)).less
        have H3 : Hid (comF ws F m (l ++ [X.1]) (takeP X.2) = V ∧ Pk 0 0 ws s (takeP X.2)) := ⟨hlo, hpk3⟩
        clear hlo hpk3 hy HG
        go_wp2_with fail
        refine kt.mono ?_
        rintro r w6 ⟨rfl, hP6, hO6⟩
        have G6 := HG5.out.calls eFld hO6 hP6
        have HG6 : Hid (Gl EFld 158 11 w w6 b p c ws (.slice q6 (l.length + 1) k6) (l ++ [X.1]) (takeP X.2)) := G6
        clear kt hP6 hO6 G6 HG5
        go_wp2_with fail
        go_roundw
        case rel =>
          refine ⟨m, l ++ [X.1], takeP X.2, ⟨by simp; omega, by omega⟩, ⟨q6, k6, by simp⟩, ?_⟩
          have hh : Gl EFld 158 11 w w6 b p c ws (.slice q6 (l.length + 1) k6) (l ++ [X.1]) (takeP X.2) ∧ comF ws F m (l ++ [X.1]) (takeP X.2) = V ∧ Pk 0 0 ws s (takeP X.2) := ⟨HG6.out, H3.out.1, H3.out.2⟩
          exact hh
        case measure =>
          simp only [lenOf]
          omega
      · have hf : isP (wAt ws X.2.at') 6 [44] = false := by simpa using hy
        rw [hf, if_neg Bool.false_ne_true] at kt
        have hlo : (l ++ [X.1], X.2) = V := by
          have := HG.out.2.1
          rw [if_neg hy] at this
          exact this
        subst hlo
        clear hy hf HG
        go_wp2_with fail
        refine kt.mono ?_
        rintro r w6 ⟨rfl, hP6, hO6⟩
        have G6 := HG5.out.calls eFld hO6 hP6
        have HG6 : Hid (Gl EFld 158 11 w w6 b p c ws (.slice q6 (l.length + 1) k6) (l ++ [X.1]) X.2) := G6
        clear kt hP6 hO6 G6 HG5
        go_wp2
        go_ret
        exact ⟨_, rfl, HG6.out⟩
end Go.Proofs.YtfemippjaokcmaaGreatDoor
namespace Go.Proofs.YtfemippjaokcmaaGreatDoor
open Go.RowKit Go.Shelf
attribute [local go_sem] Oper.semAt_some fw0 fw1 fw2
theorem info9c : (Tryz.prog.info? 9).map (fun i => (i.zero, i.size, i.bytes)) = some (some (.string ⟨#[]⟩), 1, 16) := by kernel_rfl
set_option maxRecDepth 100000 in
set_option maxHeartbeats 8000000 in
theorem commasS_any {w : World} {b : Nat} {p : Option Addr} {c : Nat} {ws : List Wd} {s : PS} (H : Ps w b p c ws s) (hz : Wz ws) (F : PS → ByteArray × PS) (hF : ∀ u, u.at' < ws.length → Pk 0 0 ws u (F u).2)
    (kb : ∀ W u, Ps W b p c ws u → Pk 0 0 ws s u → Calls Tryz.prog 149 #[.pointer (some ⟨b, 0, none⟩)] W fun r w' => ∃ v d, r = .returned v ∧ d = [v] ∧ EStr w' (fun k => W.heap.size ≤ k) (F u).1 d ∧ Ps w' b p c ws (F u).2 ∧ Onl b W w') :
    Calls Tryz.prog 148 #[.pointer (some ⟨b, 0, none⟩), .func (.func 149) #[.pointer (some ⟨b, 0, none⟩)] #[]] w fun r w' => ∃ v, r = .returned v ∧ Gl EStr 9 1 w w' b p c ws v (comF ws F 33 [] s).1 (comF ws F 33 [] s).2 := by
  obtain ⟨V, hV⟩ : ∃ V, comF ws F 33 [] s = V := ⟨_, rfl⟩
  rw [hV]
  have HV : Hid (comF ws F 33 [] s = V ∧ Ps w b p c ws s) := ⟨hV, H⟩
  have HF : Hid (∀ u, u.at' < ws.length → Pk 0 0 ws u (F u).2) := hF
  clear H hV hF
  obtain ⟨i0, hi, hz0, hz1, hz2⟩ := info_parts info9c
  go_enter Tryz.func148, Tryz.ntmps148
  go_wp2_with fail
  go_loopw [5] (fun c5 wr => ∃ n l t, (n + l.length = 33 ∧ 0 < n) ∧ (∃ q k, c5 = .slice q l.length k) ∧ Hid (Gl EStr 9 1 w wr b p c ws c5 l t ∧ comF ws F n l t = V ∧ Pk 0 0 ws s t)) (fun c5 _ => 33 - lenOf c5)
  case atStart =>
    refine ⟨33, [], s, ⟨rfl, by decide⟩, ⟨none, 0, rfl⟩, ?_⟩
    have hh : Gl EStr 9 1 w w b p c ws (.slice none 0 0) [] s ∧ comF ws F 33 [] s = V ∧ Pk 0 0 ws s s := ⟨Gl.start _ _ _ HV.out.2, HV.out.1, Pk.refl HV.out.2.lt⟩
    exact hh
  case round =>
    obtain ⟨n, l, t, ⟨hn, hn0⟩, ⟨q5, k5, rfl⟩, hh⟩ := hrel
    obtain ⟨G, hlo, hpk⟩ := hh.out
    by_cases h32 : l.length = 32
    · obtain rfl : n = 1 := by omega
      have hlo2 : ([], failP ws t 3) = V := by
        unfold comF at hlo
        rw [if_pos h32] at hlo
        exact hlo
      have kf := fail_any G.ps 3
      have HG : Hid (Gl EStr 9 1 w wr b p c ws (.slice q5 l.length k5) l t) := G
      have h32' : (l.length : Int) = 32 := by omega
      subst hlo2
      clear hlo G hpk hh h32 HV
      go_wp2_with fail
      refine kf.mono ?_
      rintro r w2 ⟨rfl, hP2, hO2⟩
      have HG2 : Hid (Ps w2 b p c ws (failP ws t 3) ∧ Onl b wr w2) := ⟨hP2, hO2⟩
      clear kf hP2 hO2
      go_wp2
      go_ret
      exact ⟨_, rfl, ⟨[], World.ownsRow_nil _ _ _ _, rfl⟩, HG.out.onl.trans HG2.out.2, HG2.out.1, HG.out.lb, HG.out.old⟩
    · obtain ⟨m, rfl⟩ : ∃ m, n = m + 1 := ⟨n - 1, by omega⟩
      unfold comF at hlo
      rw [if_neg h32] at hlo
      have h32' : ¬ (l.length : Int) = 32 := by omega
      have kb1 := kb wr t G.ps hpk
      have hpk2 := hpk.trans (HF.out t G.ps.lt)
      obtain ⟨X, hX⟩ : ∃ X, F t = X := ⟨_, rfl⟩
      rw [hX] at kb1 hlo hpk2
      have HG : Hid (Gl EStr 9 1 w wr b p c ws (.slice q5 l.length k5) l t ∧ (if isP (wAt ws X.2.at') 6 [44] = true then comF ws F m (l ++ [X.1]) (takeP X.2) else (l ++ [X.1], X.2)) = V ∧ Pk 0 0 ws s X.2) := ⟨G, hlo, hpk2⟩
      have hlw : l.length ≤ 32 := by omega
      clear hlo G hpk hpk2 hh hX HV h32
      go_wp2_with fail
      refine kb1.mono ?_
      rintro r w2 ⟨v2, d2, rfl, hv2, hE2, hP2, hO2⟩
      have G2 := HG.out.1.calls eStr hO2 hP2
      obtain ⟨L, hown, hels⟩ := G2.own
      have hsz := G2.onl.size
      have hszr := HG.out.1.onl.size
      have hE2' : d2 = [.string X.1] := hE2
      obtain rfl : v2 = .string X.1 := by
        rw [hE2'] at hv2
        injection hv2 with e _
        exact e.symm
      subst hE2'
      clear hv2
      have HG2 : Hid (Gl EStr 9 1 w w2 b p c ws (.slice q5 l.length k5) l X.2 ∧ Els EStr w2 (fun k => w.heap.size ≤ k ∧ (Value.slice q5 l.length k5).ownBlock ≠ some k) l L ∧ EStr w2 (fun k => w.heap.size ≤ k ∧ (Value.slice q5 l.length k5).ownBlock ≠ some k) X.1 [.string X.1]) := by
        refine ⟨G2, hels, eStr.imp (fun k hk hl => ⟨by omega, fun e => ?_⟩) hE2⟩
        obtain ⟨L1, hown1, -⟩ := HG.out.1.own
        have := (hown1.lt k e).2
        omega
      clear kb1 hP2 hO2 G2 hels hE2
      go_wp2_with (at_builtin; refine wpList_append_own_at _ rfl _ _ 22 rfl w.heap.size 9 i0 (.string ⟨#[]⟩) 1 16 Tryz.underlying22 hi hz0 hz1 hz2 rfl (by decide) _ _ _ rfl (hown.alloc _) ⟨w2.heap.size, 0, none⟩ 1 1 [.string X.1] rfl rfl ?c1 ?c2 ?c3 ?c4 ?c5 ?_)
      case c1 => exact World.news_of_block (heap_alloc_new w2 _)
      case c2 => exact eStr.ones HG2.out.2.2
      case c3 => unfold maxLen; omega
      case c4 => omega
      case c5 => simp; omega
      intro v' w5 hown5 hgr5 _ hat5
      have G5 : Gl EStr 9 1 w w5 b p c ws v' (l ++ [X.1]) X.2 := HG2.out.1.more eStr HG2.out.2.1 (x := X.1) (d := [.string X.1]) HG2.out.2.2 rfl hown5 hgr5 hat5
      have kt := tookSign_any G5.ps hz ⟨#[44]⟩
      have hI : isW (wAt ws X.2.at') 6 ⟨#[44]⟩ = isP (wAt ws X.2.at') 6 [44] := isW_isP _ _ _
      unfold tookP at kt
      rw [hI] at kt
      obtain ⟨q6, k6, rfl⟩ := own_len hown5
      have HG5 : Hid (Gl EStr 9 1 w w5 b p c ws (.slice q6 (l.length + 1) k6) (l ++ [X.1]) X.2) := G5
      clear hown hown5 hgr5 hat5 G5 hI HG2
      by_cases hy : isP (wAt ws X.2.at') 6 [44] = true
      · rw [hy, if_pos rfl] at kt
        have hlo : comF ws F m (l ++ [X.1]) (takeP X.2) = V := by
          have := HG.out.2.1
          rw [if_pos hy] at this
          exact this
        have hpk3 := (HG.out.2.2.is hz hy (by decide)).less
        have H3 : Hid (comF ws F m (l ++ [X.1]) (takeP X.2) = V ∧ Pk 0 0 ws s (takeP X.2)) := ⟨hlo, hpk3⟩
        clear hlo hpk3 hy HG
        go_wp2_with fail
        refine kt.mono ?_
        rintro r w6 ⟨rfl, hP6, hO6⟩
        have G6 := HG5.out.calls eStr hO6 hP6
        have HG6 : Hid (Gl EStr 9 1 w w6 b p c ws (.slice q6 (l.length + 1) k6) (l ++ [X.1]) (takeP X.2)) := G6
        clear kt hP6 hO6 G6 HG5
        go_wp2_with fail
        go_roundw
        case rel =>
          refine ⟨m, l ++ [X.1], takeP X.2, ⟨by simp; omega, by omega⟩, ⟨q6, k6, by simp⟩, ?_⟩
          have hh : Gl EStr 9 1 w w6 b p c ws (.slice q6 (l.length + 1) k6) (l ++ [X.1]) (takeP X.2) ∧ comF ws F m (l ++ [X.1]) (takeP X.2) = V ∧ Pk 0 0 ws s (takeP X.2) := ⟨HG6.out, H3.out.1, H3.out.2⟩
          exact hh
        case measure =>
          simp only [lenOf]
          omega
      · have hf : isP (wAt ws X.2.at') 6 [44] = false := by simpa using hy
        rw [hf, if_neg Bool.false_ne_true] at kt
        have hlo : (l ++ [X.1], X.2) = V := by
          have := HG.out.2.1
          rw [if_neg hy] at this
          exact this
        subst hlo
        clear hy hf HG
        go_wp2_with fail
        refine kt.mono ?_
        rintro r w6 ⟨rfl, hP6, hO6⟩
        have G6 := HG5.out.calls eStr hO6 hP6
        have HG6 : Hid (Gl EStr 9 1 w w6 b p c ws (.slice q6 (l.length + 1) k6) (l ++ [X.1]) X.2) := G6
        clear kt hP6 hO6 G6 HG5
        go_wp2
        go_ret
        exact ⟨_, rfl, HG6.out⟩
end Go.Proofs.YtfemippjaokcmaaGreatDoor
namespace Go.Proofs.YtfemippjaokcmaaGreatDoor
open Go.RowKit Go.Shelf
attribute [local go_sem] Oper.semAt_some fw0 fw1 fw2
def zero11 : Array Value := #[.string ⟨#[]⟩, .int .i64 0, .string ⟨#[]⟩, .int .i64 0, .bool false, .int .i64 0, .string ⟨#[]⟩, .slice none 0 0, .slice none 0 0, .slice none 0 0, .slice none 0 0]
theorem i98 {V : Array Value} (h : V.size = 11) : (Tryz.prog.info? 158).map (·.size) = some V.size := info98.trans (congrArg some h.symm)
set_option maxRecDepth 100000 in
set_option maxHeartbeats 8000000 in
theorem expression_any {w : World} {b : Nat} {p : Option Addr} {c : Nat} {ws : List Wd} {s : PS} (H : Ps w b p c ws s) (X : Et × PS)
    (kb : ∀ W, Ps W b p c ws s → Calls Tryz.prog 145 #[.pointer (some ⟨b, 0, none⟩), .int .i64 0] W (Gives ws (fun k => W.heap.size ≤ k) W b p c X)) :
    Calls Tryz.prog 120 #[.pointer (some ⟨b, 0, none⟩)] w (Gives ws (fun k => w.heap.size ≤ k) w b p c X) := by
  have hold := H.old
  have lb := lt_of_row H.row
  obtain ⟨w1, hw1⟩ : ∃ w1, w.alloc (.cells #[.int .i64 0, .string ⟨#[]⟩, .int .i64 0, .bool false, .int .i64 0, .string ⟨#[]⟩, .slice none 0 0, .slice none 0 0, .slice none 0 0, .slice none 0 0] 28) = w1 := ⟨_, rfl⟩
  have hb1 : Below w.heap.size w w1 := by rw [← hw1]; exact (Below.refl _ w).alloc (Nat.le_refl _) _
  have hs1 : w1.heap.size = w.heap.size + 1 := by rw [← hw1]; simp
  have rz1 : w1.heap[w.heap.size]? = some (.cells zero10 28 (0, 0)) := by rw [← hw1]; exact heap_alloc_new _ _
  have k1 := kb w1 (H.later hb1)
  have HB : Hid (Below w.heap.size w w1) := hb1
  clear H hb1 kb
  go_enter Tryz.func120, Tryz.ntmps120
  go_wp2_with fail
  refine k1.mono ?_
  rintro q w6 ⟨d6, v6, rfl, hL6, hP6, hO6⟩
  have s6 := hO6.size
  have rz6 := (hO6.block _ (by omega) (by omega)).trans rz1
  obtain ⟨V, rfl, h10, hon⟩ := hL6.agg
  have H6 : Hid (LiesE w6 (fun k => w1.heap.size ≤ k) d6 X.1 (.agg V) ∧ Ps w6 b p c ws X.2 ∧ Onl b w1 w6 ∧ w6.heap[w.heap.size]? = some (.cells zero10 28 (0, 0)) ∧ V.size = 10 ∧ V.all (·.oneCell') = true) := ⟨hL6, hP6, hO6, rz6, h10, hon⟩
  clear k1 hL6 hP6 hO6 rz6 rz1 hw1 h10 hon
  go_wp2_with (refine wpList_put rfl 28 (.tmp 2) (.tmp 4) rfl rfl rfl rfl H6.out.2.2.2.1 H6.out.2.2.2.2.1 (i28 H6.out.2.2.2.2.1) H6.out.2.2.2.2.2 ?_)
  obtain ⟨hL6, hP6, hO6, rz6, h10, hon⟩ := H6.out
  refine bodyPost_ret (results_cell_row Tryz.results120 _ _ w.heap.size 28 _ (0, 0) _ rfl (put_row V rz6 h10) Tryz.underlying28 rfl (i28 h10)) rfl ⟨d6, .agg V, rfl, ?_, hP6.put lb hold V, ?_⟩
  · exact (hL6.since (Since.put (by omega) w6 _)).imp fun k hk _ => by omega
  · exact ((Onl.of HB.out).trans hO6).put _ (Nat.le_refl _) _
/- What a function of a name and its expression answers. -/
def GivesF (ws : List Wd) (w : World) (b : Nat) (p : Option Addr) (c : Nat) (x : (ByteArray × Et) × PS) (r : Ending) (w' : World) : Prop :=
  ∃ v d, r = .returned v ∧ v = .agg d.toArray ∧ EFld w' (fun k => w.heap.size ≤ k) x.1 d ∧ Ps w' b p c ws x.2 ∧ Onl b w w'
set_option maxRecDepth 100000 in
set_option maxHeartbeats 8000000 in
theorem named_any {w : World} {b : Nat} {p : Option Addr} {c : Nat} {ws : List Wd} {s : PS} (H : Ps w b p c ws s) (hz : Wz ws) (l : List UInt8) (F : PS → Et × PS)
    (kb : ∀ W, Ps W b p c ws (mustQ ws (nameP ws s) 6 l) → Calls Tryz.prog 120 #[.pointer (some ⟨b, 0, none⟩)] W (Gives ws (fun k => W.heap.size ≤ k) W b p c (F (mustQ ws (nameP ws s) 6 l)))) :
    Calls Tryz.prog 147 #[.pointer (some ⟨b, 0, none⟩), .string ⟨l.toArray⟩] w (GivesF ws w b p c (namedF ws F l s)) := by
  have hold := H.old
  have lb := lt_of_row H.row
  obtain ⟨w1, hw1⟩ : ∃ w1, w.alloc (.cells #[.string ⟨#[]⟩, .int .i64 0, .string ⟨#[]⟩, .int .i64 0, .bool false, .int .i64 0, .string ⟨#[]⟩, .slice none 0 0, .slice none 0 0, .slice none 0 0, .slice none 0 0] 158) = w1 := ⟨_, rfl⟩
  have hb1 : Below w.heap.size w w1 := by rw [← hw1]; exact (Below.refl _ w).alloc (Nat.le_refl _) _
  have hs1 : w1.heap.size = w.heap.size + 1 := by rw [← hw1]; simp
  have rz1 : w1.heap[w.heap.size]? = some (.cells zero11 158 (0, 0)) := by rw [← hw1]; exact heap_alloc_new _ _
  unfold namedF
  have k1 := pname_any (H.later hb1) hz
  obtain ⟨X, hX⟩ : ∃ X, F (mustQ ws (nameP ws s) 6 l) = X := ⟨_, rfl⟩
  rw [hX] at kb ⊢
  obtain ⟨x, hx⟩ : ∃ x, nameS ws s = x := ⟨_, rfl⟩
  rw [hx] at k1 ⊢
  have HB : Hid (Below w.heap.size w w1) := hb1
  have HM : Hid (mustP ws (nameP ws s) 6 ⟨l.toArray⟩ = mustQ ws (nameP ws s) 6 l) := mustP_mustQ _ _ _ _
  obtain ⟨bt, hbt⟩ : ∃ bt : ByteArray, ⟨l.toArray⟩ = bt := ⟨_, rfl⟩
  rw [hbt] at HM ⊢
  clear H hb1 hX hx hbt
  go_enter Tryz.func147, Tryz.ntmps147
  go_wp2_with fail
  refine k1.mono ?_
  rintro q w2 ⟨rfl, hP2, hO2⟩
  have s2 := hO2.size
  have rz2 := (hO2.block _ (by omega) (by omega)).trans rz1
  have k2 := psign_any hP2 hz bt
  rw [HM.out] at k2
  have HO2 : Hid (Onl b w1 w2) := hO2
  clear k1 hP2 hO2 rz1 hw1
  go_wp2_with fail
  refine k2.mono ?_
  rintro q w3 ⟨rfl, hP3, hO3⟩
  have s3 := hO3.size
  have rz3 := (hO3.block _ (by omega) (by omega)).trans rz2
  have k3 := kb w3 hP3
  have HO3 : Hid (Onl b w2 w3) := hO3
  clear k2 hP3 hO3 rz2 kb
  go_wp2_with fail
  refine k3.mono ?_
  rintro q w6 ⟨d6, v6, rfl, hL6, hP6, hO6⟩
  have s6 := hO6.size
  have rz6 := (hO6.block _ (by omega) (by omega)).trans rz3
  obtain ⟨R, rfl⟩ := hL6.row
  have H6 : Hid (LiesE w6 (fun k => w3.heap.size ≤ k) d6 X.1 (rowX R) ∧ Ps w6 b p c ws X.2 ∧ Onl b w3 w6 ∧ w6.heap[w.heap.size]? = some (.cells zero11 158 (0, 0))) := ⟨hL6, hP6, hO6, rz6⟩
  clear k3 hL6 hP6 hO6 rz6 rz3 HM
  unfold rowX
  go_wp2_with (refine wpList_put rfl 158 (.tmp 4) (.tmp 14) rfl rfl rfl rfl H6.out.2.2.2 rfl info98 (by simp [Value.oneCell']) ?_)
  obtain ⟨hL6, hP6, hO6, rz6⟩ := H6.out
  refine bodyPost_ret (results_cell_row Tryz.results147 _ _ w.heap.size 158 _ (0, 0) _ rfl (put_row _ rz6 rfl) Tryz.underlying158 rfl info98) rfl ⟨_, [.string x, .int .i64 R.k, .string R.s, .int .i64 R.vk, .bool R.vb, .int .i64 R.vn, .string R.vs, .slice none 0 0, .slice none 0 0, .slice R.kp R.n R.kc, .slice R.np R.m R.nc], rfl, rfl, ?_, hP6.put lb hold _, ?_⟩
  · exact ⟨_, rfl, d6, (hL6.since (Since.put (by omega) w6 _)).imp fun k hk _ => by omega⟩
  · exact ((((Onl.of HB.out).trans HO2.out).trans HO3.out).trans hO6).put _ (Nat.le_refl _) _
set_option maxRecDepth 100000 in
set_option maxHeartbeats 8000000 in
theorem part_any {w : World} {b : Nat} {p : Option Addr} {c : Nat} {ws : List Wd} {s : PS} (H : Ps w b p c ws s) (X : (ByteArray × Et) × PS)
    (kb : ∀ W, Ps W b p c ws s → Calls Tryz.prog 147 #[.pointer (some ⟨b, 0, none⟩), .string ⟨#[58]⟩] W (GivesF ws W b p c X)) :
    Calls Tryz.prog 199 #[.pointer (some ⟨b, 0, none⟩)] w (GivesF ws w b p c X) := by
  have hold := H.old
  have lb := lt_of_row H.row
  obtain ⟨w1, hw1⟩ : ∃ w1, w.alloc (.cells #[.string ⟨#[]⟩, .int .i64 0, .string ⟨#[]⟩, .int .i64 0, .bool false, .int .i64 0, .string ⟨#[]⟩, .slice none 0 0, .slice none 0 0, .slice none 0 0, .slice none 0 0] 158) = w1 := ⟨_, rfl⟩
  have hb1 : Below w.heap.size w w1 := by rw [← hw1]; exact (Below.refl _ w).alloc (Nat.le_refl _) _
  have hs1 : w1.heap.size = w.heap.size + 1 := by rw [← hw1]; simp
  have rz1 : w1.heap[w.heap.size]? = some (.cells zero11 158 (0, 0)) := by rw [← hw1]; exact heap_alloc_new _ _
  have k1 := kb w1 (H.later hb1)
  have HB : Hid (Below w.heap.size w w1) := hb1
  clear H hb1 kb
  go_enter Tryz.func199, Tryz.ntmps199
  go_wp2_with fail
  refine k1.mono ?_
  rintro q w6 ⟨v6, d6, rfl, hv6, hE6, hP6, hO6⟩
  have s6 := hO6.size
  have rz6 := (hO6.block _ (by omega) (by omega)).trans rz1
  have h11 := eFld.len hE6
  have hon : d6.toArray.all (·.oneCell') = true := all_oneCell_toArray (eFld.ones hE6)
  subst hv6
  obtain ⟨V, hV⟩ : ∃ V, d6.toArray = V := ⟨_, rfl⟩
  have h11' : V.size = 11 := by rw [← hV]; simpa using h11
  rw [hV] at hon ⊢
  have H6 : Hid (EFld w6 (fun k => w1.heap.size ≤ k) X.1 d6 ∧ Ps w6 b p c ws X.2 ∧ Onl b w1 w6 ∧ w6.heap[w.heap.size]? = some (.cells zero11 158 (0, 0)) ∧ V.size = 11 ∧ V.all (·.oneCell') = true ∧ d6.toArray = V) := ⟨hE6, hP6, hO6, rz6, h11', hon, hV⟩
  clear k1 hE6 hP6 hO6 rz6 rz1 hw1 h11 h11' hon hV
  go_wp2_with (refine wpList_put rfl 158 (.tmp 2) (.tmp 4) rfl rfl rfl rfl H6.out.2.2.2.1 H6.out.2.2.2.2.1 (i98 H6.out.2.2.2.2.1) H6.out.2.2.2.2.2.1 ?_)
  obtain ⟨hE6, hP6, hO6, rz6, h11, hon, hV⟩ := H6.out
  refine bodyPost_ret (results_cell_row Tryz.results199 _ _ w.heap.size 158 _ (0, 0) _ rfl (put_row V rz6 h11) Tryz.underlying158 rfl (i98 h11)) rfl ⟨.agg V, d6, rfl, by rw [hV], ?_, hP6.put lb hold V, ?_⟩
  · exact eFld.imp (fun k hk _ => by omega) (eFld.since hE6 (Since.put (by omega) w6 V))
  · exact ((Onl.of HB.out).trans hO6).put _ (Nat.le_refl _) _
set_option maxRecDepth 100000 in
set_option maxHeartbeats 8000000 in
theorem assignment_any {w : World} {b : Nat} {p : Option Addr} {c : Nat} {ws : List Wd} {s : PS} (H : Ps w b p c ws s) (X : (ByteArray × Et) × PS)
    (kb : ∀ W, Ps W b p c ws s → Calls Tryz.prog 147 #[.pointer (some ⟨b, 0, none⟩), .string ⟨#[61]⟩] W (GivesF ws W b p c X)) :
    Calls Tryz.prog 123 #[.pointer (some ⟨b, 0, none⟩)] w (GivesF ws w b p c X) := by
  have hold := H.old
  have lb := lt_of_row H.row
  obtain ⟨w1, hw1⟩ : ∃ w1, w.alloc (.cells #[.string ⟨#[]⟩, .int .i64 0, .string ⟨#[]⟩, .int .i64 0, .bool false, .int .i64 0, .string ⟨#[]⟩, .slice none 0 0, .slice none 0 0, .slice none 0 0, .slice none 0 0] 158) = w1 := ⟨_, rfl⟩
  have hb1 : Below w.heap.size w w1 := by rw [← hw1]; exact (Below.refl _ w).alloc (Nat.le_refl _) _
  have hs1 : w1.heap.size = w.heap.size + 1 := by rw [← hw1]; simp
  have rz1 : w1.heap[w.heap.size]? = some (.cells zero11 158 (0, 0)) := by rw [← hw1]; exact heap_alloc_new _ _
  have k1 := kb w1 (H.later hb1)
  have HB : Hid (Below w.heap.size w w1) := hb1
  clear H hb1 kb
  go_enter Tryz.func123, Tryz.ntmps123
  go_wp2_with fail
  refine k1.mono ?_
  rintro q w6 ⟨v6, d6, rfl, hv6, hE6, hP6, hO6⟩
  have s6 := hO6.size
  have rz6 := (hO6.block _ (by omega) (by omega)).trans rz1
  have h11 := eFld.len hE6
  have hon : d6.toArray.all (·.oneCell') = true := all_oneCell_toArray (eFld.ones hE6)
  subst hv6
  obtain ⟨V, hV⟩ : ∃ V, d6.toArray = V := ⟨_, rfl⟩
  have h11' : V.size = 11 := by rw [← hV]; simpa using h11
  rw [hV] at hon ⊢
  have H6 : Hid (EFld w6 (fun k => w1.heap.size ≤ k) X.1 d6 ∧ Ps w6 b p c ws X.2 ∧ Onl b w1 w6 ∧ w6.heap[w.heap.size]? = some (.cells zero11 158 (0, 0)) ∧ V.size = 11 ∧ V.all (·.oneCell') = true ∧ d6.toArray = V) := ⟨hE6, hP6, hO6, rz6, h11', hon, hV⟩
  clear k1 hE6 hP6 hO6 rz6 rz1 hw1 h11 h11' hon hV
  go_wp2_with (refine wpList_put rfl 158 (.tmp 2) (.tmp 4) rfl rfl rfl rfl H6.out.2.2.2.1 H6.out.2.2.2.2.1 (i98 H6.out.2.2.2.2.1) H6.out.2.2.2.2.2.1 ?_)
  obtain ⟨hE6, hP6, hO6, rz6, h11, hon, hV⟩ := H6.out
  refine bodyPost_ret (results_cell_row Tryz.results123 _ _ w.heap.size 158 _ (0, 0) _ rfl (put_row V rz6 h11) Tryz.underlying158 rfl (i98 h11)) rfl ⟨.agg V, d6, rfl, by rw [hV], ?_, hP6.put lb hold V, ?_⟩
  · exact eFld.imp (fun k hk _ => by omega) (eFld.since hE6 (Since.put (by omega) w6 V))
  · exact ((Onl.of HB.out).trans hO6).put _ (Nat.le_refl _) _
end Go.Proofs.YtfemippjaokcmaaGreatDoor
namespace Go.Proofs.YtfemippjaokcmaaGreatDoor
open Go.RowKit Go.Shelf
attribute [local go_sem] Oper.semAt_some fw0 fw1 fw2
/- Two lists of one's own of unlike types lie apart. -/
theorem own_apart {w : World} {base T U y z : Nat} {v u : Value} {n m : Nat} {L K : List Value} (h : w.ownsRow base T y v n L) (k : w.ownsRow base U z u m K) (hne : T ≠ U) : v.ownBlock = none ∨ v.ownBlock ≠ u.ownBlock := by
  rcases h.2 with ⟨hv, _⟩ | ⟨g, cap, cur, hv, _, hr, _⟩
  · left; rw [hv]; rfl
  · right
    rcases k.2 with ⟨hu, _⟩ | ⟨g2, cap2, cur2, hu, _, hr2, _⟩
    · rw [hv, hu]; intro e; cases e
    · rw [hv, hu]
      intro e
      have e' : g = g2 := by injection e
      subst e'
      rw [hr] at hr2
      injection hr2 with e2
      injection e2 with _ e3
      exact hne e3
theorem take_more {α : Type} : ∀ (l : List α) (i : Nat) (x : α), l[i]? = some x → l.take (i + 1) = l.take i ++ [x]
  | [], i, x, h => by simp at h
  | y :: l, 0, x, h => by
    have e : y = x := by simpa using h
    simp [e]
  | y :: l, i + 1, x, h => by
    have := take_more l i x (by simpa using h)
    simp [this]
def GivesA (w : World) (S : Nat → Prop) (l : List (ByteArray × Et)) (r : Ending) (w' : World) : Prop :=
  ∃ v1 v2 L1 L2, r = .returned (.tuple #[v1, v2]) ∧ w'.ownsRow w.heap.size 9 1 v1 l.length L1 ∧ Els EStr w' (fun _ => True) (l.map (·.1)) L1 ∧ w'.ownsRow w.heap.size 28 10 v2 l.length L2 ∧ Els EExp w' S (l.map (·.2)) L2 ∧ Below w.heap.size w w'
theorem elsStr {w : World} {R S : Nat → Prop} : ∀ {l : List ByteArray} {L : List Value}, Els EStr w S l L → Els EStr w R l L
  | [], _, h => h
  | _ :: _, _, ⟨c, r, h1, h2, h3⟩ => ⟨c, r, h1, h2, elsStr h3⟩
set_option maxRecDepth 100000 in
set_option maxHeartbeats 8000000 in
theorem apart_any {w : World} {base : Nat} {v : Value} {l : List (ByteArray × Et)} {L : List Value} {S : Nat → Prop} (hown : w.ownsRow base 158 11 v l.length L) (hels : Els EFld w S l L) (hS : ∀ k, S k → k < w.heap.size) (hl : l.length ≤ 33) :
    Calls Tryz.prog 121 #[v] w (GivesA w S l) := by
  have hat : ∀ i x, l[i]? = some x → ∃ g cap, v = .slice (some ⟨g, 0, none⟩) l.length cap ∧ l.length ≤ cap ∧ g < w.heap.size ∧ ∃ d, EFld w S x d ∧ ∀ j u, d[j]? = some u → w.cell? ⟨g, i * 11 + j, none⟩ = some u := by
    intro i x hi
    have hil := (List.getElem?_eq_some_iff.1 hi).1
    rcases hown.2 with ⟨_, hn⟩ | ⟨g, cap, cur, hv, hg, hr, h1, h2, h3, h4⟩
    · omega
    · refine ⟨g, cap, hv, h1, lt_of_row hr, ?_⟩
      obtain ⟨d, hd, hk⟩ := Els.at eFld hels i x hi
      refine ⟨d, hd, fun j u hu => ?_⟩
      have e := hk j u hu
      rw [← h4, List.getElem?_take] at e
      rw [cell_of_row w g _ cur _ _ hr]
      split at e
      · simpa using e
      · cases e
  obtain ⟨qv, kv, rfl⟩ := own_len hown
  have HA : Hid (∀ i x, l[i]? = some x → ∃ g cap, Value.slice qv l.length kv = .slice (some ⟨g, 0, none⟩) l.length cap ∧ l.length ≤ cap ∧ g < w.heap.size ∧ ∃ d, EFld w S x d ∧ ∀ j u, d[j]? = some u → w.cell? ⟨g, i * 11 + j, none⟩ = some u) := hat
  have HS : Hid (∀ k, S k → k < w.heap.size) := hS
  clear hown hels hat hS
  obtain ⟨i9, hi, hz0, hz1, hz2⟩ := info_parts info9
  obtain ⟨i28, hj, hy0, hy1, hy2⟩ := info_parts info28c
  go_enter Tryz.func121, Tryz.ntmps121
  go_wp2_with fail
  go_loopw [4, 5, 10] (fun c4 c5 c10 wr => ∃ i : Nat, i ≤ l.length ∧ c10 = .int .i64 (i : Int) ∧ Hid (∃ L1 L2, wr.ownsRow w.heap.size 9 1 c4 i L1 ∧ Els EStr wr (fun _ => True) ((l.map (·.1)).take i) L1 ∧ wr.ownsRow w.heap.size 28 10 c5 i L2 ∧ Els EExp wr S ((l.map (·.2)).take i) L2 ∧ Below w.heap.size w wr)) (fun _ _ c10 _ => l.length - (intOf c10).toNat)
  case atStart =>
    refine ⟨0, by omega, rfl, ?_⟩
    have hh : ∃ L1 L2, w.ownsRow w.heap.size 9 1 (.slice none 0 0) 0 L1 ∧ Els EStr w (fun _ => True) ((l.map (·.1)).take 0) L1 ∧ w.ownsRow w.heap.size 28 10 (.slice none 0 0) 0 L2 ∧ Els EExp w S ((l.map (·.2)).take 0) L2 ∧ Below w.heap.size w w := ⟨[], [], World.ownsRow_nil _ _ _ _, rfl, World.ownsRow_nil _ _ _ _, rfl, Below.refl _ _⟩
    exact hh
  case round =>
    obtain ⟨i, hi1, rfl, hh⟩ := hrel
    obtain ⟨L1, L2, o1, e1, o2, e2, hB⟩ := hh.out
    by_cases hlt : i < l.length
    · have hlt' : (i : Int) < (l.length : Int) := by omega
      obtain ⟨x, hx⟩ : ∃ x, l[i]? = some x := ⟨l[i], List.getElem?_eq_getElem hlt⟩
      obtain ⟨g, cap, ev, hcap, hg, d, hE, hcl⟩ := HA.out i x hx
      obtain ⟨e0, he0, dd, hdd⟩ := id hE
      obtain ⟨R, hR⟩ := hdd.row
      have hd0 : e0 = [.int .i64 R.k, .string R.s, .int .i64 R.vk, .bool R.vb, .int .i64 R.vn, .string R.vs, .slice none 0 0, .slice none 0 0, .slice R.kp R.n R.kc, .slice R.np R.m R.nc] := by
        unfold rowX at hR
        injection hR with hR
        have := congrArg Array.toList hR
        simpa using this
      subst hd0
      subst he0
      have eq : qv = some ⟨g, 0, none⟩ ∧ kv = cap := by injection ev with a1 a2 a3; exact ⟨a1, a3⟩
      obtain ⟨rfl, rfl⟩ := eq
      have hsz := hB.size
      have hrg : wr.rangeAt g (i * 11) [.string x.1, .int .i64 R.k, .string R.s, .int .i64 R.vk, .bool R.vb, .int .i64 R.vn, .string R.vs, .slice none 0 0, .slice none 0 0, .slice R.kp R.n R.kc, .slice R.np R.m R.nc] := fun j u hu => (cell_later hB hg).trans (hcl j u hu)
      obtain ⟨w2, hw2⟩ : ∃ w2, put (wr.alloc (.cells #[.string ⟨#[]⟩, .int .i64 0, .string ⟨#[]⟩, .int .i64 0, .bool false, .int .i64 0, .string ⟨#[]⟩, .slice none 0 0, .slice none 0 0, .slice none 0 0, .slice none 0 0] 158)) wr.heap.size #[.string x.1, .int .i64 R.k, .string R.s, .int .i64 R.vk, .bool R.vb, .int .i64 R.vn, .string R.vs, .slice none 0 0, .slice none 0 0, .slice R.kp R.n R.kc, .slice R.np R.m R.nc] = w2 := ⟨_, rfl⟩
      have r1 : (wr.alloc (.cells #[.string ⟨#[]⟩, .int .i64 0, .string ⟨#[]⟩, .int .i64 0, .bool false, .int .i64 0, .string ⟨#[]⟩, .slice none 0 0, .slice none 0 0, .slice none 0 0, .slice none 0 0] 158)).heap[wr.heap.size]? = some (.cells zero11 158 (0, 0)) := heap_alloc_new _ _
      have r2 : w2.heap[wr.heap.size]? = some (.cells #[.string x.1, .int .i64 R.k, .string R.s, .int .i64 R.vk, .bool R.vb, .int .i64 R.vn, .string R.vs, .slice none 0 0, .slice none 0 0, .slice R.kp R.n R.kc, .slice R.np R.m R.nc] 158 (0, 0)) := by rw [← hw2]; exact put_row _ r1 rfl
      have b2 : Below wr.heap.size wr w2 := by rw [← hw2]; exact put_below ((Below.refl _ wr).alloc (Nat.le_refl _) _) _ (Nat.le_refl _) _
      have s2 : w2.heap.size = wr.heap.size + 1 := by rw [← hw2, put_size]; simp
      have hsz2 : w.heap.size ≤ w2.heap.size := by omega
      have HS2 : Hid (w2.heap.size = wr.heap.size + 1) := s2
      clear s2
      have q0 := cell_of_row w2 _ 0 _ _ _ r2
      have m1 := take_more (l.map (·.1)) i x.1 (by simp [hx])
      have m2 := take_more (l.map (·.2)) i x.2 (by simp [hx])
      have HH : Hid (wr.ownsRow w.heap.size 9 1 u4 i L1 ∧ Els EStr wr (fun _ => True) ((l.map (·.1)).take i) L1 ∧ wr.ownsRow w.heap.size 28 10 u5 i L2 ∧ Els EExp wr S ((l.map (·.2)).take i) L2 ∧ Below w.heap.size w wr ∧ EFld w S x [.string x.1, .int .i64 R.k, .string R.s, .int .i64 R.vk, .bool R.vb, .int .i64 R.vn, .string R.vs, .slice none 0 0, .slice none 0 0, .slice R.kp R.n R.kc, .slice R.np R.m R.nc] ∧ (l.map (·.1)).take (i + 1) = (l.map (·.1)).take i ++ [x.1] ∧ (l.map (·.2)).take (i + 1) = (l.map (·.2)).take i ++ [x.2]) := ⟨o1, e1, o2, e2, hB, hE, m1, m2⟩
      have HR : Hid (wr.rangeAt g (i * 11) [.string x.1, .int .i64 R.k, .string R.s, .int .i64 R.vk, .bool R.vb, .int .i64 R.vn, .string R.vs, .slice none 0 0, .slice none 0 0, .slice R.kp R.n R.kc, .slice R.np R.m R.nc] ∧ (wr.alloc (.cells #[.string ⟨#[]⟩, .int .i64 0, .string ⟨#[]⟩, .int .i64 0, .bool false, .int .i64 0, .string ⟨#[]⟩, .slice none 0 0, .slice none 0 0, .slice none 0 0, .slice none 0 0] 158)).heap[wr.heap.size]? = some (.cells zero11 158 (0, 0)) ∧ w2.heap[wr.heap.size]? = some (.cells #[.string x.1, .int .i64 R.k, .string R.s, .int .i64 R.vk, .bool R.vb, .int .i64 R.vn, .string R.vs, .slice none 0 0, .slice none 0 0, .slice R.kp R.n R.kc, .slice R.np R.m R.nc] 158 (0, 0)) ∧ Below wr.heap.size wr w2) := ⟨hrg, r1, r2, b2⟩
      have o1w := own_laterN HH.out.1 b2
      have HN : Hid ((∀ u ∈ ([.string x.1] : List Value), u.oneCell' = true) ∧ i + 1 ≤ maxLen ∧ (i + 1) * 16 ≤ 140737488355328 ∧ (∀ u ∈ ([.int .i64 R.k, .string R.s, .int .i64 R.vk, .bool R.vb, .int .i64 R.vn, .string R.vs, .slice none 0 0, .slice none 0 0, .slice R.kp R.n R.kc, .slice R.np R.m R.nc] : List Value), u.oneCell' = true) ∧ (i + 1) * 160 ≤ 140737488355328) := by
        have h1 : ∀ u ∈ ([.string x.1] : List Value), u.oneCell' = true := fun u hu => by rw [List.mem_singleton] at hu; rw [hu]; rfl
        have h2 : ∀ u ∈ ([.int .i64 R.k, .string R.s, .int .i64 R.vk, .bool R.vb, .int .i64 R.vn, .string R.vs, .slice none 0 0, .slice none 0 0, .slice R.kp R.n R.kc, .slice R.np R.m R.nc] : List Value), u.oneCell' = true := by
          obtain ⟨e0, he0, hE0⟩ := HH.out.2.2.2.2.2.1
          injection he0 with _ he0
          subst he0
          exact eExp.ones hE0
        have h3 : i + 1 ≤ maxLen := by unfold maxLen; omega
        have h4 : (i + 1) * 16 ≤ 140737488355328 := by omega
        have h5 : (i + 1) * 160 ≤ 140737488355328 := by omega
        exact ⟨h1, h3, h4, h2, h5⟩
      clear o1 e1 o2 e2 hB hE m1 m2 hh hcl hx hdd hR ev hrg r1 r2 b2
      go_wp2_with (first
        | (refine wpList_load_mid rfl 158 (.tmp 12) rfl g (i * 11) rfl [.string x.1, .int .i64 R.k, .string R.s, .int .i64 R.vk, .bool R.vb, .int .i64 R.vn, .string R.vs, .slice none 0 0, .slice none 0 0, .slice R.kp R.n R.kc, .slice R.np R.m R.nc] _ HR.out.1 Tryz.underlying158 rfl info98 ?_; simp only [Act.put, List.setIfInBounds_toArray, List.set_cons_zero, List.set_cons_succ])
        | (refine wpList_put rfl 158 (.tmp 7) (.tmp 13) rfl rfl rfl rfl HR.out.2.1 rfl info98 (by simp [Value.oneCell']) ?_; rw [hw2])
        | (at_builtin; refine wpList_append_own_at _ rfl (.tmp 14) (.tmp 17) 22 rfl w.heap.size 9 i9 (.string ⟨#[]⟩) 1 16 Tryz.underlying22 hi hz0 hz1 hz2 rfl (by decide) _ _ _ rfl (o1w.alloc _) ⟨w2.heap.size, 0, none⟩ 1 1 [.string x.1] rfl rfl (World.news_of_block (heap_alloc_new w2 _)) HN.out.1 HN.out.2.1 HN.out.2.2.1 (Nat.le_trans hsz2 (by simp)) ?_))
      intro v1 w3 o1x hgr3 _ hat3
      have b3 : Below w2.heap.size w2 w3 → True := fun _ => trivial
      have hk3 : ∀ k, k < w2.heap.size → u4.ownBlock ≠ some k → w3.heap[k]? = w2.heap[k]? := fun k hk hv => (hgr3.block k (by simp; omega) (fun e => hv e.symm)).trans (Below.heap_alloc _ _ _ hk)
      have hu4 := HH.out.1.lt
      have r3 : w3.heap[wr.heap.size]? = some (.cells #[.string x.1, .int .i64 R.k, .string R.s, .int .i64 R.vk, .bool R.vb, .int .i64 R.vn, .string R.vs, .slice none 0 0, .slice none 0 0, .slice R.kp R.n R.kc, .slice R.np R.m R.nc] 158 (0, 0)) := (hk3 _ (by have := HS2.out; omega) (fun e => by have := (hu4 _ e).2; omega)).trans HR.out.2.2.1
      have hB3 : Below w.heap.size w w3 := ((HH.out.2.2.2.2.1.trans (HR.out.2.2.2.mono hsz)).alloc hsz2 _).grown hgr3 (by simp; omega) (fun k hk => (hu4 k hk).1)
      have hs3 : w2.heap.size + 1 ≤ w3.heap.size := by have := hgr3.size; simpa using this
      have o2w : w3.ownsRow w.heap.size 28 10 u5 i L2 := ((own_laterN HH.out.2.2.1 HR.out.2.2.2).alloc _).kept hgr3 (own_apart HH.out.2.2.1 HH.out.1 (by decide))
      have rg3 : w3.rangeAt wr.heap.size 1 [.int .i64 R.k, .string R.s, .int .i64 R.vk, .bool R.vb, .int .i64 R.vn, .string R.vs, .slice none 0 0, .slice none 0 0, .slice R.kp R.n R.kc, .slice R.np R.m R.nc] := fun j u hu => by
        rw [cell_of_row w3 _ _ _ _ _ r3]
        have e : (#[.string x.1, .int .i64 R.k, .string R.s, .int .i64 R.vk, .bool R.vb, .int .i64 R.vn, .string R.vs, .slice none 0 0, .slice none 0 0, .slice R.kp R.n R.kc, .slice R.np R.m R.nc] : Array Value)[1 + j]? = ([.string x.1, .int .i64 R.k, .string R.s, .int .i64 R.vk, .bool R.vb, .int .i64 R.vn, .string R.vs, .slice none 0 0, .slice none 0 0, .slice R.kp R.n R.kc, .slice R.np R.m R.nc] : List Value)[1 + j]? := by simp
        rw [e, Nat.add_comm, List.getElem?_cons_succ]
        exact hu
      have H3 : Hid (w3.rangeAt wr.heap.size 1 [.int .i64 R.k, .string R.s, .int .i64 R.vk, .bool R.vb, .int .i64 R.vn, .string R.vs, .slice none 0 0, .slice none 0 0, .slice R.kp R.n R.kc, .slice R.np R.m R.nc] ∧ w3.ownsRow w.heap.size 9 1 v1 (i + 1) (L1 ++ [.string x.1]) ∧ Below w.heap.size w w3 ∧ w3.ownsRow w.heap.size 28 10 u5 i L2 ∧ w2.heap.size + 1 ≤ w3.heap.size) := ⟨rg3, o1x, hB3, o2w, hs3⟩
      have hsz3 : w.heap.size ≤ w3.heap.size := by omega
      clear o1x hgr3 hat3 hk3 hu4 r3 hB3 rg3 o1w q0 hw2 b3 hs3
      go_wp2_with (first
        | (refine wpList_load_mid rfl 28 (.tmp 20) rfl wr.heap.size 1 rfl [.int .i64 R.k, .string R.s, .int .i64 R.vk, .bool R.vb, .int .i64 R.vn, .string R.vs, .slice none 0 0, .slice none 0 0, .slice R.kp R.n R.kc, .slice R.np R.m R.nc] _ H3.out.1 Tryz.underlying28 rfl info28 ?_; simp only [Act.put, List.setIfInBounds_toArray, List.set_cons_zero, List.set_cons_succ])
        | (at_builtin; refine wpList_append_own_at _ rfl (.tmp 19) (.tmp 22) 26 rfl w.heap.size 28 i28 (.agg #[.int .i64 0, .string ⟨#[]⟩, .int .i64 0, .bool false, .int .i64 0, .string ⟨#[]⟩, .slice none 0 0, .slice none 0 0, .slice none 0 0, .slice none 0 0]) 10 160 Tryz.underlying26 hj hy0 hy1 hy2 rfl (by decide) _ _ _ rfl (o2w.alloc _) ⟨w3.heap.size, 0, none⟩ 1 1 [.int .i64 R.k, .string R.s, .int .i64 R.vk, .bool R.vb, .int .i64 R.vn, .string R.vs, .slice none 0 0, .slice none 0 0, .slice R.kp R.n R.kc, .slice R.np R.m R.nc] rfl rfl (World.news_of_block (heap_alloc_new w3 _)) HN.out.2.2.2.1 HN.out.2.1 HN.out.2.2.2.2 (Nat.le_trans hsz3 (by simp)) ?_))
      intro v2 w4 o2x hgr4 _ hat4
      have hu5 := H3.out.2.2.2.1.lt
      have hB4 : Below w.heap.size w w4 := (H3.out.2.2.1.alloc hsz3 _).grown hgr4 (by simp; omega) (fun k hk => (hu5 k hk).1)
      have o1y : w4.ownsRow w.heap.size 9 1 v1 (i + 1) (L1 ++ [.string x.1]) := (H3.out.2.1.alloc _).kept hgr4 (own_apart H3.out.2.1 H3.out.2.2.2.1 (by decide))
      have hgr4s : Hid (w3.heap.size + 1 ≤ w4.heap.size) := by
        have h := hgr4.size
        have h2 : w3.heap.size + 1 ≤ w4.heap.size := by simpa using h
        exact h2
      have HE : Hid (w4.ownsRow w.heap.size 9 1 v1 (i + 1) (L1 ++ [.string x.1]) ∧ w4.ownsRow w.heap.size 28 10 v2 (i + 1) (L2 ++ [.int .i64 R.k, .string R.s, .int .i64 R.vk, .bool R.vb, .int .i64 R.vn, .string R.vs, .slice none 0 0, .slice none 0 0, .slice R.kp R.n R.kc, .slice R.np R.m R.nc]) ∧ Below w.heap.size w w4) := ⟨o1y, o2x, hB4⟩
      clear o2x hgr4 hat4 hu5 hB4 o1y o2w
      go_wp2_with fail
      go_roundw
      case rel =>
        refine ⟨i + 1, by omega, by go_num, ?_⟩
        obtain ⟨o1, e1, o2, e2, hB, hE, m1, m2⟩ := HH.out
        obtain ⟨o1y, o2y, hB4⟩ := HE.out
        obtain ⟨e0, he0, hE0⟩ := hE
        injection he0 with _ he0
        subst he0
        have hS1 : Since S w w4 := Since.below hB4
        have hS0 : Since S wr w4 := ⟨Nat.le_trans (Nat.le_trans HR.out.2.2.2.size (Nat.le_succ _)) (Nat.le_trans H3.out.2.2.2.2 (by have := hgr4s.out; omega)), fun k hk _ => (hB4.block k (HS.out k hk)).trans (hB.block k (HS.out k hk)).symm⟩
        have hh : ∃ L1 L2, w4.ownsRow w.heap.size 9 1 v1 (i + 1) L1 ∧ Els EStr w4 (fun _ => True) ((l.map (·.1)).take (i + 1)) L1 ∧ w4.ownsRow w.heap.size 28 10 v2 (i + 1) L2 ∧ Els EExp w4 S ((l.map (·.2)).take (i + 1)) L2 ∧ Below w.heap.size w w4 := by
          refine ⟨_, _, o1y, ?_, o2y, ?_, hB4⟩
          · rw [m1]
            exact Els.app (E := EStr) rfl (Els.imp eStr (R := fun _ => True) (fun _ _ _ => trivial) (Els.since eStr (S := fun _ => False) ⟨hS0.size, fun _ hk _ => hk.elim⟩ (elsStr e1)))
          · rw [m2]
            exact Els.app (eExp.since hE0 hS1) (e2.since eExp hS0)
        exact hh
      case measure => simp [intOf]; omega
    · obtain rfl : i = l.length := by omega
      have hlt' : ¬ ((l.length : Int) < (l.length : Int)) := by omega
      have HH : Hid (wr.ownsRow w.heap.size 9 1 u4 l.length L1 ∧ Els EStr wr (fun _ => True) (l.map (·.1)) L1 ∧ wr.ownsRow w.heap.size 28 10 u5 l.length L2 ∧ Els EExp wr S (l.map (·.2)) L2 ∧ Below w.heap.size w wr) := by
        rw [List.take_of_length_le (by simp)] at e1 e2
        exact ⟨o1, e1, o2, e2, hB⟩
      clear o1 e1 o2 e2 hB hh
      go_wp2
      go_ret2
      exact ⟨_, _, L1, L2, rfl, HH.out⟩
end Go.Proofs.YtfemippjaokcmaaGreatDoor
