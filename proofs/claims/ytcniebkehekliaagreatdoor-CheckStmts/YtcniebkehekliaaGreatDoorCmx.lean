/- Expressions with commas between them (commas). Parts of a struct with commas between them (commas). Fields of SET with commas between them (commas). Texts with commas between them (commas of paths). -/
import Derived.Test.YtcniebkehekliaaGreatDoorPat
namespace Go.Proofs.YtcniebkehekliaaGreatDoor
open Go.RowKit Go.Shelf
attribute [local go_sem] Oper.semAt_some fw0 fw1 fw2
theorem info28c : (Tryz.prog.info? 28).map (fun i => (i.zero, i.size, i.bytes)) = some (some (.agg #[.int .i64 0, .string ⟨#[]⟩, .int .i64 0, .bool false, .int .i64 0, .string ⟨#[]⟩, .slice none 0 0, .slice none 0 0, .slice none 0 0, .slice none 0 0]), 10, 160) := by kernel_rfl
set_option maxRecDepth 100000 in
set_option maxHeartbeats 8000000 in
theorem commasE_any {w : World} {b : Nat} {p : Option Addr} {c : Nat} {ws : List Wd} {s : PS} (H : Ps w b p c ws s) (hz : Wz ws) (F : PS → Et × PS) (hF : ∀ u, u.at' < ws.length → Pk 0 0 ws u (F u).2)
    (kb : ∀ W u, Ps W b p c ws u → Pk 0 0 ws s u → Calls Tryz.prog 81 #[.pointer (some ⟨b, 0, none⟩)] W fun r w' => ∃ v d, r = .returned v ∧ v = .agg d.toArray ∧ EExp w' (fun k => W.heap.size ≤ k) (F u).1 d ∧ Ps w' b p c ws (F u).2 ∧ Onl b W w') :
    Calls Tryz.prog 164 #[.pointer (some ⟨b, 0, none⟩), .func (.func 81) #[.pointer (some ⟨b, 0, none⟩)] #[]] w fun r w' => ∃ v, r = .returned v ∧ Gl EExp 28 10 w w' b p c ws v (comF ws F 33 [] s).1 (comF ws F 33 [] s).2 := by
  obtain ⟨V, hV⟩ : ∃ V, comF ws F 33 [] s = V := ⟨_, rfl⟩
  rw [hV]
  have HV : Hid (comF ws F 33 [] s = V ∧ Ps w b p c ws s) := ⟨hV, H⟩
  have HF : Hid (∀ u, u.at' < ws.length → Pk 0 0 ws u (F u).2) := hF
  clear H hV hF
  obtain ⟨i0, hi, hz0, hz1, hz2⟩ := info_parts info28c
  go_enter Tryz.func164, Tryz.ntmps164
  go_wp2_with fail
  go_loopw [5] (fun c5 wr => ∃ n l t, (n + l.length = 33 ∧ 0 < n) ∧ (∃ q k, c5 = .slice q l.length k) ∧ Hid (Gl EExp 28 10 w wr b p c ws c5 l t ∧ comF ws F n l t = V ∧ Pk 0 0 ws s t)) (fun c5 _ => 33 - lenOf c5)
  case atStart =>
    refine ⟨33, [], s, ⟨rfl, by decide⟩, ⟨none, 0, rfl⟩, ?_⟩
    have hh : Gl EExp 28 10 w w b p c ws (.slice none 0 0) [] s ∧ comF ws F 33 [] s = V ∧ Pk 0 0 ws s s := ⟨Gl.start _ _ _ HV.out.2, HV.out.1, Pk.refl HV.out.2.lt⟩
    exact hh
  case round =>
    obtain ⟨n, l, t, ⟨hn, hn0⟩, ⟨q5, k5, rfl⟩, hh⟩ := hrel
    obtain ⟨G, hlo, hpk⟩ := hh.out
    by_cases h32 : l.length = 32
    · obtain rfl : n = 1 := by omega
      have hlo2 : ([], failP ws t 3) = V := by
        unfold comF at hlo
        rw [if_pos h32] at hlo
        exact hlo
      have kf := fail_any G.ps 3
      have HG : Hid (Gl EExp 28 10 w wr b p c ws (.slice q5 l.length k5) l t) := G
      have h32' : (l.length : Int) = 32 := by omega
      subst hlo2
      clear hlo G hpk hh h32 HV
      go_wp2_with fail
      refine kf.mono ?_
      rintro r w2 ⟨rfl, hP2, hO2⟩
      have HG2 : Hid (Ps w2 b p c ws (failP ws t 3) ∧ Onl b wr w2) := ⟨hP2, hO2⟩
      clear kf hP2 hO2
      go_wp2
      go_ret
      exact ⟨_, rfl, ⟨[], World.ownsRow_nil _ _ _ _, rfl⟩, HG.out.onl.trans HG2.out.2, HG2.out.1, HG.out.lb, HG.out.old⟩
    · obtain ⟨m, rfl⟩ : ∃ m, n = m + 1 := ⟨n - 1, by omega⟩
      unfold comF at hlo
      rw [if_neg h32] at hlo
      have h32' : ¬ (l.length : Int) = 32 := by omega
      have kb1 := kb wr t G.ps hpk
      have hpk2 := hpk.trans (HF.out t G.ps.lt)
      obtain ⟨X, hX⟩ : ∃ X, F t = X := ⟨_, rfl⟩
      rw [hX] at kb1 hlo hpk2
      have HG : Hid (Gl EExp 28 10 w wr b p c ws (.slice q5 l.length k5) l t ∧ (if isP (wAt ws X.2.at') 6 [44] = true then comF ws F m (l ++ [X.1]) (takeP X.2) else (l ++ [X.1], X.2)) = V ∧ Pk 0 0 ws s X.2) := ⟨G, hlo, hpk2⟩
      have hlw : l.length ≤ 32 := by omega
      clear hlo G hpk hpk2 hh hX HV h32
      go_wp2_with fail
      refine kb1.mono ?_
      rintro r w2 ⟨v2, d2, rfl, hv2, hE2, hP2, hO2⟩
      have G2 := HG.out.1.calls eExp hO2 hP2
      obtain ⟨L, hown, hels⟩ := G2.own
      have hsz := G2.onl.size
      have hszr := HG.out.1.onl.size
      obtain ⟨dd, hdd⟩ := id hE2
      obtain ⟨R, hR⟩ := hdd.row
      have hd2 : d2 = [.int .i64 R.k, .string R.s, .int .i64 R.vk, .bool R.vb, .int .i64 R.vn, .string R.vs, .slice none 0 0, .slice none 0 0, .slice R.kp R.n R.kc, .slice R.np R.m R.nc] := by
        unfold rowX at hR
        injection hR with hR
        have := congrArg Array.toList hR
        simpa using this
      subst hd2
      subst hv2
      clear hdd hR
      have HG2 : Hid (Gl EExp 28 10 w w2 b p c ws (.slice q5 l.length k5) l X.2 ∧ Els EExp w2 (fun k => w.heap.size ≤ k ∧ (Value.slice q5 l.length k5).ownBlock ≠ some k) l L ∧ EExp w2 (fun k => w.heap.size ≤ k ∧ (Value.slice q5 l.length k5).ownBlock ≠ some k) X.1 [.int .i64 R.k, .string R.s, .int .i64 R.vk, .bool R.vb, .int .i64 R.vn, .string R.vs, .slice none 0 0, .slice none 0 0, .slice R.kp R.n R.kc, .slice R.np R.m R.nc]) := by
        refine ⟨G2, hels, eExp.imp (fun k hk hl => ⟨by omega, fun e => ?_⟩) hE2⟩
        obtain ⟨L1, hown1, -⟩ := HG.out.1.own
        have := (hown1.lt k e).2
        omega
      clear kb1 hP2 hO2 G2 hels hE2
      go_wp2_with (at_builtin; refine wpList_append_own_at _ rfl _ _ 26 rfl w.heap.size 28 i0 (.agg #[.int .i64 0, .string ⟨#[]⟩, .int .i64 0, .bool false, .int .i64 0, .string ⟨#[]⟩, .slice none 0 0, .slice none 0 0, .slice none 0 0, .slice none 0 0]) 10 160 Tryz.underlying26 hi hz0 hz1 hz2 rfl (by decide) _ _ _ rfl (hown.alloc _) ⟨w2.heap.size, 0, none⟩ 1 1 [.int .i64 R.k, .string R.s, .int .i64 R.vk, .bool R.vb, .int .i64 R.vn, .string R.vs, .slice none 0 0, .slice none 0 0, .slice R.kp R.n R.kc, .slice R.np R.m R.nc] rfl rfl ?c1 ?c2 ?c3 ?c4 ?c5 ?_)
      case c1 => exact World.news_of_block (heap_alloc_new w2 _)
      case c2 => exact eExp.ones HG2.out.2.2
      case c3 => unfold maxLen; omega
      case c4 => omega
      case c5 => simp; omega
      intro v' w5 hown5 hgr5 _ hat5
      have G5 : Gl EExp 28 10 w w5 b p c ws v' (l ++ [X.1]) X.2 := HG2.out.1.more eExp HG2.out.2.1 (x := X.1) (d := [.int .i64 R.k, .string R.s, .int .i64 R.vk, .bool R.vb, .int .i64 R.vn, .string R.vs, .slice none 0 0, .slice none 0 0, .slice R.kp R.n R.kc, .slice R.np R.m R.nc]) HG2.out.2.2 rfl hown5 hgr5 hat5
      have kt := tookSign_any G5.ps hz ⟨#[44]⟩
      have hI : isW (wAt ws X.2.at') 6 ⟨#[44]⟩ = isP (wAt ws X.2.at') 6 [44] := isW_isP _ _ _
      unfold tookP at kt
      rw [hI] at kt
      obtain ⟨q6, k6, rfl⟩ := own_len hown5
      have HG5 : Hid (Gl EExp 28 10 w w5 b p c ws (.slice q6 (l.length + 1) k6) (l ++ [X.1]) X.2) := G5
      clear hown hown5 hgr5 hat5 G5 hI HG2
      by_cases hy : isP (wAt ws X.2.at') 6 [44] = true
      · rw [hy, if_pos rfl] at kt
        have hlo : comF ws F m (l ++ [X.1]) (takeP X.2) = V := by
          have := HG.out.2.1
          rw [if_pos hy] at this
          exact this
        have hpk3 := (HG.out.2.2.is hz hy (by decide)).less
        have H3 : Hid (comF ws F m (l ++ [X.1]) (takeP X.2) = V ∧ Pk 0 0 ws s (takeP X.2)) := ⟨hlo, hpk3⟩
        clear hlo hpk3 hy HG
        go_wp2_with fail
        refine kt.mono ?_
        rintro r w6 ⟨rfl, hP6, hO6⟩
        have G6 := HG5.out.calls eExp hO6 hP6
        have HG6 : Hid (Gl EExp 28 10 w w6 b p c ws (.slice q6 (l.length + 1) k6) (l ++ [X.1]) (takeP X.2)) := G6
        clear kt hP6 hO6 G6 HG5
        go_wp2_with fail
        go_roundw
        case rel =>
          refine ⟨m, l ++ [X.1], takeP X.2, ⟨by simp; omega, by omega⟩, ⟨q6, k6, by simp⟩, ?_⟩
          have hh : Gl EExp 28 10 w w6 b p c ws (.slice q6 (l.length + 1) k6) (l ++ [X.1]) (takeP X.2) ∧ comF ws F m (l ++ [X.1]) (takeP X.2) = V ∧ Pk 0 0 ws s (takeP X.2) := ⟨HG6.out, H3.out.1, H3.out.2⟩
          exact hh
        case measure =>
          simp only [lenOf]
          omega
      · have hf : isP (wAt ws X.2.at') 6 [44] = false := by simpa using hy
        rw [hf, if_neg Bool.false_ne_true] at kt
        have hlo : (l ++ [X.1], X.2) = V := by
          have := HG.out.2.1
          rw [if_neg hy] at this
          exact this
        subst hlo
        clear hy hf HG
        go_wp2_with fail
        refine kt.mono ?_
        rintro r w6 ⟨rfl, hP6, hO6⟩
        have G6 := HG5.out.calls eExp hO6 hP6
        have HG6 : Hid (Gl EExp 28 10 w w6 b p c ws (.slice q6 (l.length + 1) k6) (l ++ [X.1]) X.2) := G6
        clear kt hP6 hO6 G6 HG5
        go_wp2
        go_ret
        exact ⟨_, rfl, HG6.out⟩
end Go.Proofs.YtcniebkehekliaaGreatDoor
namespace Go.Proofs.YtcniebkehekliaaGreatDoor
open Go.RowKit Go.Shelf
attribute [local go_sem] Oper.semAt_some fw0 fw1 fw2
theorem info98c : (Tryz.prog.info? 124).map (fun i => (i.zero, i.size, i.bytes)) = some (some (.agg #[.string ⟨#[]⟩, .int .i64 0, .string ⟨#[]⟩, .int .i64 0, .bool false, .int .i64 0, .string ⟨#[]⟩, .slice none 0 0, .slice none 0 0, .slice none 0 0, .slice none 0 0]), 11, 176) := by kernel_rfl
set_option maxRecDepth 100000 in
set_option maxHeartbeats 8000000 in
theorem commasP_any {w : World} {b : Nat} {p : Option Addr} {c : Nat} {ws : List Wd} {s : PS} (H : Ps w b p c ws s) (hz : Wz ws) (F : PS → (ByteArray × Et) × PS) (hF : ∀ u, u.at' < ws.length → Pk 0 0 ws u (F u).2)
    (kb : ∀ W u, Ps W b p c ws u → Pk 0 0 ws s u → Calls Tryz.prog 165 #[.pointer (some ⟨b, 0, none⟩)] W fun r w' => ∃ v d, r = .returned v ∧ v = .agg d.toArray ∧ EFld w' (fun k => W.heap.size ≤ k) (F u).1 d ∧ Ps w' b p c ws (F u).2 ∧ Onl b W w') :
    Calls Tryz.prog 83 #[.pointer (some ⟨b, 0, none⟩), .func (.func 165) #[.pointer (some ⟨b, 0, none⟩)] #[]] w fun r w' => ∃ v, r = .returned v ∧ Gl EFld 124 11 w w' b p c ws v (comF ws F 33 [] s).1 (comF ws F 33 [] s).2 := by
  obtain ⟨V, hV⟩ : ∃ V, comF ws F 33 [] s = V := ⟨_, rfl⟩
  rw [hV]
  have HV : Hid (comF ws F 33 [] s = V ∧ Ps w b p c ws s) := ⟨hV, H⟩
  have HF : Hid (∀ u, u.at' < ws.length → Pk 0 0 ws u (F u).2) := hF
  clear H hV hF
  obtain ⟨i0, hi, hz0, hz1, hz2⟩ := info_parts info98c
  go_enter Tryz.func83, Tryz.ntmps83
  go_wp2_with fail
  go_loopw [5] (fun c5 wr => ∃ n l t, (n + l.length = 33 ∧ 0 < n) ∧ (∃ q k, c5 = .slice q l.length k) ∧ Hid (Gl EFld 124 11 w wr b p c ws c5 l t ∧ comF ws F n l t = V ∧ Pk 0 0 ws s t)) (fun c5 _ => 33 - lenOf c5)
  case atStart =>
    refine ⟨33, [], s, ⟨rfl, by decide⟩, ⟨none, 0, rfl⟩, ?_⟩
    have hh : Gl EFld 124 11 w w b p c ws (.slice none 0 0) [] s ∧ comF ws F 33 [] s = V ∧ Pk 0 0 ws s s := ⟨Gl.start _ _ _ HV.out.2, HV.out.1, Pk.refl HV.out.2.lt⟩
    exact hh
  case round =>
    obtain ⟨n, l, t, ⟨hn, hn0⟩, ⟨q5, k5, rfl⟩, hh⟩ := hrel
    obtain ⟨G, hlo, hpk⟩ := hh.out
    by_cases h32 : l.length = 32
    · obtain rfl : n = 1 := by omega
      have hlo2 : ([], failP ws t 3) = V := by
        unfold comF at hlo
        rw [if_pos h32] at hlo
        exact hlo
      have kf := fail_any G.ps 3
      have HG : Hid (Gl EFld 124 11 w wr b p c ws (.slice q5 l.length k5) l t) := G
      have h32' : (l.length : Int) = 32 := by omega
      subst hlo2
      clear hlo G hpk hh h32 HV
      go_wp2_with fail
      refine kf.mono ?_
      rintro r w2 ⟨rfl, hP2, hO2⟩
      have HG2 : Hid (Ps w2 b p c ws (failP ws t 3) ∧ Onl b wr w2) := ⟨hP2, hO2⟩
      clear kf hP2 hO2
      go_wp2
      go_ret
      exact ⟨_, rfl, ⟨[], World.ownsRow_nil _ _ _ _, rfl⟩, HG.out.onl.trans HG2.out.2, HG2.out.1, HG.out.lb, HG.out.old⟩
    · obtain ⟨m, rfl⟩ : ∃ m, n = m + 1 := ⟨n - 1, by omega⟩
      unfold comF at hlo
      rw [if_neg h32] at hlo
      have h32' : ¬ (l.length : Int) = 32 := by omega
      have kb1 := kb wr t G.ps hpk
      have hpk2 := hpk.trans (HF.out t G.ps.lt)
      obtain ⟨X, hX⟩ : ∃ X, F t = X := ⟨_, rfl⟩
      rw [hX] at kb1 hlo hpk2
      have HG : Hid (Gl EFld 124 11 w wr b p c ws (.slice q5 l.length k5) l t ∧ (if isP (wAt ws X.2.at') 6 [44] = true then comF ws F m (l ++ [X.1]) (takeP X.2) else (l ++ [X.1], X.2)) = V ∧ Pk 0 0 ws s X.2) := ⟨G, hlo, hpk2⟩
      have hlw : l.length ≤ 32 := by omega
      clear hlo G hpk hpk2 hh hX HV h32
      go_wp2_with fail
      refine kb1.mono ?_
      rintro r w2 ⟨v2, d2, rfl, hv2, hE2, hP2, hO2⟩
      have G2 := HG.out.1.calls eFld hO2 hP2
      obtain ⟨L, hown, hels⟩ := G2.own
      have hsz := G2.onl.size
      have hszr := HG.out.1.onl.size
      obtain ⟨e2, he2, dd, hdd⟩ := id hE2
      obtain ⟨R, hR⟩ := hdd.row
      have hd2 : d2 = [.string X.1.1, .int .i64 R.k, .string R.s, .int .i64 R.vk, .bool R.vb, .int .i64 R.vn, .string R.vs, .slice none 0 0, .slice none 0 0, .slice R.kp R.n R.kc, .slice R.np R.m R.nc] := by
        unfold rowX at hR
        injection hR with hR
        have := congrArg Array.toList hR
        rw [he2]
        simpa using this
      subst hd2
      subst hv2
      clear hdd hR he2
      have HG2 : Hid (Gl EFld 124 11 w w2 b p c ws (.slice q5 l.length k5) l X.2 ∧ Els EFld w2 (fun k => w.heap.size ≤ k ∧ (Value.slice q5 l.length k5).ownBlock ≠ some k) l L ∧ EFld w2 (fun k => w.heap.size ≤ k ∧ (Value.slice q5 l.length k5).ownBlock ≠ some k) X.1 [.string X.1.1, .int .i64 R.k, .string R.s, .int .i64 R.vk, .bool R.vb, .int .i64 R.vn, .string R.vs, .slice none 0 0, .slice none 0 0, .slice R.kp R.n R.kc, .slice R.np R.m R.nc]) := by
        refine ⟨G2, hels, eFld.imp (fun k hk hl => ⟨by omega, fun e => ?_⟩) hE2⟩
        obtain ⟨L1, hown1, -⟩ := HG.out.1.own
        have := (hown1.lt k e).2
        omega
      clear kb1 hP2 hO2 G2 hels hE2
      go_wp2_with (at_builtin; refine wpList_append_own_at _ rfl _ _ 121 rfl w.heap.size 124 i0 (.agg #[.string ⟨#[]⟩, .int .i64 0, .string ⟨#[]⟩, .int .i64 0, .bool false, .int .i64 0, .string ⟨#[]⟩, .slice none 0 0, .slice none 0 0, .slice none 0 0, .slice none 0 0]) 11 176 Tryz.underlying121 hi hz0 hz1 hz2 rfl (by decide) _ _ _ rfl (hown.alloc _) ⟨w2.heap.size, 0, none⟩ 1 1 [.string X.1.1, .int .i64 R.k, .string R.s, .int .i64 R.vk, .bool R.vb, .int .i64 R.vn, .string R.vs, .slice none 0 0, .slice none 0 0, .slice R.kp R.n R.kc, .slice R.np R.m R.nc] rfl rfl ?c1 ?c2 ?c3 ?c4 ?c5 ?_)
      case c1 => exact World.news_of_block (heap_alloc_new w2 _)
      case c2 => exact eFld.ones HG2.out.2.2
      case c3 => unfold maxLen; omega
      case c4 => omega
      case c5 => simp; omega
      intro v' w5 hown5 hgr5 _ hat5
      have G5 : Gl EFld 124 11 w w5 b p c ws v' (l ++ [X.1]) X.2 := HG2.out.1.more eFld HG2.out.2.1 (x := X.1) (d := [.string X.1.1, .int .i64 R.k, .string R.s, .int .i64 R.vk, .bool R.vb, .int .i64 R.vn, .string R.vs, .slice none 0 0, .slice none 0 0, .slice R.kp R.n R.kc, .slice R.np R.m R.nc]) HG2.out.2.2 rfl hown5 hgr5 hat5
      have kt := tookSign_any G5.ps hz ⟨#[44]⟩
      have hI : isW (wAt ws X.2.at') 6 ⟨#[44]⟩ = isP (wAt ws X.2.at') 6 [44] := isW_isP _ _ _
      unfold tookP at kt
      rw [hI] at kt
      obtain ⟨q6, k6, rfl⟩ := own_len hown5
      have HG5 : Hid (Gl EFld 124 11 w w5 b p c ws (.slice q6 (l.length + 1) k6) (l ++ [X.1]) X.2) := G5
      clear hown hown5 hgr5 hat5 G5 hI HG2
      by_cases hy : isP (wAt ws X.2.at') 6 [44] = true
      · rw [hy, if_pos rfl] at kt
        have hlo : comF ws F m (l ++ [X.1]) (takeP X.2) = V := by
          have := HG.out.2.1
          rw [if_pos hy] at this
          exact this
        have hpk3 := (HG.out.2.2.is hz hy (by decide)).less
        have H3 : Hid (comF ws F m (l ++ [X.1]) (takeP X.2) = V ∧ Pk 0 0 ws s (takeP X.2)) := ⟨hlo, hpk3⟩
        clear hlo hpk3 hy HG
        go_wp2_with fail
        refine kt.mono ?_
        rintro r w6 ⟨rfl, hP6, hO6⟩
        have G6 := HG5.out.calls eFld hO6 hP6
        have HG6 : Hid (Gl EFld 124 11 w w6 b p c ws (.slice q6 (l.length + 1) k6) (l ++ [X.1]) (takeP X.2)) := G6
        clear kt hP6 hO6 G6 HG5
        go_wp2_with fail
        go_roundw
        case rel =>
          refine ⟨m, l ++ [X.1], takeP X.2, ⟨by simp; omega, by omega⟩, ⟨q6, k6, by simp⟩, ?_⟩
          have hh : Gl EFld 124 11 w w6 b p c ws (.slice q6 (l.length + 1) k6) (l ++ [X.1]) (takeP X.2) ∧ comF ws F m (l ++ [X.1]) (takeP X.2) = V ∧ Pk 0 0 ws s (takeP X.2) := ⟨HG6.out, H3.out.1, H3.out.2⟩
          exact hh
        case measure =>
          simp only [lenOf]
          omega
      · have hf : isP (wAt ws X.2.at') 6 [44] = false := by simpa using hy
        rw [hf, if_neg Bool.false_ne_true] at kt
        have hlo : (l ++ [X.1], X.2) = V := by
          have := HG.out.2.1
          rw [if_neg hy] at this
          exact this
        subst hlo
        clear hy hf HG
        go_wp2_with fail
        refine kt.mono ?_
        rintro r w6 ⟨rfl, hP6, hO6⟩
        have G6 := HG5.out.calls eFld hO6 hP6
        have HG6 : Hid (Gl EFld 124 11 w w6 b p c ws (.slice q6 (l.length + 1) k6) (l ++ [X.1]) X.2) := G6
        clear kt hP6 hO6 G6 HG5
        go_wp2
        go_ret
        exact ⟨_, rfl, HG6.out⟩
end Go.Proofs.YtcniebkehekliaaGreatDoor
namespace Go.Proofs.YtcniebkehekliaaGreatDoor
open Go.RowKit Go.Shelf
attribute [local go_sem] Oper.semAt_some fw0 fw1 fw2
theorem info98d : (Tryz.prog.info? 124).map (fun i => (i.zero, i.size, i.bytes)) = some (some (.agg #[.string ⟨#[]⟩, .int .i64 0, .string ⟨#[]⟩, .int .i64 0, .bool false, .int .i64 0, .string ⟨#[]⟩, .slice none 0 0, .slice none 0 0, .slice none 0 0, .slice none 0 0]), 11, 176) := by kernel_rfl
set_option maxRecDepth 100000 in
set_option maxHeartbeats 8000000 in
theorem commasA_any {w : World} {b : Nat} {p : Option Addr} {c : Nat} {ws : List Wd} {s : PS} (H : Ps w b p c ws s) (hz : Wz ws) (F : PS → (ByteArray × Et) × PS) (hF : ∀ u, u.at' < ws.length → Pk 0 0 ws u (F u).2)
    (kb : ∀ W u, Ps W b p c ws u → Pk 0 0 ws s u → Calls Tryz.prog 84 #[.pointer (some ⟨b, 0, none⟩)] W fun r w' => ∃ v d, r = .returned v ∧ v = .agg d.toArray ∧ EFld w' (fun k => W.heap.size ≤ k) (F u).1 d ∧ Ps w' b p c ws (F u).2 ∧ Onl b W w') :
    Calls Tryz.prog 83 #[.pointer (some ⟨b, 0, none⟩), .func (.func 84) #[.pointer (some ⟨b, 0, none⟩)] #[]] w fun r w' => ∃ v, r = .returned v ∧ Gl EFld 124 11 w w' b p c ws v (comF ws F 33 [] s).1 (comF ws F 33 [] s).2 := by
  obtain ⟨V, hV⟩ : ∃ V, comF ws F 33 [] s = V := ⟨_, rfl⟩
  rw [hV]
  have HV : Hid (comF ws F 33 [] s = V ∧ Ps w b p c ws s) := ⟨hV, H⟩
  have HF : Hid (∀ u, u.at' < ws.length → Pk 0 0 ws u (F u).2) := hF
  clear H hV hF
  obtain ⟨i0, hi, hz0, hz1, hz2⟩ := info_parts info98d
  go_enter Tryz.func83, Tryz.ntmps83
  go_wp2_with fail
  go_loopw [5] (fun c5 wr => ∃ n l t, (n + l.length = 33 ∧ 0 < n) ∧ (∃ q k, c5 = .slice q l.length k) ∧ Hid (Gl EFld 124 11 w wr b p c ws c5 l t ∧ comF ws F n l t = V ∧ Pk 0 0 ws s t)) (fun c5 _ => 33 - lenOf c5)
  case atStart =>
    refine ⟨33, [], s, ⟨rfl, by decide⟩, ⟨none, 0, rfl⟩, ?_⟩
    have hh : Gl EFld 124 11 w w b p c ws (.slice none 0 0) [] s ∧ comF ws F 33 [] s = V ∧ Pk 0 0 ws s s := ⟨Gl.start _ _ _ HV.out.2, HV.out.1, Pk.refl HV.out.2.lt⟩
    exact hh
  case round =>
    obtain ⟨n, l, t, ⟨hn, hn0⟩, ⟨q5, k5, rfl⟩, hh⟩ := hrel
    obtain ⟨G, hlo, hpk⟩ := hh.out
    by_cases h32 : l.length = 32
    · obtain rfl : n = 1 := by omega
      have hlo2 : ([], failP ws t 3) = V := by
        unfold comF at hlo
        rw [if_pos h32] at hlo
        exact hlo
      have kf := fail_any G.ps 3
      have HG : Hid (Gl EFld 124 11 w wr b p c ws (.slice q5 l.length k5) l t) := G
      have h32' : (l.length : Int) = 32 := by omega
      subst hlo2
      clear hlo G hpk hh h32 HV
      go_wp2_with fail
      refine kf.mono ?_
      rintro r w2 ⟨rfl, hP2, hO2⟩
      have HG2 : Hid (Ps w2 b p c ws (failP ws t 3) ∧ Onl b wr w2) := ⟨hP2, hO2⟩
      clear kf hP2 hO2
      go_wp2
      go_ret
      exact ⟨_, rfl, ⟨[], World.ownsRow_nil _ _ _ _, rfl⟩, HG.out.onl.trans HG2.out.2, HG2.out.1, HG.out.lb, HG.out.old⟩
    · obtain ⟨m, rfl⟩ : ∃ m, n = m + 1 := ⟨n - 1, by omega⟩
      unfold comF at hlo
      rw [if_neg h32] at hlo
      have h32' : ¬ (l.length : Int) = 32 := by omega
      have kb1 := kb wr t G.ps hpk
      have hpk2 := hpk.trans (HF.out t G.ps.lt)
      obtain ⟨X, hX⟩ : ∃ X, F t = X := ⟨_, rfl⟩
      rw [hX] at kb1 hlo hpk2
      have HG : Hid (Gl EFld 124 11 w wr b p c ws (.slice q5 l.length k5) l t ∧ (if isP (wAt ws X.2.at') 6 [44] = true then comF ws F m (l ++ [X.1]) (takeP X.2) else (l ++ [X.1], X.2)) = V ∧ Pk 0 0 ws s X.2) := ⟨G, hlo, hpk2⟩
      have hlw : l.length ≤ 32 := by omega
      clear hlo G hpk hpk2 hh hX HV h32
      go_wp2_with fail
      refine kb1.mono ?_
      rintro r w2 ⟨v2, d2, rfl, hv2, hE2, hP2, hO2⟩
      have G2 := HG.out.1.calls eFld hO2 hP2
      obtain ⟨L, hown, hels⟩ := G2.own
      have hsz := G2.onl.size
      have hszr := HG.out.1.onl.size
      obtain ⟨e2, he2, dd, hdd⟩ := id hE2
      obtain ⟨R, hR⟩ := hdd.row
      have hd2 : d2 = [.string X.1.1, .int .i64 R.k, .string R.s, .int .i64 R.vk, .bool R.vb, .int .i64 R.vn, .string R.vs, .slice none 0 0, .slice none 0 0, .slice R.kp R.n R.kc, .slice R.np R.m R.nc] := by
        unfold rowX at hR
        injection hR with hR
        have := congrArg Array.toList hR
        rw [he2]
        simpa using this
      subst hd2
      subst hv2
      clear hdd hR he2
      have HG2 : Hid (Gl EFld 124 11 w w2 b p c ws (.slice q5 l.length k5) l X.2 ∧ Els EFld w2 (fun k => w.heap.size ≤ k ∧ (Value.slice q5 l.length k5).ownBlock ≠ some k) l L ∧ EFld w2 (fun k => w.heap.size ≤ k ∧ (Value.slice q5 l.length k5).ownBlock ≠ some k) X.1 [.string X.1.1, .int .i64 R.k, .string R.s, .int .i64 R.vk, .bool R.vb, .int .i64 R.vn, .string R.vs, .slice none 0 0, .slice none 0 0, .slice R.kp R.n R.kc, .slice R.np R.m R.nc]) := by
        refine ⟨G2, hels, eFld.imp (fun k hk hl => ⟨by omega, fun e => ?_⟩) hE2⟩
        obtain ⟨L1, hown1, -⟩ := HG.out.1.own
        have := (hown1.lt k e).2
        omega
      clear kb1 hP2 hO2 G2 hels hE2
      go_wp2_with (at_builtin; refine wpList_append_own_at _ rfl _ _ 121 rfl w.heap.size 124 i0 (.agg #[.string ⟨#[]⟩, .int .i64 0, .string ⟨#[]⟩, .int .i64 0, .bool false, .int .i64 0, .string ⟨#[]⟩, .slice none 0 0, .slice none 0 0, .slice none 0 0, .slice none 0 0]) 11 176 Tryz.underlying121 hi hz0 hz1 hz2 rfl (by decide) _ _ _ rfl (hown.alloc _) ⟨w2.heap.size, 0, none⟩ 1 1 [.string X.1.1, .int .i64 R.k, .string R.s, .int .i64 R.vk, .bool R.vb, .int .i64 R.vn, .string R.vs, .slice none 0 0, .slice none 0 0, .slice R.kp R.n R.kc, .slice R.np R.m R.nc] rfl rfl ?c1 ?c2 ?c3 ?c4 ?c5 ?_)
      case c1 => exact World.news_of_block (heap_alloc_new w2 _)
      case c2 => exact eFld.ones HG2.out.2.2
      case c3 => unfold maxLen; omega
      case c4 => omega
      case c5 => simp; omega
      intro v' w5 hown5 hgr5 _ hat5
      have G5 : Gl EFld 124 11 w w5 b p c ws v' (l ++ [X.1]) X.2 := HG2.out.1.more eFld HG2.out.2.1 (x := X.1) (d := [.string X.1.1, .int .i64 R.k, .string R.s, .int .i64 R.vk, .bool R.vb, .int .i64 R.vn, .string R.vs, .slice none 0 0, .slice none 0 0, .slice R.kp R.n R.kc, .slice R.np R.m R.nc]) HG2.out.2.2 rfl hown5 hgr5 hat5
      have kt := tookSign_any G5.ps hz ⟨#[44]⟩
      have hI : isW (wAt ws X.2.at') 6 ⟨#[44]⟩ = isP (wAt ws X.2.at') 6 [44] := isW_isP _ _ _
      unfold tookP at kt
      rw [hI] at kt
      obtain ⟨q6, k6, rfl⟩ := own_len hown5
      have HG5 : Hid (Gl EFld 124 11 w w5 b p c ws (.slice q6 (l.length + 1) k6) (l ++ [X.1]) X.2) := G5
      clear hown hown5 hgr5 hat5 G5 hI HG2
      by_cases hy : isP (wAt ws X.2.at') 6 [44] = true
      · rw [hy, if_pos rfl] at kt
        have hlo : comF ws F m (l ++ [X.1]) (takeP X.2) = V := by
          have := HG.out.2.1
          rw [if_pos hy] at this
          exact this
        have hpk3 := (HG.out.2.2.is hz hy (by decide)).less
        have H3 : Hid (comF ws F m (l ++ [X.1]) (takeP X.2) = V ∧ Pk 0 0 ws s (takeP X.2)) := ⟨hlo, hpk3⟩
        clear hlo hpk3 hy HG
        go_wp2_with fail
        refine kt.mono ?_
        rintro r w6 ⟨rfl, hP6, hO6⟩
        have G6 := HG5.out.calls eFld hO6 hP6
        have HG6 : Hid (Gl EFld 124 11 w w6 b p c ws (.slice q6 (l.length + 1) k6) (l ++ [X.1]) (takeP X.2)) := G6
        clear kt hP6 hO6 G6 HG5
        go_wp2_with fail
        go_roundw
        case rel =>
          refine ⟨m, l ++ [X.1], takeP X.2, ⟨by simp; omega, by omega⟩, ⟨q6, k6, by simp⟩, ?_⟩
          have hh : Gl EFld 124 11 w w6 b p c ws (.slice q6 (l.length + 1) k6) (l ++ [X.1]) (takeP X.2) ∧ comF ws F m (l ++ [X.1]) (takeP X.2) = V ∧ Pk 0 0 ws s (takeP X.2) := ⟨HG6.out, H3.out.1, H3.out.2⟩
          exact hh
        case measure =>
          simp only [lenOf]
          omega
      · have hf : isP (wAt ws X.2.at') 6 [44] = false := by simpa using hy
        rw [hf, if_neg Bool.false_ne_true] at kt
        have hlo : (l ++ [X.1], X.2) = V := by
          have := HG.out.2.1
          rw [if_neg hy] at this
          exact this
        subst hlo
        clear hy hf HG
        go_wp2_with fail
        refine kt.mono ?_
        rintro r w6 ⟨rfl, hP6, hO6⟩
        have G6 := HG5.out.calls eFld hO6 hP6
        have HG6 : Hid (Gl EFld 124 11 w w6 b p c ws (.slice q6 (l.length + 1) k6) (l ++ [X.1]) X.2) := G6
        clear kt hP6 hO6 G6 HG5
        go_wp2
        go_ret
        exact ⟨_, rfl, HG6.out⟩
end Go.Proofs.YtcniebkehekliaaGreatDoor
namespace Go.Proofs.YtcniebkehekliaaGreatDoor
open Go.RowKit Go.Shelf
attribute [local go_sem] Oper.semAt_some fw0 fw1 fw2
theorem info9c : (Tryz.prog.info? 9).map (fun i => (i.zero, i.size, i.bytes)) = some (some (.string ⟨#[]⟩), 1, 16) := by kernel_rfl
set_option maxRecDepth 100000 in
set_option maxHeartbeats 8000000 in
theorem commasS_any {w : World} {b : Nat} {p : Option Addr} {c : Nat} {ws : List Wd} {s : PS} (H : Ps w b p c ws s) (hz : Wz ws) (F : PS → ByteArray × PS) (hF : ∀ u, u.at' < ws.length → Pk 0 0 ws u (F u).2)
    (kb : ∀ W u, Ps W b p c ws u → Pk 0 0 ws s u → Calls Tryz.prog 115 #[.pointer (some ⟨b, 0, none⟩)] W fun r w' => ∃ v d, r = .returned v ∧ d = [v] ∧ EStr w' (fun k => W.heap.size ≤ k) (F u).1 d ∧ Ps w' b p c ws (F u).2 ∧ Onl b W w') :
    Calls Tryz.prog 114 #[.pointer (some ⟨b, 0, none⟩), .func (.func 115) #[.pointer (some ⟨b, 0, none⟩)] #[]] w fun r w' => ∃ v, r = .returned v ∧ Gl EStr 9 1 w w' b p c ws v (comF ws F 33 [] s).1 (comF ws F 33 [] s).2 := by
  obtain ⟨V, hV⟩ : ∃ V, comF ws F 33 [] s = V := ⟨_, rfl⟩
  rw [hV]
  have HV : Hid (comF ws F 33 [] s = V ∧ Ps w b p c ws s) := ⟨hV, H⟩
  have HF : Hid (∀ u, u.at' < ws.length → Pk 0 0 ws u (F u).2) := hF
  clear H hV hF
  obtain ⟨i0, hi, hz0, hz1, hz2⟩ := info_parts info9c
  go_enter Tryz.func114, Tryz.ntmps114
  go_wp2_with fail
  go_loopw [5] (fun c5 wr => ∃ n l t, (n + l.length = 33 ∧ 0 < n) ∧ (∃ q k, c5 = .slice q l.length k) ∧ Hid (Gl EStr 9 1 w wr b p c ws c5 l t ∧ comF ws F n l t = V ∧ Pk 0 0 ws s t)) (fun c5 _ => 33 - lenOf c5)
  case atStart =>
    refine ⟨33, [], s, ⟨rfl, by decide⟩, ⟨none, 0, rfl⟩, ?_⟩
    have hh : Gl EStr 9 1 w w b p c ws (.slice none 0 0) [] s ∧ comF ws F 33 [] s = V ∧ Pk 0 0 ws s s := ⟨Gl.start _ _ _ HV.out.2, HV.out.1, Pk.refl HV.out.2.lt⟩
    exact hh
  case round =>
    obtain ⟨n, l, t, ⟨hn, hn0⟩, ⟨q5, k5, rfl⟩, hh⟩ := hrel
    obtain ⟨G, hlo, hpk⟩ := hh.out
    by_cases h32 : l.length = 32
    · obtain rfl : n = 1 := by omega
      have hlo2 : ([], failP ws t 3) = V := by
        unfold comF at hlo
        rw [if_pos h32] at hlo
        exact hlo
      have kf := fail_any G.ps 3
      have HG : Hid (Gl EStr 9 1 w wr b p c ws (.slice q5 l.length k5) l t) := G
      have h32' : (l.length : Int) = 32 := by omega
      subst hlo2
      clear hlo G hpk hh h32 HV
      go_wp2_with fail
      refine kf.mono ?_
      rintro r w2 ⟨rfl, hP2, hO2⟩
      have HG2 : Hid (Ps w2 b p c ws (failP ws t 3) ∧ Onl b wr w2) := ⟨hP2, hO2⟩
      clear kf hP2 hO2
      go_wp2
      go_ret
      exact ⟨_, rfl, ⟨[], World.ownsRow_nil _ _ _ _, rfl⟩, HG.out.onl.trans HG2.out.2, HG2.out.1, HG.out.lb, HG.out.old⟩
    · obtain ⟨m, rfl⟩ : ∃ m, n = m + 1 := ⟨n - 1, by omega⟩
      unfold comF at hlo
      rw [if_neg h32] at hlo
      have h32' : ¬ (l.length : Int) = 32 := by omega
      have kb1 := kb wr t G.ps hpk
      have hpk2 := hpk.trans (HF.out t G.ps.lt)
      obtain ⟨X, hX⟩ : ∃ X, F t = X := ⟨_, rfl⟩
      rw [hX] at kb1 hlo hpk2
      have HG : Hid (Gl EStr 9 1 w wr b p c ws (.slice q5 l.length k5) l t ∧ (if isP (wAt ws X.2.at') 6 [44] = true then comF ws F m (l ++ [X.1]) (takeP X.2) else (l ++ [X.1], X.2)) = V ∧ Pk 0 0 ws s X.2) := ⟨G, hlo, hpk2⟩
      have hlw : l.length ≤ 32 := by omega
      clear hlo G hpk hpk2 hh hX HV h32
      go_wp2_with fail
      refine kb1.mono ?_
      rintro r w2 ⟨v2, d2, rfl, hv2, hE2, hP2, hO2⟩
      have G2 := HG.out.1.calls eStr hO2 hP2
      obtain ⟨L, hown, hels⟩ := G2.own
      have hsz := G2.onl.size
      have hszr := HG.out.1.onl.size
      have hE2' : d2 = [.string X.1] := hE2
      obtain rfl : v2 = .string X.1 := by
        rw [hE2'] at hv2
        injection hv2 with e _
        exact e.symm
      subst hE2'
      clear hv2
      have HG2 : Hid (Gl EStr 9 1 w w2 b p c ws (.slice q5 l.length k5) l X.2 ∧ Els EStr w2 (fun k => w.heap.size ≤ k ∧ (Value.slice q5 l.length k5).ownBlock ≠ some k) l L ∧ EStr w2 (fun k => w.heap.size ≤ k ∧ (Value.slice q5 l.length k5).ownBlock ≠ some k) X.1 [.string X.1]) := by
        refine ⟨G2, hels, eStr.imp (fun k hk hl => ⟨by omega, fun e => ?_⟩) hE2⟩
        obtain ⟨L1, hown1, -⟩ := HG.out.1.own
        have := (hown1.lt k e).2
        omega
      clear kb1 hP2 hO2 G2 hels hE2
      go_wp2_with (at_builtin; refine wpList_append_own_at _ rfl _ _ 23 rfl w.heap.size 9 i0 (.string ⟨#[]⟩) 1 16 Tryz.underlying23 hi hz0 hz1 hz2 rfl (by decide) _ _ _ rfl (hown.alloc _) ⟨w2.heap.size, 0, none⟩ 1 1 [.string X.1] rfl rfl ?c1 ?c2 ?c3 ?c4 ?c5 ?_)
      case c1 => exact World.news_of_block (heap_alloc_new w2 _)
      case c2 => exact eStr.ones HG2.out.2.2
      case c3 => unfold maxLen; omega
      case c4 => omega
      case c5 => simp; omega
      intro v' w5 hown5 hgr5 _ hat5
      have G5 : Gl EStr 9 1 w w5 b p c ws v' (l ++ [X.1]) X.2 := HG2.out.1.more eStr HG2.out.2.1 (x := X.1) (d := [.string X.1]) HG2.out.2.2 rfl hown5 hgr5 hat5
      have kt := tookSign_any G5.ps hz ⟨#[44]⟩
      have hI : isW (wAt ws X.2.at') 6 ⟨#[44]⟩ = isP (wAt ws X.2.at') 6 [44] := isW_isP _ _ _
      unfold tookP at kt
      rw [hI] at kt
      obtain ⟨q6, k6, rfl⟩ := own_len hown5
      have HG5 : Hid (Gl EStr 9 1 w w5 b p c ws (.slice q6 (l.length + 1) k6) (l ++ [X.1]) X.2) := G5
      clear hown hown5 hgr5 hat5 G5 hI HG2
      by_cases hy : isP (wAt ws X.2.at') 6 [44] = true
      · rw [hy, if_pos rfl] at kt
        have hlo : comF ws F m (l ++ [X.1]) (takeP X.2) = V := by
          have := HG.out.2.1
          rw [if_pos hy] at this
          exact this
        have hpk3 := (HG.out.2.2.is hz hy (by decide)).less
        have H3 : Hid (comF ws F m (l ++ [X.1]) (takeP X.2) = V ∧ Pk 0 0 ws s (takeP X.2)) := ⟨hlo, hpk3⟩
        clear hlo hpk3 hy HG
        go_wp2_with fail
        refine kt.mono ?_
        rintro r w6 ⟨rfl, hP6, hO6⟩
        have G6 := HG5.out.calls eStr hO6 hP6
        have HG6 : Hid (Gl EStr 9 1 w w6 b p c ws (.slice q6 (l.length + 1) k6) (l ++ [X.1]) (takeP X.2)) := G6
        clear kt hP6 hO6 G6 HG5
        go_wp2_with fail
        go_roundw
        case rel =>
          refine ⟨m, l ++ [X.1], takeP X.2, ⟨by simp; omega, by omega⟩, ⟨q6, k6, by simp⟩, ?_⟩
          have hh : Gl EStr 9 1 w w6 b p c ws (.slice q6 (l.length + 1) k6) (l ++ [X.1]) (takeP X.2) ∧ comF ws F m (l ++ [X.1]) (takeP X.2) = V ∧ Pk 0 0 ws s (takeP X.2) := ⟨HG6.out, H3.out.1, H3.out.2⟩
          exact hh
        case measure =>
          simp only [lenOf]
          omega
      · have hf : isP (wAt ws X.2.at') 6 [44] = false := by simpa using hy
        rw [hf, if_neg Bool.false_ne_true] at kt
        have hlo : (l ++ [X.1], X.2) = V := by
          have := HG.out.2.1
          rw [if_neg hy] at this
          exact this
        subst hlo
        clear hy hf HG
        go_wp2_with fail
        refine kt.mono ?_
        rintro r w6 ⟨rfl, hP6, hO6⟩
        have G6 := HG5.out.calls eStr hO6 hP6
        have HG6 : Hid (Gl EStr 9 1 w w6 b p c ws (.slice q6 (l.length + 1) k6) (l ++ [X.1]) X.2) := G6
        clear kt hP6 hO6 G6 HG5
        go_wp2
        go_ret
        exact ⟨_, rfl, HG6.out⟩
end Go.Proofs.YtcniebkehekliaaGreatDoor
