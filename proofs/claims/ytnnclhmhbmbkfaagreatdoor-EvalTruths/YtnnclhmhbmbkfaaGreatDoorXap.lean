/- Names with points between them (path). Expressions with commas between them (commas). Parts of a struct with commas between them (commas). Fields of SET with commas between them (commas). Texts with commas between them (commas of paths). An expression of any strength (expression); a name, a sign and an expression (named, part, assignment). -/
import Derived.Test.YtnnclhmhbmbkfaaGreatDoorXaj
import Derived.Test.YtnnclhmhbmbkfaaGreatDoorXao
namespace Go.Proofs.YtnnclhmhbmbkfaaGreatDoor
open Go.RowKit Go.Shelf
attribute [local go_sem] Oper.semAt_some fw0 fw1 fw2
/- Words as lex has them: not long, and numbers are numbers. -/
def Wl (ws : List Wd) : Prop := ∀ i, (wAt ws i).s.length ≤ 10000 ∧ NumOk (wAt ws i)
theorem join_joinB : ∀ l : List ByteArray, Lib.join (l.map (·.data.toList)) [46] = joinB l
  | [] => rfl
  | [x] => by simp [Lib.join_one, joinB]
  | x :: y :: l => by
    have h := join_joinB (y :: l)
    simp only [List.map_cons] at h ⊢
    rw [Lib.join_cons] at h ⊢
    rw [joinB, ← h]
    simp [Lib.joinTail]
theorem joinB_len : ∀ l : List ByteArray, (∀ x ∈ l, x.data.toList.length ≤ 10000) → (joinB l).length ≤ l.length * 10001
  | [], _ => by simp [joinB]
  | [x], h => by have := h x (by simp); simp only [joinB, List.length_singleton]; omega
  | x :: y :: l, h => by
    have h1 := h x (by simp)
    have h2 := joinB_len (y :: l) (fun z hz => h z (by simp [hz]))
    simp only [joinB, List.length_append, List.length_cons] at h2 ⊢
    omega
theorem nameS_len {ws : List Wd} (hl : Wl ws) (s : PS) : (nameS ws s).data.toList.length ≤ 10000 := by
  unfold nameS
  split
  · exact (hl s.at').1
  · simp
theorem nameP_ge {ws : List Wd} (s : PS) (h : s.at' < ws.length) : s.at' ≤ (nameP ws s).at' := by
  unfold nameP failP takeP
  split
  · simp
  · split
    · simp only; omega
    · exact Nat.le_refl _
theorem info9 : (Tryz.prog.info? 9).map (fun i => (i.zero, i.size, i.bytes)) = some (some (.string ⟨#[]⟩), 1, 16) := by kernel_rfl
theorem own_strs {w : World} {base : Nat} {v : Value} {l : List ByteArray} {L : List Value} (h : w.ownsRow base 9 1 v l.length L) (hE : Els EStr w (fun _ => True) l L) (h0 : 0 < l.length) : ∃ g cap, v = .slice (some ⟨g, 0, none⟩) l.length cap ∧ l.length ≤ cap ∧ g < w.heap.size ∧ ∀ (j : Nat) x, l[j]? = some x → w.cell? ⟨g, 0 + j, none⟩ = some (.string x) := by
  rcases h.2 with ⟨_, hn⟩ | ⟨g, cap, cur, hv, hg, hr, h1, h2, h3, h4⟩
  · omega
  · refine ⟨g, cap, hv, h1, lt_of_row hr, fun j x hj => ?_⟩
    obtain ⟨c, hc, hk⟩ := Els.at eStr hE j x hj
    have hc' : c = [.string x] := hc
    have e := hk 0 (.string x) (by rw [hc']; rfl)
    rw [Nat.mul_one, Nat.add_zero, ← h4, List.getElem?_take] at e
    rw [Nat.zero_add, cell_of_row w g j cur _ _ hr]
    split at e
    · simpa using e
    · cases e
set_option maxRecDepth 100000 in
set_option maxHeartbeats 8000000 in
theorem path_any {w : World} {b : Nat} {p : Option Addr} {c : Nat} {ws : List Wd} {s : PS} (H : Ps w b p c ws s) (hz : Wz ws) (hl : Wl ws) :
    Calls Tryz.prog 117 #[.pointer (some ⟨b, 0, none⟩)] w fun r w' => r = .returned (.string (pathF ws s).1) ∧ Ps w' b p c ws (pathF ws s).2 ∧ Onl b w w' := by
  have k1 := pname_any H hz
  have few := H.few
  unfold pathF
  have hge := nameP_ge s H.lt
  obtain ⟨V, hV⟩ : ∃ V, pathL ws ws.length [nameS ws s] (nameP ws s) = V := ⟨_, rfl⟩
  rw [hV]
  have HV : Hid (pathL ws ws.length [nameS ws s] (nameP ws s) = V ∧ (nameS ws s).data.toList.length ≤ 10000) := ⟨hV, nameS_len hl s⟩
  have H0 : Hid (Ps w b p c ws s) := H
  have HL : Hid (Wl ws) := hl
  obtain ⟨x0, hx0⟩ : ∃ x0, nameS ws s = x0 := ⟨_, rfl⟩
  obtain ⟨s0, hs0⟩ : ∃ s0, nameP ws s = s0 := ⟨_, rfl⟩
  rw [hx0, hs0] at HV
  rw [hx0, hs0] at k1
  clear H hV hl hx0 hs0 hge
  go_enter Tryz.func117, Tryz.ntmps117
  go_wp2_with fail
  refine k1.mono ?_
  rintro q w1 ⟨rfl, hP1, hO1⟩
  obtain ⟨w2, hw2⟩ : ∃ w2, w1.alloc (.cells #[.string x0] 9) = w2 := ⟨_, rfl⟩
  have G2 : Gl EStr 9 1 w w2 b p c ws (.slice (some ⟨w1.heap.size, 0, none⟩) 1 1) [x0] s0 := Gl.one eStr (W := w1) (d := [.string x0]) H0.out hO1 hP1 rfl hw2.symm
  have HG : Hid (Gl EStr 9 1 w w2 b p c ws (.slice (some ⟨w1.heap.size, 0, none⟩) 1 1) [x0] s0) := G2
  clear k1 hP1 hO1 G2
  obtain ⟨i0, hi, hz0, hz1, hz2⟩ := info_parts info9
  go_wp2_with fail
  go_loopw [3] (fun c3 wr => ∃ n l t, Hid (Gl EStr 9 1 w wr b p c ws c3 l t ∧ pathL ws n l t = V ∧ ws.length ≤ t.at' + n ∧ 0 < l.length ∧ l.length ≤ t.at' + 1 ∧ ∀ x ∈ l, x.data.toList.length ≤ 10000)) (fun _ wr => ws.length - atW b wr)
  case atStart =>
    refine ⟨ws.length, [x0], s0, ?_⟩
    have hh : Gl EStr 9 1 w w2 b p c ws (.slice (some ⟨w1.heap.size, 0, none⟩) 1 1) [x0] s0 ∧ pathL ws ws.length [x0] s0 = V ∧ ws.length ≤ s0.at' + ws.length ∧ 0 < [x0].length ∧ [x0].length ≤ s0.at' + 1 ∧ ∀ x ∈ [x0], x.data.toList.length ≤ 10000 := by
      refine ⟨HG.out, HV.out.1, by omega, by simp, by simp, fun x hx => ?_⟩
      have e : x = x0 := by simpa using hx
      rw [e]
      exact HV.out.2
    exact hh
  case round =>
    obtain ⟨n, l, t, hh⟩ := hrel
    obtain ⟨G, hlo, hle, h0, hll, hlx⟩ := hh.out
    have kt := tookSign_any G.ps hz ⟨#[46]⟩
    have lx := G.ps.lt
    have hI : isW (wAt ws t.at') 6 ⟨#[46]⟩ = isP (wAt ws t.at') 6 [46] := isW_isP _ _ _
    obtain ⟨m, rfl⟩ : ∃ m, n = m + 1 := ⟨n - 1, by omega⟩
    unfold pathL at hlo
    unfold tookP at kt
    rw [hI] at kt
    by_cases hy : isP (wAt ws t.at') 6 [46] = true
    · rw [if_pos hy] at hlo kt
      rw [hy] at kt
      have h1 := hz.next lx (by rw [isP_kind hy]; decide)
      have hge := nameP_ge (ws := ws) (takeP t) h1
      have hgt : (takeP t).at' = t.at' + 1 := rfl
      have hsl := nameS_len HL.out (takeP t)
      have hlw : l.length ≤ 3001 := by omega
      have HG2 : Hid (Gl EStr 9 1 w wr b p c ws u3 l t ∧ pathL ws m (l ++ [nameS ws (takeP t)]) (nameP ws (takeP t)) = V ∧ 0 < l.length ∧ l.length ≤ t.at' + 1 ∧ (∀ x ∈ l, x.data.toList.length ≤ 10000) ∧ t.at' + 1 ≤ (nameP ws (takeP t)).at' ∧ (nameS ws (takeP t)).data.toList.length ≤ 10000 ∧ ws.length ≤ t.at' + (m + 1)) := ⟨G, hlo, h0, hll, hlx, by omega, hsl, hle⟩
      clear HG HV hlo hle h0 hll hlx G hI hy hge hgt hsl hh hw2 lx
      go_wp2_with fail
      refine kt.mono ?_
      rintro q w3 ⟨rfl, hP3, hO3⟩
      have kn := pname_any hP3 hz
      obtain ⟨x1, hx1⟩ : ∃ x1, nameS ws (takeP t) = x1 := ⟨_, rfl⟩
      obtain ⟨t1, ht1⟩ : ∃ t1, nameP ws (takeP t) = t1 := ⟨_, rfl⟩
      rw [hx1, ht1] at kn HG2
      have G3 := HG2.out.1.calls eStr hO3 hP3
      have HG3 : Hid (Gl EStr 9 1 w w3 b p c ws u3 l (takeP t)) := G3
      clear kt hP3 hO3 G3 hx1 ht1
      go_wp2_with fail
      refine kn.mono ?_
      rintro q w4 ⟨rfl, hP4, hO4⟩
      have G4 := HG3.out.calls eStr hO4 hP4
      obtain ⟨L, hown, hels⟩ := G4.own
      have hsz := G4.onl.size
      have HG4 : Hid (Gl EStr 9 1 w w4 b p c ws u3 l t1 ∧ Els EStr w4 (fun k => w.heap.size ≤ k ∧ u3.ownBlock ≠ some k) l L) := ⟨G4, hels⟩
      clear kn hP4 hO4 G4 hels
      go_wp2_with (at_builtin; refine wpList_append_own_at _ rfl _ _ 23 rfl w.heap.size 9 i0 (.string ⟨#[]⟩) 1 16 Tryz.underlying23 hi hz0 hz1 hz2 rfl (by decide) _ _ _ rfl (hown.alloc _) ⟨w4.heap.size, 0, none⟩ 1 1 [.string x1] rfl rfl ?c1 ?c2 ?c3 ?c4 ?c5 ?_)
      case c1 => exact World.news_of_block (heap_alloc_new w4 _)
      case c2 => exact fun u hu => by rw [List.mem_singleton] at hu; rw [hu]; rfl
      case c3 => unfold maxLen; omega
      case c4 => omega
      case c5 => simp; omega
      intro v' w5 hown5 hgr5 _ hat5
      have G5 : Gl EStr 9 1 w w5 b p c ws v' (l ++ [x1]) t1 := HG4.out.1.more eStr HG4.out.2 (x := x1) (d := [.string x1]) rfl rfl hown5 hgr5 hat5
      have HG5 : Hid (Gl EStr 9 1 w w5 b p c ws v' (l ++ [x1]) t1) := G5
      clear hown hown5 hgr5 hat5 G5
      go_wp2_with fail
      go_roundw
      case rel =>
        refine ⟨m, l ++ [x1], t1, ?_⟩
        obtain ⟨-, a1, a2, a3, a4, a5, a6, a7⟩ := HG2.out
        have hh : Gl EStr 9 1 w w5 b p c ws v' (l ++ [x1]) t1 ∧ pathL ws m (l ++ [x1]) t1 = V ∧ ws.length ≤ t1.at' + m ∧ 0 < (l ++ [x1]).length ∧ (l ++ [x1]).length ≤ t1.at' + 1 ∧ ∀ x ∈ l ++ [x1], x.data.toList.length ≤ 10000 := by
          refine ⟨HG5.out, a1, by omega, by simp, by simp; omega, fun x hx => ?_⟩
          rcases List.mem_append.1 hx with hx | hx
          · exact a4 x hx
          · have e : x = x1 := by simpa using hx
            rw [e]
            exact a6
        exact hh
      case measure =>
        obtain ⟨-, a1, a2, a3, a4, a5, a6, a7⟩ := HG2.out
        rw [HG5.out.ps.atW, HG2.out.1.ps.atW]
        omega
    · rw [if_neg hy] at hlo kt
      have hf : isP (wAt ws t.at') 6 [46] = false := by simpa using hy
      rw [hf] at kt
      subst hlo
      have HG2 : Hid (Gl EStr 9 1 w wr b p c ws u3 l t ∧ 0 < l.length ∧ (∀ x ∈ l, x.data.toList.length ≤ 10000)) := ⟨G, h0, hlx⟩
      have hlw : l.length ≤ 3001 := by omega
      clear HG HV hle h0 hll hlx G hI hy hh hw2 lx hf
      go_wp2_with fail
      refine kt.mono ?_
      rintro q w3 ⟨rfl, hP3, hO3⟩
      have G3 := HG2.out.1.calls eStr hO3 hP3
      obtain ⟨L, hown, hels⟩ := G3.own
      obtain ⟨g, cap, rfl, hcap, hg, hcl⟩ := own_strs hown (hels.imp eStr fun _ _ _ => trivial) HG2.out.2.1
      have jl := joinB_len l HG2.out.2.2
      have kj := Tryz.strings_Join g 0 cap l ⟨#[46]⟩ w3 hcl hg (by omega) hcap (by
        have e := join_joinB l
        show (Lib.join (l.map (·.data.toList)) [46]).length ≤ _
        rw [e]
        omega)
      have kj' : Calls Tryz.prog 137 #[.slice (some ⟨g, 0, none⟩) l.length cap, .string ⟨#[46]⟩] w3 fun e w' => e = .returned (.string ⟨(joinB l).toArray⟩) ∧ Below w3.heap.size w3 w' := by
        have e := join_joinB l
        rw [← e]
        exact kj
      obtain ⟨J, hJ⟩ : ∃ J : ByteArray, ⟨(joinB l).toArray⟩ = J := ⟨_, rfl⟩
      rw [hJ] at kj'
      have HG3 : Hid (Ps w3 b p c ws t ∧ Onl b w w3 ∧ (⟨(joinB l).toArray⟩ : ByteArray) = J) := ⟨hP3, G3.onl, hJ⟩
      clear kt hP3 hO3 G3 hown hels hcl kj jl hJ
      go_wp2_with fail
      refine kj'.mono ?_
      rintro q w4 ⟨rfl, hb4⟩
      clear kj'
      go_wp2
      go_ret
      refine ⟨?_, HG3.out.1.later hb4, HG3.out.2.1.trans (Onl.of hb4)⟩
      rw [← HG3.out.2.2]
      rfl
end Go.Proofs.YtnnclhmhbmbkfaaGreatDoor
namespace Go.Proofs.YtnnclhmhbmbkfaaGreatDoor
open Go.RowKit Go.Shelf
attribute [local go_sem] Oper.semAt_some fw0 fw1 fw2
theorem info28c : (Tryz.prog.info? 28).map (fun i => (i.zero, i.size, i.bytes)) = some (some (.agg #[.int .i64 0, .string ⟨#[]⟩, .int .i64 0, .bool false, .int .i64 0, .string ⟨#[]⟩, .slice none 0 0, .slice none 0 0, .slice none 0 0, .slice none 0 0]), 10, 160) := by kernel_rfl
set_option maxRecDepth 100000 in
set_option maxHeartbeats 8000000 in
theorem commasE_any {w : World} {b : Nat} {p : Option Addr} {c : Nat} {ws : List Wd} {s : PS} (H : Ps w b p c ws s) (hz : Wz ws) (F : PS → Et × PS) (hF : ∀ u, u.at' < ws.length → Pk 0 0 ws u (F u).2)
    (kb : ∀ W u, Ps W b p c ws u → Pk 0 0 ws s u → Calls Tryz.prog 84 #[.pointer (some ⟨b, 0, none⟩)] W fun r w' => ∃ v d, r = .returned v ∧ v = .agg d.toArray ∧ EExp w' (fun k => W.heap.size ≤ k) (F u).1 d ∧ Ps w' b p c ws (F u).2 ∧ Onl b W w') :
    Calls Tryz.prog 174 #[.pointer (some ⟨b, 0, none⟩), .func (.func 84) #[.pointer (some ⟨b, 0, none⟩)] #[]] w fun r w' => ∃ v, r = .returned v ∧ Gl EExp 28 10 w w' b p c ws v (comF ws F 33 [] s).1 (comF ws F 33 [] s).2 := by
  obtain ⟨V, hV⟩ : ∃ V, comF ws F 33 [] s = V := ⟨_, rfl⟩
  rw [hV]
  have HV : Hid (comF ws F 33 [] s = V ∧ Ps w b p c ws s) := ⟨hV, H⟩
  have HF : Hid (∀ u, u.at' < ws.length → Pk 0 0 ws u (F u).2) := hF
  clear H hV hF
  obtain ⟨i0, hi, hz0, hz1, hz2⟩ := info_parts info28c
  go_enter Tryz.func174, Tryz.ntmps174
  go_wp2_with fail
  go_loopw [5] (fun c5 wr => ∃ n l t, (n + l.length = 33 ∧ 0 < n) ∧ (∃ q k, c5 = .slice q l.length k) ∧ Hid (Gl EExp 28 10 w wr b p c ws c5 l t ∧ comF ws F n l t = V ∧ Pk 0 0 ws s t)) (fun c5 _ => 33 - lenOf c5)
  case atStart =>
    refine ⟨33, [], s, ⟨rfl, by decide⟩, ⟨none, 0, rfl⟩, ?_⟩
    have hh : Gl EExp 28 10 w w b p c ws (.slice none 0 0) [] s ∧ comF ws F 33 [] s = V ∧ Pk 0 0 ws s s := ⟨Gl.start _ _ _ HV.out.2, HV.out.1, Pk.refl HV.out.2.lt⟩
    exact hh
  case round =>
    obtain ⟨n, l, t, ⟨hn, hn0⟩, ⟨q5, k5, rfl⟩, hh⟩ := hrel
    obtain ⟨G, hlo, hpk⟩ := hh.out
    by_cases h32 : l.length = 32
    · obtain rfl : n = 1 := by omega
      have hlo2 : ([], failP ws t 3) = V := by
        unfold comF at hlo
        rw [if_pos h32] at hlo
        exact hlo
      have kf := fail_any G.ps 3
      have HG : Hid (Gl EExp 28 10 w wr b p c ws (.slice q5 l.length k5) l t) := G
      have h32' : (l.length : Int) = 32 := by omega
      subst hlo2
      clear hlo G hpk hh h32 HV
      go_wp2_with fail
      refine kf.mono ?_
      rintro r w2 ⟨rfl, hP2, hO2⟩
      have HG2 : Hid (Ps w2 b p c ws (failP ws t 3) ∧ Onl b wr w2) := ⟨hP2, hO2⟩
      clear kf hP2 hO2
      go_wp2
      go_ret
      exact ⟨_, rfl, ⟨[], World.ownsRow_nil _ _ _ _, rfl⟩, HG.out.onl.trans HG2.out.2, HG2.out.1, HG.out.lb, HG.out.old⟩
    · obtain ⟨m, rfl⟩ : ∃ m, n = m + 1 := ⟨n - 1, by omega⟩
      unfold comF at hlo
      rw [if_neg h32] at hlo
      have h32' : ¬ (l.length : Int) = 32 := by omega
      have kb1 := kb wr t G.ps hpk
      have hpk2 := hpk.trans (HF.out t G.ps.lt)
      obtain ⟨X, hX⟩ : ∃ X, F t = X := ⟨_, rfl⟩
      rw [hX] at kb1 hlo hpk2
      have HG : Hid (Gl EExp 28 10 w wr b p c ws (.slice q5 l.length k5) l t ∧ (if isP (wAt ws X.2.at') 6 [44] = true then comF ws F m (l ++ [X.1]) (takeP X.2) else (l ++ [X.1], X.2)) = V ∧ Pk 0 0 ws s X.2) := ⟨G, hlo, hpk2⟩
      have hlw : l.length ≤ 32 := by omega
      clear hlo G hpk hpk2 hh hX HV h32
      go_wp2_with fail
      refine kb1.mono ?_
      rintro r w2 ⟨v2, d2, rfl, hv2, hE2, hP2, hO2⟩
      have G2 := HG.out.1.calls eExp hO2 hP2
      obtain ⟨L, hown, hels⟩ := G2.own
      have hsz := G2.onl.size
      have hszr := HG.out.1.onl.size
      obtain ⟨dd, hdd⟩ := id hE2
      obtain ⟨R, hR⟩ := hdd.row
      have hd2 : d2 = [.int .i64 R.k, .string R.s, .int .i64 R.vk, .bool R.vb, .int .i64 R.vn, .string R.vs, .slice none 0 0, .slice none 0 0, .slice R.kp R.n R.kc, .slice R.np R.m R.nc] := by
        unfold rowX at hR
        injection hR with hR
        have := congrArg Array.toList hR
        simpa using this
      subst hd2
      subst hv2
      clear hdd hR
      have HG2 : Hid (Gl EExp 28 10 w w2 b p c ws (.slice q5 l.length k5) l X.2 ∧ Els EExp w2 (fun k => w.heap.size ≤ k ∧ (Value.slice q5 l.length k5).ownBlock ≠ some k) l L ∧ EExp w2 (fun k => w.heap.size ≤ k ∧ (Value.slice q5 l.length k5).ownBlock ≠ some k) X.1 [.int .i64 R.k, .string R.s, .int .i64 R.vk, .bool R.vb, .int .i64 R.vn, .string R.vs, .slice none 0 0, .slice none 0 0, .slice R.kp R.n R.kc, .slice R.np R.m R.nc]) := by
        refine ⟨G2, hels, eExp.imp (fun k hk hl => ⟨by omega, fun e => ?_⟩) hE2⟩
        obtain ⟨L1, hown1, -⟩ := HG.out.1.own
        have := (hown1.lt k e).2
        omega
      clear kb1 hP2 hO2 G2 hels hE2
      go_wp2_with (at_builtin; refine wpList_append_own_at _ rfl _ _ 26 rfl w.heap.size 28 i0 (.agg #[.int .i64 0, .string ⟨#[]⟩, .int .i64 0, .bool false, .int .i64 0, .string ⟨#[]⟩, .slice none 0 0, .slice none 0 0, .slice none 0 0, .slice none 0 0]) 10 160 Tryz.underlying26 hi hz0 hz1 hz2 rfl (by decide) _ _ _ rfl (hown.alloc _) ⟨w2.heap.size, 0, none⟩ 1 1 [.int .i64 R.k, .string R.s, .int .i64 R.vk, .bool R.vb, .int .i64 R.vn, .string R.vs, .slice none 0 0, .slice none 0 0, .slice R.kp R.n R.kc, .slice R.np R.m R.nc] rfl rfl ?c1 ?c2 ?c3 ?c4 ?c5 ?_)
      case c1 => exact World.news_of_block (heap_alloc_new w2 _)
      case c2 => exact eExp.ones HG2.out.2.2
      case c3 => unfold maxLen; omega
      case c4 => omega
      case c5 => simp; omega
      intro v' w5 hown5 hgr5 _ hat5
      have G5 : Gl EExp 28 10 w w5 b p c ws v' (l ++ [X.1]) X.2 := HG2.out.1.more eExp HG2.out.2.1 (x := X.1) (d := [.int .i64 R.k, .string R.s, .int .i64 R.vk, .bool R.vb, .int .i64 R.vn, .string R.vs, .slice none 0 0, .slice none 0 0, .slice R.kp R.n R.kc, .slice R.np R.m R.nc]) HG2.out.2.2 rfl hown5 hgr5 hat5
      have kt := tookSign_any G5.ps hz ⟨#[44]⟩
      have hI : isW (wAt ws X.2.at') 6 ⟨#[44]⟩ = isP (wAt ws X.2.at') 6 [44] := isW_isP _ _ _
      unfold tookP at kt
      rw [hI] at kt
      obtain ⟨q6, k6, rfl⟩ := own_len hown5
      have HG5 : Hid (Gl EExp 28 10 w w5 b p c ws (.slice q6 (l.length + 1) k6) (l ++ [X.1]) X.2) := G5
      clear hown hown5 hgr5 hat5 G5 hI HG2
      by_cases hy : isP (wAt ws X.2.at') 6 [44] = true
      · rw [hy, if_pos rfl] at kt
        have hlo : comF ws F m (l ++ [X.1]) (takeP X.2) = V := by
          have := HG.out.2.1
          rw [if_pos hy] at this
          exact this
        have hpk3 := (HG.out.2.2.is hz hy (by decide)).less
        have H3 : Hid (comF ws F m (l ++ [X.1]) (takeP X.2) = V ∧ Pk 0 0 ws s (takeP X.2)) := ⟨hlo, hpk3⟩
        clear hlo hpk3 hy HG
        go_wp2_with fail
        refine kt.mono ?_
        rintro r w6 ⟨rfl, hP6, hO6⟩
        have G6 := HG5.out.calls eExp hO6 hP6
        have HG6 : Hid (Gl EExp 28 10 w w6 b p c ws (.slice q6 (l.length + 1) k6) (l ++ [X.1]) (takeP X.2)) := G6
        clear kt hP6 hO6 G6 HG5
        go_wp2_with fail
        go_roundw
        case rel =>
          refine ⟨m, l ++ [X.1], takeP X.2, ⟨by simp; omega, by omega⟩, ⟨q6, k6, by simp⟩, ?_⟩
          have hh : Gl EExp 28 10 w w6 b p c ws (.slice q6 (l.length + 1) k6) (l ++ [X.1]) (takeP X.2) ∧ comF ws F m (l ++ [X.1]) (takeP X.2) = V ∧ Pk 0 0 ws s (takeP X.2) := ⟨HG6.out, H3.out.1, H3.out.2⟩
          exact hh
        case measure =>
          simp only [lenOf]
          omega
      · have hf : isP (wAt ws X.2.at') 6 [44] = false := by simpa using hy
        rw [hf, if_neg Bool.false_ne_true] at kt
        have hlo : (l ++ [X.1], X.2) = V := by
          have := HG.out.2.1
          rw [if_neg hy] at this
          exact this
        subst hlo
        clear hy hf HG
        go_wp2_with fail
        refine kt.mono ?_
        rintro r w6 ⟨rfl, hP6, hO6⟩
        have G6 := HG5.out.calls eExp hO6 hP6
        have HG6 : Hid (Gl EExp 28 10 w w6 b p c ws (.slice q6 (l.length + 1) k6) (l ++ [X.1]) X.2) := G6
        clear kt hP6 hO6 G6 HG5
        go_wp2
        go_ret
        exact ⟨_, rfl, HG6.out⟩
end Go.Proofs.YtnnclhmhbmbkfaaGreatDoor
namespace Go.Proofs.YtnnclhmhbmbkfaaGreatDoor
open Go.RowKit Go.Shelf
attribute [local go_sem] Oper.semAt_some fw0 fw1 fw2
theorem info98c : (Tryz.prog.info? 125).map (fun i => (i.zero, i.size, i.bytes)) = some (some (.agg #[.string ⟨#[]⟩, .int .i64 0, .string ⟨#[]⟩, .int .i64 0, .bool false, .int .i64 0, .string ⟨#[]⟩, .slice none 0 0, .slice none 0 0, .slice none 0 0, .slice none 0 0]), 11, 176) := by kernel_rfl
set_option maxRecDepth 100000 in
set_option maxHeartbeats 8000000 in
theorem commasP_any {w : World} {b : Nat} {p : Option Addr} {c : Nat} {ws : List Wd} {s : PS} (H : Ps w b p c ws s) (hz : Wz ws) (F : PS → (ByteArray × Et) × PS) (hF : ∀ u, u.at' < ws.length → Pk 0 0 ws u (F u).2)
    (kb : ∀ W u, Ps W b p c ws u → Pk 0 0 ws s u → Calls Tryz.prog 175 #[.pointer (some ⟨b, 0, none⟩)] W fun r w' => ∃ v d, r = .returned v ∧ v = .agg d.toArray ∧ EFld w' (fun k => W.heap.size ≤ k) (F u).1 d ∧ Ps w' b p c ws (F u).2 ∧ Onl b W w') :
    Calls Tryz.prog 86 #[.pointer (some ⟨b, 0, none⟩), .func (.func 175) #[.pointer (some ⟨b, 0, none⟩)] #[]] w fun r w' => ∃ v, r = .returned v ∧ Gl EFld 125 11 w w' b p c ws v (comF ws F 33 [] s).1 (comF ws F 33 [] s).2 := by
  obtain ⟨V, hV⟩ : ∃ V, comF ws F 33 [] s = V := ⟨_, rfl⟩
  rw [hV]
  have HV : Hid (comF ws F 33 [] s = V ∧ Ps w b p c ws s) := ⟨hV, H⟩
  have HF : Hid (∀ u, u.at' < ws.length → Pk 0 0 ws u (F u).2) := hF
  clear H hV hF
  obtain ⟨i0, hi, hz0, hz1, hz2⟩ := info_parts info98c
  go_enter Tryz.func86, Tryz.ntmps86
  go_wp2_with fail
  go_loopw [5] (fun c5 wr => ∃ n l t, (n + l.length = 33 ∧ 0 < n) ∧ (∃ q k, c5 = .slice q l.length k) ∧ Hid (Gl EFld 125 11 w wr b p c ws c5 l t ∧ comF ws F n l t = V ∧ Pk 0 0 ws s t)) (fun c5 _ => 33 - lenOf c5)
  case atStart =>
    refine ⟨33, [], s, ⟨rfl, by decide⟩, ⟨none, 0, rfl⟩, ?_⟩
    have hh : Gl EFld 125 11 w w b p c ws (.slice none 0 0) [] s ∧ comF ws F 33 [] s = V ∧ Pk 0 0 ws s s := ⟨Gl.start _ _ _ HV.out.2, HV.out.1, Pk.refl HV.out.2.lt⟩
    exact hh
  case round =>
    obtain ⟨n, l, t, ⟨hn, hn0⟩, ⟨q5, k5, rfl⟩, hh⟩ := hrel
    obtain ⟨G, hlo, hpk⟩ := hh.out
    by_cases h32 : l.length = 32
    · obtain rfl : n = 1 := by omega
      have hlo2 : ([], failP ws t 3) = V := by
        unfold comF at hlo
        rw [if_pos h32] at hlo
        exact hlo
      have kf := fail_any G.ps 3
      have HG : Hid (Gl EFld 125 11 w wr b p c ws (.slice q5 l.length k5) l t) := G
      have h32' : (l.length : Int) = 32 := by omega
      subst hlo2
      clear hlo G hpk hh h32 HV
      go_wp2_with fail
      refine kf.mono ?_
      rintro r w2 ⟨rfl, hP2, hO2⟩
      have HG2 : Hid (Ps w2 b p c ws (failP ws t 3) ∧ Onl b wr w2) := ⟨hP2, hO2⟩
      clear kf hP2 hO2
      go_wp2
      go_ret
      exact ⟨_, rfl, ⟨[], World.ownsRow_nil _ _ _ _, rfl⟩, HG.out.onl.trans HG2.out.2, HG2.out.1, HG.out.lb, HG.out.old⟩
    · obtain ⟨m, rfl⟩ : ∃ m, n = m + 1 := ⟨n - 1, by omega⟩
      unfold comF at hlo
      rw [if_neg h32] at hlo
      have h32' : ¬ (l.length : Int) = 32 := by omega
      have kb1 := kb wr t G.ps hpk
      have hpk2 := hpk.trans (HF.out t G.ps.lt)
      obtain ⟨X, hX⟩ : ∃ X, F t = X := ⟨_, rfl⟩
      rw [hX] at kb1 hlo hpk2
      have HG : Hid (Gl EFld 125 11 w wr b p c ws (.slice q5 l.length k5) l t ∧ (if isP (wAt ws X.2.at') 6 [44] = true then comF ws F m (l ++ [X.1]) (takeP X.2) else (l ++ [X.1], X.2)) = V ∧ Pk 0 0 ws s X.2) := ⟨G, hlo, hpk2⟩
      have hlw : l.length ≤ 32 := by omega
      clear hlo G hpk hpk2 hh hX HV h32
      go_wp2_with fail
      refine kb1.mono ?_
      rintro r w2 ⟨v2, d2, rfl, hv2, hE2, hP2, hO2⟩
      have G2 := HG.out.1.calls eFld hO2 hP2
      obtain ⟨L, hown, hels⟩ := G2.own
      have hsz := G2.onl.size
      have hszr := HG.out.1.onl.size
      obtain ⟨e2, he2, dd, hdd⟩ := id hE2
      obtain ⟨R, hR⟩ := hdd.row
      have hd2 : d2 = [.string X.1.1, .int .i64 R.k, .string R.s, .int .i64 R.vk, .bool R.vb, .int .i64 R.vn, .string R.vs, .slice none 0 0, .slice none 0 0, .slice R.kp R.n R.kc, .slice R.np R.m R.nc] := by
        unfold rowX at hR
        injection hR with hR
        have := congrArg Array.toList hR
        rw [he2]
        simpa using this
      subst hd2
      subst hv2
      clear hdd hR he2
      have HG2 : Hid (Gl EFld 125 11 w w2 b p c ws (.slice q5 l.length k5) l X.2 ∧ Els EFld w2 (fun k => w.heap.size ≤ k ∧ (Value.slice q5 l.length k5).ownBlock ≠ some k) l L ∧ EFld w2 (fun k => w.heap.size ≤ k ∧ (Value.slice q5 l.length k5).ownBlock ≠ some k) X.1 [.string X.1.1, .int .i64 R.k, .string R.s, .int .i64 R.vk, .bool R.vb, .int .i64 R.vn, .string R.vs, .slice none 0 0, .slice none 0 0, .slice R.kp R.n R.kc, .slice R.np R.m R.nc]) := by
        refine ⟨G2, hels, eFld.imp (fun k hk hl => ⟨by omega, fun e => ?_⟩) hE2⟩
        obtain ⟨L1, hown1, -⟩ := HG.out.1.own
        have := (hown1.lt k e).2
        omega
      clear kb1 hP2 hO2 G2 hels hE2
      go_wp2_with (at_builtin; refine wpList_append_own_at _ rfl _ _ 122 rfl w.heap.size 125 i0 (.agg #[.string ⟨#[]⟩, .int .i64 0, .string ⟨#[]⟩, .int .i64 0, .bool false, .int .i64 0, .string ⟨#[]⟩, .slice none 0 0, .slice none 0 0, .slice none 0 0, .slice none 0 0]) 11 176 Tryz.underlying122 hi hz0 hz1 hz2 rfl (by decide) _ _ _ rfl (hown.alloc _) ⟨w2.heap.size, 0, none⟩ 1 1 [.string X.1.1, .int .i64 R.k, .string R.s, .int .i64 R.vk, .bool R.vb, .int .i64 R.vn, .string R.vs, .slice none 0 0, .slice none 0 0, .slice R.kp R.n R.kc, .slice R.np R.m R.nc] rfl rfl ?c1 ?c2 ?c3 ?c4 ?c5 ?_)
      case c1 => exact World.news_of_block (heap_alloc_new w2 _)
      case c2 => exact eFld.ones HG2.out.2.2
      case c3 => unfold maxLen; omega
      case c4 => omega
      case c5 => simp; omega
      intro v' w5 hown5 hgr5 _ hat5
      have G5 : Gl EFld 125 11 w w5 b p c ws v' (l ++ [X.1]) X.2 := HG2.out.1.more eFld HG2.out.2.1 (x := X.1) (d := [.string X.1.1, .int .i64 R.k, .string R.s, .int .i64 R.vk, .bool R.vb, .int .i64 R.vn, .string R.vs, .slice none 0 0, .slice none 0 0, .slice R.kp R.n R.kc, .slice R.np R.m R.nc]) HG2.out.2.2 rfl hown5 hgr5 hat5
      have kt := tookSign_any G5.ps hz ⟨#[44]⟩
      have hI : isW (wAt ws X.2.at') 6 ⟨#[44]⟩ = isP (wAt ws X.2.at') 6 [44] := isW_isP _ _ _
      unfold tookP at kt
      rw [hI] at kt
      obtain ⟨q6, k6, rfl⟩ := own_len hown5
      have HG5 : Hid (Gl EFld 125 11 w w5 b p c ws (.slice q6 (l.length + 1) k6) (l ++ [X.1]) X.2) := G5
      clear hown hown5 hgr5 hat5 G5 hI HG2
      by_cases hy : isP (wAt ws X.2.at') 6 [44] = true
      · rw [hy, if_pos rfl] at kt
        have hlo : comF ws F m (l ++ [X.1]) (takeP X.2) = V := by
          have := HG.out.2.1
          rw [if_pos hy] at this
          exact this
        have hpk3 := (HG.out.2.2.is hz hy (by decide)).less
        have H3 : Hid (comF ws F m (l ++ [X.1]) (takeP X.2) = V ∧ Pk 0 0 ws s (takeP X.2)) := ⟨hlo, hpk3⟩
        clear hlo hpk3 hy HG
        go_wp2_with fail
        refine kt.mono ?_
        rintro r w6 ⟨rfl, hP6, hO6⟩
        have G6 := HG5.out.calls eFld hO6 hP6
        have HG6 : Hid (Gl EFld 125 11 w w6 b p c ws (.slice q6 (l.length + 1) k6) (l ++ [X.1]) (takeP X.2)) := G6
        clear kt hP6 hO6 G6 HG5
        go_wp2_with fail
        go_roundw
        case rel =>
          refine ⟨m, l ++ [X.1], takeP X.2, ⟨by simp; omega, by omega⟩, ⟨q6, k6, by simp⟩, ?_⟩
          have hh : Gl EFld 125 11 w w6 b p c ws (.slice q6 (l.length + 1) k6) (l ++ [X.1]) (takeP X.2) ∧ comF ws F m (l ++ [X.1]) (takeP X.2) = V ∧ Pk 0 0 ws s (takeP X.2) := ⟨HG6.out, H3.out.1, H3.out.2⟩
          exact hh
        case measure =>
          simp only [lenOf]
          omega
      · have hf : isP (wAt ws X.2.at') 6 [44] = false := by simpa using hy
        rw [hf, if_neg Bool.false_ne_true] at kt
        have hlo : (l ++ [X.1], X.2) = V := by
          have := HG.out.2.1
          rw [if_neg hy] at this
          exact this
        subst hlo
        clear hy hf HG
        go_wp2_with fail
        refine kt.mono ?_
        rintro r w6 ⟨rfl, hP6, hO6⟩
        have G6 := HG5.out.calls eFld hO6 hP6
        have HG6 : Hid (Gl EFld 125 11 w w6 b p c ws (.slice q6 (l.length + 1) k6) (l ++ [X.1]) X.2) := G6
        clear kt hP6 hO6 G6 HG5
        go_wp2
        go_ret
        exact ⟨_, rfl, HG6.out⟩
end Go.Proofs.YtnnclhmhbmbkfaaGreatDoor
namespace Go.Proofs.YtnnclhmhbmbkfaaGreatDoor
open Go.RowKit Go.Shelf
attribute [local go_sem] Oper.semAt_some fw0 fw1 fw2
theorem info98d : (Tryz.prog.info? 125).map (fun i => (i.zero, i.size, i.bytes)) = some (some (.agg #[.string ⟨#[]⟩, .int .i64 0, .string ⟨#[]⟩, .int .i64 0, .bool false, .int .i64 0, .string ⟨#[]⟩, .slice none 0 0, .slice none 0 0, .slice none 0 0, .slice none 0 0]), 11, 176) := by kernel_rfl
set_option maxRecDepth 100000 in
set_option maxHeartbeats 8000000 in
theorem commasA_any {w : World} {b : Nat} {p : Option Addr} {c : Nat} {ws : List Wd} {s : PS} (H : Ps w b p c ws s) (hz : Wz ws) (F : PS → (ByteArray × Et) × PS) (hF : ∀ u, u.at' < ws.length → Pk 0 0 ws u (F u).2)
    (kb : ∀ W u, Ps W b p c ws u → Pk 0 0 ws s u → Calls Tryz.prog 87 #[.pointer (some ⟨b, 0, none⟩)] W fun r w' => ∃ v d, r = .returned v ∧ v = .agg d.toArray ∧ EFld w' (fun k => W.heap.size ≤ k) (F u).1 d ∧ Ps w' b p c ws (F u).2 ∧ Onl b W w') :
    Calls Tryz.prog 86 #[.pointer (some ⟨b, 0, none⟩), .func (.func 87) #[.pointer (some ⟨b, 0, none⟩)] #[]] w fun r w' => ∃ v, r = .returned v ∧ Gl EFld 125 11 w w' b p c ws v (comF ws F 33 [] s).1 (comF ws F 33 [] s).2 := by
  obtain ⟨V, hV⟩ : ∃ V, comF ws F 33 [] s = V := ⟨_, rfl⟩
  rw [hV]
  have HV : Hid (comF ws F 33 [] s = V ∧ Ps w b p c ws s) := ⟨hV, H⟩
  have HF : Hid (∀ u, u.at' < ws.length → Pk 0 0 ws u (F u).2) := hF
  clear H hV hF
  obtain ⟨i0, hi, hz0, hz1, hz2⟩ := info_parts info98d
  go_enter Tryz.func86, Tryz.ntmps86
  go_wp2_with fail
  go_loopw [5] (fun c5 wr => ∃ n l t, (n + l.length = 33 ∧ 0 < n) ∧ (∃ q k, c5 = .slice q l.length k) ∧ Hid (Gl EFld 125 11 w wr b p c ws c5 l t ∧ comF ws F n l t = V ∧ Pk 0 0 ws s t)) (fun c5 _ => 33 - lenOf c5)
  case atStart =>
    refine ⟨33, [], s, ⟨rfl, by decide⟩, ⟨none, 0, rfl⟩, ?_⟩
    have hh : Gl EFld 125 11 w w b p c ws (.slice none 0 0) [] s ∧ comF ws F 33 [] s = V ∧ Pk 0 0 ws s s := ⟨Gl.start _ _ _ HV.out.2, HV.out.1, Pk.refl HV.out.2.lt⟩
    exact hh
  case round =>
    obtain ⟨n, l, t, ⟨hn, hn0⟩, ⟨q5, k5, rfl⟩, hh⟩ := hrel
    obtain ⟨G, hlo, hpk⟩ := hh.out
    by_cases h32 : l.length = 32
    · obtain rfl : n = 1 := by omega
      have hlo2 : ([], failP ws t 3) = V := by
        unfold comF at hlo
        rw [if_pos h32] at hlo
        exact hlo
      have kf := fail_any G.ps 3
      have HG : Hid (Gl EFld 125 11 w wr b p c ws (.slice q5 l.length k5) l t) := G
      have h32' : (l.length : Int) = 32 := by omega
      subst hlo2
      clear hlo G hpk hh h32 HV
      go_wp2_with fail
      refine kf.mono ?_
      rintro r w2 ⟨rfl, hP2, hO2⟩
      have HG2 : Hid (Ps w2 b p c ws (failP ws t 3) ∧ Onl b wr w2) := ⟨hP2, hO2⟩
      clear kf hP2 hO2
      go_wp2
      go_ret
      exact ⟨_, rfl, ⟨[], World.ownsRow_nil _ _ _ _, rfl⟩, HG.out.onl.trans HG2.out.2, HG2.out.1, HG.out.lb, HG.out.old⟩
    · obtain ⟨m, rfl⟩ : ∃ m, n = m + 1 := ⟨n - 1, by omega⟩
      unfold comF at hlo
      rw [if_neg h32] at hlo
      have h32' : ¬ (l.length : Int) = 32 := by omega
      have kb1 := kb wr t G.ps hpk
      have hpk2 := hpk.trans (HF.out t G.ps.lt)
      obtain ⟨X, hX⟩ : ∃ X, F t = X := ⟨_, rfl⟩
      rw [hX] at kb1 hlo hpk2
      have HG : Hid (Gl EFld 125 11 w wr b p c ws (.slice q5 l.length k5) l t ∧ (if isP (wAt ws X.2.at') 6 [44] = true then comF ws F m (l ++ [X.1]) (takeP X.2) else (l ++ [X.1], X.2)) = V ∧ Pk 0 0 ws s X.2) := ⟨G, hlo, hpk2⟩
      have hlw : l.length ≤ 32 := by omega
      clear hlo G hpk hpk2 hh hX HV h32
      go_wp2_with fail
      refine kb1.mono ?_
      rintro r w2 ⟨v2, d2, rfl, hv2, hE2, hP2, hO2⟩
      have G2 := HG.out.1.calls eFld hO2 hP2
      obtain ⟨L, hown, hels⟩ := G2.own
      have hsz := G2.onl.size
      have hszr := HG.out.1.onl.size
      obtain ⟨e2, he2, dd, hdd⟩ := id hE2
      obtain ⟨R, hR⟩ := hdd.row
      have hd2 : d2 = [.string X.1.1, .int .i64 R.k, .string R.s, .int .i64 R.vk, .bool R.vb, .int .i64 R.vn, .string R.vs, .slice none 0 0, .slice none 0 0, .slice R.kp R.n R.kc, .slice R.np R.m R.nc] := by
        unfold rowX at hR
        injection hR with hR
        have := congrArg Array.toList hR
        rw [he2]
        simpa using this
      subst hd2
      subst hv2
      clear hdd hR he2
      have HG2 : Hid (Gl EFld 125 11 w w2 b p c ws (.slice q5 l.length k5) l X.2 ∧ Els EFld w2 (fun k => w.heap.size ≤ k ∧ (Value.slice q5 l.length k5).ownBlock ≠ some k) l L ∧ EFld w2 (fun k => w.heap.size ≤ k ∧ (Value.slice q5 l.length k5).ownBlock ≠ some k) X.1 [.string X.1.1, .int .i64 R.k, .string R.s, .int .i64 R.vk, .bool R.vb, .int .i64 R.vn, .string R.vs, .slice none 0 0, .slice none 0 0, .slice R.kp R.n R.kc, .slice R.np R.m R.nc]) := by
        refine ⟨G2, hels, eFld.imp (fun k hk hl => ⟨by omega, fun e => ?_⟩) hE2⟩
        obtain ⟨L1, hown1, -⟩ := HG.out.1.own
        have := (hown1.lt k e).2
        omega
      clear kb1 hP2 hO2 G2 hels hE2
      go_wp2_with (at_builtin; refine wpList_append_own_at _ rfl _ _ 122 rfl w.heap.size 125 i0 (.agg #[.string ⟨#[]⟩, .int .i64 0, .string ⟨#[]⟩, .int .i64 0, .bool false, .int .i64 0, .string ⟨#[]⟩, .slice none 0 0, .slice none 0 0, .slice none 0 0, .slice none 0 0]) 11 176 Tryz.underlying122 hi hz0 hz1 hz2 rfl (by decide) _ _ _ rfl (hown.alloc _) ⟨w2.heap.size, 0, none⟩ 1 1 [.string X.1.1, .int .i64 R.k, .string R.s, .int .i64 R.vk, .bool R.vb, .int .i64 R.vn, .string R.vs, .slice none 0 0, .slice none 0 0, .slice R.kp R.n R.kc, .slice R.np R.m R.nc] rfl rfl ?c1 ?c2 ?c3 ?c4 ?c5 ?_)
      case c1 => exact World.news_of_block (heap_alloc_new w2 _)
      case c2 => exact eFld.ones HG2.out.2.2
      case c3 => unfold maxLen; omega
      case c4 => omega
      case c5 => simp; omega
      intro v' w5 hown5 hgr5 _ hat5
      have G5 : Gl EFld 125 11 w w5 b p c ws v' (l ++ [X.1]) X.2 := HG2.out.1.more eFld HG2.out.2.1 (x := X.1) (d := [.string X.1.1, .int .i64 R.k, .string R.s, .int .i64 R.vk, .bool R.vb, .int .i64 R.vn, .string R.vs, .slice none 0 0, .slice none 0 0, .slice R.kp R.n R.kc, .slice R.np R.m R.nc]) HG2.out.2.2 rfl hown5 hgr5 hat5
      have kt := tookSign_any G5.ps hz ⟨#[44]⟩
      have hI : isW (wAt ws X.2.at') 6 ⟨#[44]⟩ = isP (wAt ws X.2.at') 6 [44] := isW_isP _ _ _
      unfold tookP at kt
      rw [hI] at kt
      obtain ⟨q6, k6, rfl⟩ := own_len hown5
      have HG5 : Hid (Gl EFld 125 11 w w5 b p c ws (.slice q6 (l.length + 1) k6) (l ++ [X.1]) X.2) := G5
      clear hown hown5 hgr5 hat5 G5 hI HG2
      by_cases hy : isP (wAt ws X.2.at') 6 [44] = true
      · rw [hy, if_pos rfl] at kt
        have hlo : comF ws F m (l ++ [X.1]) (takeP X.2) = V := by
          have := HG.out.2.1
          rw [if_pos hy] at this
          exact this
        have hpk3 := (HG.out.2.2.is hz hy (by decide)).less
        have H3 : Hid (comF ws F m (l ++ [X.1]) (takeP X.2) = V ∧ Pk 0 0 ws s (takeP X.2)) := ⟨hlo, hpk3⟩
        clear hlo hpk3 hy HG
        go_wp2_with fail
        refine kt.mono ?_
        rintro r w6 ⟨rfl, hP6, hO6⟩
        have G6 := HG5.out.calls eFld hO6 hP6
        have HG6 : Hid (Gl EFld 125 11 w w6 b p c ws (.slice q6 (l.length + 1) k6) (l ++ [X.1]) (takeP X.2)) := G6
        clear kt hP6 hO6 G6 HG5
        go_wp2_with fail
        go_roundw
        case rel =>
          refine ⟨m, l ++ [X.1], takeP X.2, ⟨by simp; omega, by omega⟩, ⟨q6, k6, by simp⟩, ?_⟩
          have hh : Gl EFld 125 11 w w6 b p c ws (.slice q6 (l.length + 1) k6) (l ++ [X.1]) (takeP X.2) ∧ comF ws F m (l ++ [X.1]) (takeP X.2) = V ∧ Pk 0 0 ws s (takeP X.2) := ⟨HG6.out, H3.out.1, H3.out.2⟩
          exact hh
        case measure =>
          simp only [lenOf]
          omega
      · have hf : isP (wAt ws X.2.at') 6 [44] = false := by simpa using hy
        rw [hf, if_neg Bool.false_ne_true] at kt
        have hlo : (l ++ [X.1], X.2) = V := by
          have := HG.out.2.1
          rw [if_neg hy] at this
          exact this
        subst hlo
        clear hy hf HG
        go_wp2_with fail
        refine kt.mono ?_
        rintro r w6 ⟨rfl, hP6, hO6⟩
        have G6 := HG5.out.calls eFld hO6 hP6
        have HG6 : Hid (Gl EFld 125 11 w w6 b p c ws (.slice q6 (l.length + 1) k6) (l ++ [X.1]) X.2) := G6
        clear kt hP6 hO6 G6 HG5
        go_wp2
        go_ret
        exact ⟨_, rfl, HG6.out⟩
end Go.Proofs.YtnnclhmhbmbkfaaGreatDoor
namespace Go.Proofs.YtnnclhmhbmbkfaaGreatDoor
open Go.RowKit Go.Shelf
attribute [local go_sem] Oper.semAt_some fw0 fw1 fw2
theorem info9c : (Tryz.prog.info? 9).map (fun i => (i.zero, i.size, i.bytes)) = some (some (.string ⟨#[]⟩), 1, 16) := by kernel_rfl
set_option maxRecDepth 100000 in
set_option maxHeartbeats 8000000 in
theorem commasS_any {w : World} {b : Nat} {p : Option Addr} {c : Nat} {ws : List Wd} {s : PS} (H : Ps w b p c ws s) (hz : Wz ws) (F : PS → ByteArray × PS) (hF : ∀ u, u.at' < ws.length → Pk 0 0 ws u (F u).2)
    (kb : ∀ W u, Ps W b p c ws u → Pk 0 0 ws s u → Calls Tryz.prog 117 #[.pointer (some ⟨b, 0, none⟩)] W fun r w' => ∃ v d, r = .returned v ∧ d = [v] ∧ EStr w' (fun k => W.heap.size ≤ k) (F u).1 d ∧ Ps w' b p c ws (F u).2 ∧ Onl b W w') :
    Calls Tryz.prog 116 #[.pointer (some ⟨b, 0, none⟩), .func (.func 117) #[.pointer (some ⟨b, 0, none⟩)] #[]] w fun r w' => ∃ v, r = .returned v ∧ Gl EStr 9 1 w w' b p c ws v (comF ws F 33 [] s).1 (comF ws F 33 [] s).2 := by
  obtain ⟨V, hV⟩ : ∃ V, comF ws F 33 [] s = V := ⟨_, rfl⟩
  rw [hV]
  have HV : Hid (comF ws F 33 [] s = V ∧ Ps w b p c ws s) := ⟨hV, H⟩
  have HF : Hid (∀ u, u.at' < ws.length → Pk 0 0 ws u (F u).2) := hF
  clear H hV hF
  obtain ⟨i0, hi, hz0, hz1, hz2⟩ := info_parts info9c
  go_enter Tryz.func116, Tryz.ntmps116
  go_wp2_with fail
  go_loopw [5] (fun c5 wr => ∃ n l t, (n + l.length = 33 ∧ 0 < n) ∧ (∃ q k, c5 = .slice q l.length k) ∧ Hid (Gl EStr 9 1 w wr b p c ws c5 l t ∧ comF ws F n l t = V ∧ Pk 0 0 ws s t)) (fun c5 _ => 33 - lenOf c5)
  case atStart =>
    refine ⟨33, [], s, ⟨rfl, by decide⟩, ⟨none, 0, rfl⟩, ?_⟩
    have hh : Gl EStr 9 1 w w b p c ws (.slice none 0 0) [] s ∧ comF ws F 33 [] s = V ∧ Pk 0 0 ws s s := ⟨Gl.start _ _ _ HV.out.2, HV.out.1, Pk.refl HV.out.2.lt⟩
    exact hh
  case round =>
    obtain ⟨n, l, t, ⟨hn, hn0⟩, ⟨q5, k5, rfl⟩, hh⟩ := hrel
    obtain ⟨G, hlo, hpk⟩ := hh.out
    by_cases h32 : l.length = 32
    · obtain rfl : n = 1 := by omega
      have hlo2 : ([], failP ws t 3) = V := by
        unfold comF at hlo
        rw [if_pos h32] at hlo
        exact hlo
      have kf := fail_any G.ps 3
      have HG : Hid (Gl EStr 9 1 w wr b p c ws (.slice q5 l.length k5) l t) := G
      have h32' : (l.length : Int) = 32 := by omega
      subst hlo2
      clear hlo G hpk hh h32 HV
      go_wp2_with fail
      refine kf.mono ?_
      rintro r w2 ⟨rfl, hP2, hO2⟩
      have HG2 : Hid (Ps w2 b p c ws (failP ws t 3) ∧ Onl b wr w2) := ⟨hP2, hO2⟩
      clear kf hP2 hO2
      go_wp2
      go_ret
      exact ⟨_, rfl, ⟨[], World.ownsRow_nil _ _ _ _, rfl⟩, HG.out.onl.trans HG2.out.2, HG2.out.1, HG.out.lb, HG.out.old⟩
    · obtain ⟨m, rfl⟩ : ∃ m, n = m + 1 := ⟨n - 1, by omega⟩
      unfold comF at hlo
      rw [if_neg h32] at hlo
      have h32' : ¬ (l.length : Int) = 32 := by omega
      have kb1 := kb wr t G.ps hpk
      have hpk2 := hpk.trans (HF.out t G.ps.lt)
      obtain ⟨X, hX⟩ : ∃ X, F t = X := ⟨_, rfl⟩
      rw [hX] at kb1 hlo hpk2
      have HG : Hid (Gl EStr 9 1 w wr b p c ws (.slice q5 l.length k5) l t ∧ (if isP (wAt ws X.2.at') 6 [44] = true then comF ws F m (l ++ [X.1]) (takeP X.2) else (l ++ [X.1], X.2)) = V ∧ Pk 0 0 ws s X.2) := ⟨G, hlo, hpk2⟩
      have hlw : l.length ≤ 32 := by omega
      clear hlo G hpk hpk2 hh hX HV h32
      go_wp2_with fail
      refine kb1.mono ?_
      rintro r w2 ⟨v2, d2, rfl, hv2, hE2, hP2, hO2⟩
      have G2 := HG.out.1.calls eStr hO2 hP2
      obtain ⟨L, hown, hels⟩ := G2.own
      have hsz := G2.onl.size
      have hszr := HG.out.1.onl.size
      have hE2' : d2 = [.string X.1] := hE2
      obtain rfl : v2 = .string X.1 := by
        rw [hE2'] at hv2
        injection hv2 with e _
        exact e.symm
      subst hE2'
      clear hv2
      have HG2 : Hid (Gl EStr 9 1 w w2 b p c ws (.slice q5 l.length k5) l X.2 ∧ Els EStr w2 (fun k => w.heap.size ≤ k ∧ (Value.slice q5 l.length k5).ownBlock ≠ some k) l L ∧ EStr w2 (fun k => w.heap.size ≤ k ∧ (Value.slice q5 l.length k5).ownBlock ≠ some k) X.1 [.string X.1]) := by
        refine ⟨G2, hels, eStr.imp (fun k hk hl => ⟨by omega, fun e => ?_⟩) hE2⟩
        obtain ⟨L1, hown1, -⟩ := HG.out.1.own
        have := (hown1.lt k e).2
        omega
      clear kb1 hP2 hO2 G2 hels hE2
      go_wp2_with (at_builtin; refine wpList_append_own_at _ rfl _ _ 23 rfl w.heap.size 9 i0 (.string ⟨#[]⟩) 1 16 Tryz.underlying23 hi hz0 hz1 hz2 rfl (by decide) _ _ _ rfl (hown.alloc _) ⟨w2.heap.size, 0, none⟩ 1 1 [.string X.1] rfl rfl ?c1 ?c2 ?c3 ?c4 ?c5 ?_)
      case c1 => exact World.news_of_block (heap_alloc_new w2 _)
      case c2 => exact eStr.ones HG2.out.2.2
      case c3 => unfold maxLen; omega
      case c4 => omega
      case c5 => simp; omega
      intro v' w5 hown5 hgr5 _ hat5
      have G5 : Gl EStr 9 1 w w5 b p c ws v' (l ++ [X.1]) X.2 := HG2.out.1.more eStr HG2.out.2.1 (x := X.1) (d := [.string X.1]) HG2.out.2.2 rfl hown5 hgr5 hat5
      have kt := tookSign_any G5.ps hz ⟨#[44]⟩
      have hI : isW (wAt ws X.2.at') 6 ⟨#[44]⟩ = isP (wAt ws X.2.at') 6 [44] := isW_isP _ _ _
      unfold tookP at kt
      rw [hI] at kt
      obtain ⟨q6, k6, rfl⟩ := own_len hown5
      have HG5 : Hid (Gl EStr 9 1 w w5 b p c ws (.slice q6 (l.length + 1) k6) (l ++ [X.1]) X.2) := G5
      clear hown hown5 hgr5 hat5 G5 hI HG2
      by_cases hy : isP (wAt ws X.2.at') 6 [44] = true
      · rw [hy, if_pos rfl] at kt
        have hlo : comF ws F m (l ++ [X.1]) (takeP X.2) = V := by
          have := HG.out.2.1
          rw [if_pos hy] at this
          exact this
        have hpk3 := (HG.out.2.2.is hz hy (by decide)).less
        have H3 : Hid (comF ws F m (l ++ [X.1]) (takeP X.2) = V ∧ Pk 0 0 ws s (takeP X.2)) := ⟨hlo, hpk3⟩
        clear hlo hpk3 hy HG
        go_wp2_with fail
        refine kt.mono ?_
        rintro r w6 ⟨rfl, hP6, hO6⟩
        have G6 := HG5.out.calls eStr hO6 hP6
        have HG6 : Hid (Gl EStr 9 1 w w6 b p c ws (.slice q6 (l.length + 1) k6) (l ++ [X.1]) (takeP X.2)) := G6
        clear kt hP6 hO6 G6 HG5
        go_wp2_with fail
        go_roundw
        case rel =>
          refine ⟨m, l ++ [X.1], takeP X.2, ⟨by simp; omega, by omega⟩, ⟨q6, k6, by simp⟩, ?_⟩
          have hh : Gl EStr 9 1 w w6 b p c ws (.slice q6 (l.length + 1) k6) (l ++ [X.1]) (takeP X.2) ∧ comF ws F m (l ++ [X.1]) (takeP X.2) = V ∧ Pk 0 0 ws s (takeP X.2) := ⟨HG6.out, H3.out.1, H3.out.2⟩
          exact hh
        case measure =>
          simp only [lenOf]
          omega
      · have hf : isP (wAt ws X.2.at') 6 [44] = false := by simpa using hy
        rw [hf, if_neg Bool.false_ne_true] at kt
        have hlo : (l ++ [X.1], X.2) = V := by
          have := HG.out.2.1
          rw [if_neg hy] at this
          exact this
        subst hlo
        clear hy hf HG
        go_wp2_with fail
        refine kt.mono ?_
        rintro r w6 ⟨rfl, hP6, hO6⟩
        have G6 := HG5.out.calls eStr hO6 hP6
        have HG6 : Hid (Gl EStr 9 1 w w6 b p c ws (.slice q6 (l.length + 1) k6) (l ++ [X.1]) X.2) := G6
        clear kt hP6 hO6 G6 HG5
        go_wp2
        go_ret
        exact ⟨_, rfl, HG6.out⟩
end Go.Proofs.YtnnclhmhbmbkfaaGreatDoor
namespace Go.Proofs.YtnnclhmhbmbkfaaGreatDoor
open Go.RowKit Go.Shelf
attribute [local go_sem] Oper.semAt_some fw0 fw1 fw2
def zero11 : Array Value := #[.string ⟨#[]⟩, .int .i64 0, .string ⟨#[]⟩, .int .i64 0, .bool false, .int .i64 0, .string ⟨#[]⟩, .slice none 0 0, .slice none 0 0, .slice none 0 0, .slice none 0 0]
theorem i98 {V : Array Value} (h : V.size = 11) : (Tryz.prog.info? 125).map (·.size) = some V.size := info98.trans (congrArg some h.symm)
set_option maxRecDepth 100000 in
set_option maxHeartbeats 8000000 in
theorem expression_any {w : World} {b : Nat} {p : Option Addr} {c : Nat} {ws : List Wd} {s : PS} (H : Ps w b p c ws s) (X : Et × PS)
    (kb : ∀ W, Ps W b p c ws s → Calls Tryz.prog 113 #[.pointer (some ⟨b, 0, none⟩), .int .i64 0] W (Gives ws (fun k => W.heap.size ≤ k) W b p c X)) :
    Calls Tryz.prog 84 #[.pointer (some ⟨b, 0, none⟩)] w (Gives ws (fun k => w.heap.size ≤ k) w b p c X) := by
  have hold := H.old
  have lb := lt_of_row H.row
  obtain ⟨w1, hw1⟩ : ∃ w1, w.alloc (.cells #[.int .i64 0, .string ⟨#[]⟩, .int .i64 0, .bool false, .int .i64 0, .string ⟨#[]⟩, .slice none 0 0, .slice none 0 0, .slice none 0 0, .slice none 0 0] 28) = w1 := ⟨_, rfl⟩
  have hb1 : Below w.heap.size w w1 := by rw [← hw1]; exact (Below.refl _ w).alloc (Nat.le_refl _) _
  have hs1 : w1.heap.size = w.heap.size + 1 := by rw [← hw1]; simp
  have rz1 : w1.heap[w.heap.size]? = some (.cells zero10 28 (0, 0)) := by rw [← hw1]; exact heap_alloc_new _ _
  have k1 := kb w1 (H.later hb1)
  have HB : Hid (Below w.heap.size w w1) := hb1
  clear H hb1 kb
  go_enter Tryz.func84, Tryz.ntmps84
  go_wp2_with fail
  refine k1.mono ?_
  rintro q w6 ⟨d6, v6, rfl, hL6, hP6, hO6⟩
  have s6 := hO6.size
  have rz6 := (hO6.block _ (by omega) (by omega)).trans rz1
  obtain ⟨V, rfl, h10, hon⟩ := hL6.agg
  have H6 : Hid (LiesE w6 (fun k => w1.heap.size ≤ k) d6 X.1 (.agg V) ∧ Ps w6 b p c ws X.2 ∧ Onl b w1 w6 ∧ w6.heap[w.heap.size]? = some (.cells zero10 28 (0, 0)) ∧ V.size = 10 ∧ V.all (·.oneCell') = true) := ⟨hL6, hP6, hO6, rz6, h10, hon⟩
  clear k1 hL6 hP6 hO6 rz6 rz1 hw1 h10 hon
  go_wp2_with (refine wpList_put rfl 28 (.tmp 2) (.tmp 4) rfl rfl rfl rfl H6.out.2.2.2.1 H6.out.2.2.2.2.1 (i28 H6.out.2.2.2.2.1) H6.out.2.2.2.2.2 ?_)
  obtain ⟨hL6, hP6, hO6, rz6, h10, hon⟩ := H6.out
  refine bodyPost_ret (results_cell_row Tryz.results84 _ _ w.heap.size 28 _ (0, 0) _ rfl (put_row V rz6 h10) Tryz.underlying28 rfl (i28 h10)) rfl ⟨d6, .agg V, rfl, ?_, hP6.put lb hold V, ?_⟩
  · exact (hL6.since (Since.put (by omega) w6 _)).imp fun k hk _ => by omega
  · exact ((Onl.of HB.out).trans hO6).put _ (Nat.le_refl _) _
/- What a function of a name and its expression answers. -/
def GivesF (ws : List Wd) (w : World) (b : Nat) (p : Option Addr) (c : Nat) (x : (ByteArray × Et) × PS) (r : Ending) (w' : World) : Prop :=
  ∃ v d, r = .returned v ∧ v = .agg d.toArray ∧ EFld w' (fun k => w.heap.size ≤ k) x.1 d ∧ Ps w' b p c ws x.2 ∧ Onl b w w'
set_option maxRecDepth 100000 in
set_option maxHeartbeats 8000000 in
theorem named_any {w : World} {b : Nat} {p : Option Addr} {c : Nat} {ws : List Wd} {s : PS} (H : Ps w b p c ws s) (hz : Wz ws) (l : List UInt8) (F : PS → Et × PS)
    (kb : ∀ W, Ps W b p c ws (mustQ ws (nameP ws s) 6 l) → Calls Tryz.prog 84 #[.pointer (some ⟨b, 0, none⟩)] W (Gives ws (fun k => W.heap.size ≤ k) W b p c (F (mustQ ws (nameP ws s) 6 l)))) :
    Calls Tryz.prog 115 #[.pointer (some ⟨b, 0, none⟩), .string ⟨l.toArray⟩] w (GivesF ws w b p c (namedF ws F l s)) := by
  have hold := H.old
  have lb := lt_of_row H.row
  obtain ⟨w1, hw1⟩ : ∃ w1, w.alloc (.cells #[.string ⟨#[]⟩, .int .i64 0, .string ⟨#[]⟩, .int .i64 0, .bool false, .int .i64 0, .string ⟨#[]⟩, .slice none 0 0, .slice none 0 0, .slice none 0 0, .slice none 0 0] 125) = w1 := ⟨_, rfl⟩
  have hb1 : Below w.heap.size w w1 := by rw [← hw1]; exact (Below.refl _ w).alloc (Nat.le_refl _) _
  have hs1 : w1.heap.size = w.heap.size + 1 := by rw [← hw1]; simp
  have rz1 : w1.heap[w.heap.size]? = some (.cells zero11 125 (0, 0)) := by rw [← hw1]; exact heap_alloc_new _ _
  unfold namedF
  have k1 := pname_any (H.later hb1) hz
  obtain ⟨X, hX⟩ : ∃ X, F (mustQ ws (nameP ws s) 6 l) = X := ⟨_, rfl⟩
  rw [hX] at kb ⊢
  obtain ⟨x, hx⟩ : ∃ x, nameS ws s = x := ⟨_, rfl⟩
  rw [hx] at k1 ⊢
  have HB : Hid (Below w.heap.size w w1) := hb1
  have HM : Hid (mustP ws (nameP ws s) 6 ⟨l.toArray⟩ = mustQ ws (nameP ws s) 6 l) := mustP_mustQ _ _ _ _
  obtain ⟨bt, hbt⟩ : ∃ bt : ByteArray, ⟨l.toArray⟩ = bt := ⟨_, rfl⟩
  rw [hbt] at HM ⊢
  clear H hb1 hX hx hbt
  go_enter Tryz.func115, Tryz.ntmps115
  go_wp2_with fail
  refine k1.mono ?_
  rintro q w2 ⟨rfl, hP2, hO2⟩
  have s2 := hO2.size
  have rz2 := (hO2.block _ (by omega) (by omega)).trans rz1
  have k2 := psign_any hP2 hz bt
  rw [HM.out] at k2
  have HO2 : Hid (Onl b w1 w2) := hO2
  clear k1 hP2 hO2 rz1 hw1
  go_wp2_with fail
  refine k2.mono ?_
  rintro q w3 ⟨rfl, hP3, hO3⟩
  have s3 := hO3.size
  have rz3 := (hO3.block _ (by omega) (by omega)).trans rz2
  have k3 := kb w3 hP3
  have HO3 : Hid (Onl b w2 w3) := hO3
  clear k2 hP3 hO3 rz2 kb
  go_wp2_with fail
  refine k3.mono ?_
  rintro q w6 ⟨d6, v6, rfl, hL6, hP6, hO6⟩
  have s6 := hO6.size
  have rz6 := (hO6.block _ (by omega) (by omega)).trans rz3
  obtain ⟨R, rfl⟩ := hL6.row
  have H6 : Hid (LiesE w6 (fun k => w3.heap.size ≤ k) d6 X.1 (rowX R) ∧ Ps w6 b p c ws X.2 ∧ Onl b w3 w6 ∧ w6.heap[w.heap.size]? = some (.cells zero11 125 (0, 0))) := ⟨hL6, hP6, hO6, rz6⟩
  clear k3 hL6 hP6 hO6 rz6 rz3 HM
  unfold rowX
  go_wp2_with (refine wpList_put rfl 125 (.tmp 4) (.tmp 14) rfl rfl rfl rfl H6.out.2.2.2 rfl info98 (by simp [Value.oneCell']) ?_)
  obtain ⟨hL6, hP6, hO6, rz6⟩ := H6.out
  refine bodyPost_ret (results_cell_row Tryz.results115 _ _ w.heap.size 125 _ (0, 0) _ rfl (put_row _ rz6 rfl) Tryz.underlying125 rfl info98) rfl ⟨_, [.string x, .int .i64 R.k, .string R.s, .int .i64 R.vk, .bool R.vb, .int .i64 R.vn, .string R.vs, .slice none 0 0, .slice none 0 0, .slice R.kp R.n R.kc, .slice R.np R.m R.nc], rfl, rfl, ?_, hP6.put lb hold _, ?_⟩
  · exact ⟨_, rfl, d6, (hL6.since (Since.put (by omega) w6 _)).imp fun k hk _ => by omega⟩
  · exact ((((Onl.of HB.out).trans HO2.out).trans HO3.out).trans hO6).put _ (Nat.le_refl _) _
set_option maxRecDepth 100000 in
set_option maxHeartbeats 8000000 in
theorem part_any {w : World} {b : Nat} {p : Option Addr} {c : Nat} {ws : List Wd} {s : PS} (H : Ps w b p c ws s) (X : (ByteArray × Et) × PS)
    (kb : ∀ W, Ps W b p c ws s → Calls Tryz.prog 115 #[.pointer (some ⟨b, 0, none⟩), .string ⟨#[58]⟩] W (GivesF ws W b p c X)) :
    Calls Tryz.prog 175 #[.pointer (some ⟨b, 0, none⟩)] w (GivesF ws w b p c X) := by
  have hold := H.old
  have lb := lt_of_row H.row
  obtain ⟨w1, hw1⟩ : ∃ w1, w.alloc (.cells #[.string ⟨#[]⟩, .int .i64 0, .string ⟨#[]⟩, .int .i64 0, .bool false, .int .i64 0, .string ⟨#[]⟩, .slice none 0 0, .slice none 0 0, .slice none 0 0, .slice none 0 0] 125) = w1 := ⟨_, rfl⟩
  have hb1 : Below w.heap.size w w1 := by rw [← hw1]; exact (Below.refl _ w).alloc (Nat.le_refl _) _
  have hs1 : w1.heap.size = w.heap.size + 1 := by rw [← hw1]; simp
  have rz1 : w1.heap[w.heap.size]? = some (.cells zero11 125 (0, 0)) := by rw [← hw1]; exact heap_alloc_new _ _
  have k1 := kb w1 (H.later hb1)
  have HB : Hid (Below w.heap.size w w1) := hb1
  clear H hb1 kb
  go_enter Tryz.func175, Tryz.ntmps175
  go_wp2_with fail
  refine k1.mono ?_
  rintro q w6 ⟨v6, d6, rfl, hv6, hE6, hP6, hO6⟩
  have s6 := hO6.size
  have rz6 := (hO6.block _ (by omega) (by omega)).trans rz1
  have h11 := eFld.len hE6
  have hon : d6.toArray.all (·.oneCell') = true := all_oneCell_toArray (eFld.ones hE6)
  subst hv6
  obtain ⟨V, hV⟩ : ∃ V, d6.toArray = V := ⟨_, rfl⟩
  have h11' : V.size = 11 := by rw [← hV]; simpa using h11
  rw [hV] at hon ⊢
  have H6 : Hid (EFld w6 (fun k => w1.heap.size ≤ k) X.1 d6 ∧ Ps w6 b p c ws X.2 ∧ Onl b w1 w6 ∧ w6.heap[w.heap.size]? = some (.cells zero11 125 (0, 0)) ∧ V.size = 11 ∧ V.all (·.oneCell') = true ∧ d6.toArray = V) := ⟨hE6, hP6, hO6, rz6, h11', hon, hV⟩
  clear k1 hE6 hP6 hO6 rz6 rz1 hw1 h11 h11' hon hV
  go_wp2_with (refine wpList_put rfl 125 (.tmp 2) (.tmp 4) rfl rfl rfl rfl H6.out.2.2.2.1 H6.out.2.2.2.2.1 (i98 H6.out.2.2.2.2.1) H6.out.2.2.2.2.2.1 ?_)
  obtain ⟨hE6, hP6, hO6, rz6, h11, hon, hV⟩ := H6.out
  refine bodyPost_ret (results_cell_row Tryz.results175 _ _ w.heap.size 125 _ (0, 0) _ rfl (put_row V rz6 h11) Tryz.underlying125 rfl (i98 h11)) rfl ⟨.agg V, d6, rfl, by rw [hV], ?_, hP6.put lb hold V, ?_⟩
  · exact eFld.imp (fun k hk _ => by omega) (eFld.since hE6 (Since.put (by omega) w6 V))
  · exact ((Onl.of HB.out).trans hO6).put _ (Nat.le_refl _) _
set_option maxRecDepth 100000 in
set_option maxHeartbeats 8000000 in
theorem assignment_any {w : World} {b : Nat} {p : Option Addr} {c : Nat} {ws : List Wd} {s : PS} (H : Ps w b p c ws s) (X : (ByteArray × Et) × PS)
    (kb : ∀ W, Ps W b p c ws s → Calls Tryz.prog 115 #[.pointer (some ⟨b, 0, none⟩), .string ⟨#[61]⟩] W (GivesF ws W b p c X)) :
    Calls Tryz.prog 87 #[.pointer (some ⟨b, 0, none⟩)] w (GivesF ws w b p c X) := by
  have hold := H.old
  have lb := lt_of_row H.row
  obtain ⟨w1, hw1⟩ : ∃ w1, w.alloc (.cells #[.string ⟨#[]⟩, .int .i64 0, .string ⟨#[]⟩, .int .i64 0, .bool false, .int .i64 0, .string ⟨#[]⟩, .slice none 0 0, .slice none 0 0, .slice none 0 0, .slice none 0 0] 125) = w1 := ⟨_, rfl⟩
  have hb1 : Below w.heap.size w w1 := by rw [← hw1]; exact (Below.refl _ w).alloc (Nat.le_refl _) _
  have hs1 : w1.heap.size = w.heap.size + 1 := by rw [← hw1]; simp
  have rz1 : w1.heap[w.heap.size]? = some (.cells zero11 125 (0, 0)) := by rw [← hw1]; exact heap_alloc_new _ _
  have k1 := kb w1 (H.later hb1)
  have HB : Hid (Below w.heap.size w w1) := hb1
  clear H hb1 kb
  go_enter Tryz.func87, Tryz.ntmps87
  go_wp2_with fail
  refine k1.mono ?_
  rintro q w6 ⟨v6, d6, rfl, hv6, hE6, hP6, hO6⟩
  have s6 := hO6.size
  have rz6 := (hO6.block _ (by omega) (by omega)).trans rz1
  have h11 := eFld.len hE6
  have hon : d6.toArray.all (·.oneCell') = true := all_oneCell_toArray (eFld.ones hE6)
  subst hv6
  obtain ⟨V, hV⟩ : ∃ V, d6.toArray = V := ⟨_, rfl⟩
  have h11' : V.size = 11 := by rw [← hV]; simpa using h11
  rw [hV] at hon ⊢
  have H6 : Hid (EFld w6 (fun k => w1.heap.size ≤ k) X.1 d6 ∧ Ps w6 b p c ws X.2 ∧ Onl b w1 w6 ∧ w6.heap[w.heap.size]? = some (.cells zero11 125 (0, 0)) ∧ V.size = 11 ∧ V.all (·.oneCell') = true ∧ d6.toArray = V) := ⟨hE6, hP6, hO6, rz6, h11', hon, hV⟩
  clear k1 hE6 hP6 hO6 rz6 rz1 hw1 h11 h11' hon hV
  go_wp2_with (refine wpList_put rfl 125 (.tmp 2) (.tmp 4) rfl rfl rfl rfl H6.out.2.2.2.1 H6.out.2.2.2.2.1 (i98 H6.out.2.2.2.2.1) H6.out.2.2.2.2.2.1 ?_)
  obtain ⟨hE6, hP6, hO6, rz6, h11, hon, hV⟩ := H6.out
  refine bodyPost_ret (results_cell_row Tryz.results87 _ _ w.heap.size 125 _ (0, 0) _ rfl (put_row V rz6 h11) Tryz.underlying125 rfl (i98 h11)) rfl ⟨.agg V, d6, rfl, by rw [hV], ?_, hP6.put lb hold V, ?_⟩
  · exact eFld.imp (fun k hk _ => by omega) (eFld.since hE6 (Since.put (by omega) w6 V))
  · exact ((Onl.of HB.out).trans hO6).put _ (Nat.le_refl _) _
end Go.Proofs.YtnnclhmhbmbkfaaGreatDoor
