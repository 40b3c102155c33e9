/- Names with points between them (path). -/
import Derived.Test.YtcniebkehekliaaGreatDoorEls
import Derived.Test.YtcniebkehekliaaGreatDoorShj
namespace Go.Proofs.YtcniebkehekliaaGreatDoor
open Go.RowKit Go.Shelf
attribute [local go_sem] Oper.semAt_some fw0 fw1 fw2
/- Words as lex has them: not long, and numbers are numbers. -/
def Wl (ws : List Wd) : Prop := ∀ i, (wAt ws i).s.length ≤ 10000 ∧ NumOk (wAt ws i)
theorem join_joinB : ∀ l : List ByteArray, Lib.join (l.map (·.data.toList)) [46] = joinB l
  | [] => rfl
  | [x] => by simp [Lib.join_one, joinB]
  | x :: y :: l => by
    have h := join_joinB (y :: l)
    simp only [List.map_cons] at h ⊢
    rw [Lib.join_cons] at h ⊢
    rw [joinB, ← h]
    simp [Lib.joinTail]
theorem joinB_len : ∀ l : List ByteArray, (∀ x ∈ l, x.data.toList.length ≤ 10000) → (joinB l).length ≤ l.length * 10001
  | [], _ => by simp [joinB]
  | [x], h => by have := h x (by simp); simp only [joinB, List.length_singleton]; omega
  | x :: y :: l, h => by
    have h1 := h x (by simp)
    have h2 := joinB_len (y :: l) (fun z hz => h z (by simp [hz]))
    simp only [joinB, List.length_append, List.length_cons] at h2 ⊢
    omega
theorem nameS_len {ws : List Wd} (hl : Wl ws) (s : PS) : (nameS ws s).data.toList.length ≤ 10000 := by
  unfold nameS
  split
  · exact (hl s.at').1
  · simp
theorem nameP_ge {ws : List Wd} (s : PS) (h : s.at' < ws.length) : s.at' ≤ (nameP ws s).at' := by
  unfold nameP failP takeP
  split
  · simp
  · split
    · simp only; omega
    · exact Nat.le_refl _
theorem info9 : (Tryz.prog.info? 9).map (fun i => (i.zero, i.size, i.bytes)) = some (some (.string ⟨#[]⟩), 1, 16) := by kernel_rfl
theorem own_strs {w : World} {base : Nat} {v : Value} {l : List ByteArray} {L : List Value} (h : w.ownsRow base 9 1 v l.length L) (hE : Els EStr w (fun _ => True) l L) (h0 : 0 < l.length) : ∃ g cap, v = .slice (some ⟨g, 0, none⟩) l.length cap ∧ l.length ≤ cap ∧ g < w.heap.size ∧ ∀ (j : Nat) x, l[j]? = some x → w.cell? ⟨g, 0 + j, none⟩ = some (.string x) := by
  rcases h.2 with ⟨_, hn⟩ | ⟨g, cap, cur, hv, hg, hr, h1, h2, h3, h4⟩
  · omega
  · refine ⟨g, cap, hv, h1, lt_of_row hr, fun j x hj => ?_⟩
    obtain ⟨c, hc, hk⟩ := Els.at eStr hE j x hj
    have hc' : c = [.string x] := hc
    have e := hk 0 (.string x) (by rw [hc']; rfl)
    rw [Nat.mul_one, Nat.add_zero, ← h4, List.getElem?_take] at e
    rw [Nat.zero_add, cell_of_row w g j cur _ _ hr]
    split at e
    · simpa using e
    · cases e
set_option maxRecDepth 100000 in
set_option maxHeartbeats 8000000 in
theorem path_any {w : World} {b : Nat} {p : Option Addr} {c : Nat} {ws : List Wd} {s : PS} (H : Ps w b p c ws s) (hz : Wz ws) (hl : Wl ws) :
    Calls Tryz.prog 115 #[.pointer (some ⟨b, 0, none⟩)] w fun r w' => r = .returned (.string (pathF ws s).1) ∧ Ps w' b p c ws (pathF ws s).2 ∧ Onl b w w' := by
  have k1 := pname_any H hz
  have few := H.few
  unfold pathF
  have hge := nameP_ge s H.lt
  obtain ⟨V, hV⟩ : ∃ V, pathL ws ws.length [nameS ws s] (nameP ws s) = V := ⟨_, rfl⟩
  rw [hV]
  have HV : Hid (pathL ws ws.length [nameS ws s] (nameP ws s) = V ∧ (nameS ws s).data.toList.length ≤ 10000) := ⟨hV, nameS_len hl s⟩
  have H0 : Hid (Ps w b p c ws s) := H
  have HL : Hid (Wl ws) := hl
  obtain ⟨x0, hx0⟩ : ∃ x0, nameS ws s = x0 := ⟨_, rfl⟩
  obtain ⟨s0, hs0⟩ : ∃ s0, nameP ws s = s0 := ⟨_, rfl⟩
  rw [hx0, hs0] at HV
  rw [hx0, hs0] at k1
  clear H hV hl hx0 hs0 hge
  go_enter Tryz.func115, Tryz.ntmps115
  go_wp2_with fail
  refine k1.mono ?_
  rintro q w1 ⟨rfl, hP1, hO1⟩
  obtain ⟨w2, hw2⟩ : ∃ w2, w1.alloc (.cells #[.string x0] 9) = w2 := ⟨_, rfl⟩
  have G2 : Gl EStr 9 1 w w2 b p c ws (.slice (some ⟨w1.heap.size, 0, none⟩) 1 1) [x0] s0 := Gl.one eStr (W := w1) (d := [.string x0]) H0.out hO1 hP1 rfl hw2.symm
  have HG : Hid (Gl EStr 9 1 w w2 b p c ws (.slice (some ⟨w1.heap.size, 0, none⟩) 1 1) [x0] s0) := G2
  clear k1 hP1 hO1 G2
  obtain ⟨i0, hi, hz0, hz1, hz2⟩ := info_parts info9
  go_wp2_with fail
  go_loopw [3] (fun c3 wr => ∃ n l t, Hid (Gl EStr 9 1 w wr b p c ws c3 l t ∧ pathL ws n l t = V ∧ ws.length ≤ t.at' + n ∧ 0 < l.length ∧ l.length ≤ t.at' + 1 ∧ ∀ x ∈ l, x.data.toList.length ≤ 10000)) (fun _ wr => ws.length - atW b wr)
  case atStart =>
    refine ⟨ws.length, [x0], s0, ?_⟩
    have hh : Gl EStr 9 1 w w2 b p c ws (.slice (some ⟨w1.heap.size, 0, none⟩) 1 1) [x0] s0 ∧ pathL ws ws.length [x0] s0 = V ∧ ws.length ≤ s0.at' + ws.length ∧ 0 < [x0].length ∧ [x0].length ≤ s0.at' + 1 ∧ ∀ x ∈ [x0], x.data.toList.length ≤ 10000 := by
      refine ⟨HG.out, HV.out.1, by omega, by simp, by simp, fun x hx => ?_⟩
      have e : x = x0 := by simpa using hx
      rw [e]
      exact HV.out.2
    exact hh
  case round =>
    obtain ⟨n, l, t, hh⟩ := hrel
    obtain ⟨G, hlo, hle, h0, hll, hlx⟩ := hh.out
    have kt := tookSign_any G.ps hz ⟨#[46]⟩
    have lx := G.ps.lt
    have hI : isW (wAt ws t.at') 6 ⟨#[46]⟩ = isP (wAt ws t.at') 6 [46] := isW_isP _ _ _
    obtain ⟨m, rfl⟩ : ∃ m, n = m + 1 := ⟨n - 1, by omega⟩
    unfold pathL at hlo
    unfold tookP at kt
    rw [hI] at kt
    by_cases hy : isP (wAt ws t.at') 6 [46] = true
    · rw [if_pos hy] at hlo kt
      rw [hy] at kt
      have h1 := hz.next lx (by rw [isP_kind hy]; decide)
      have hge := nameP_ge (ws := ws) (takeP t) h1
      have hgt : (takeP t).at' = t.at' + 1 := rfl
      have hsl := nameS_len HL.out (takeP t)
      have hlw : l.length ≤ 3001 := by omega
      have HG2 : Hid (Gl EStr 9 1 w wr b p c ws u3 l t ∧ pathL ws m (l ++ [nameS ws (takeP t)]) (nameP ws (takeP t)) = V ∧ 0 < l.length ∧ l.length ≤ t.at' + 1 ∧ (∀ x ∈ l, x.data.toList.length ≤ 10000) ∧ t.at' + 1 ≤ (nameP ws (takeP t)).at' ∧ (nameS ws (takeP t)).data.toList.length ≤ 10000 ∧ ws.length ≤ t.at' + (m + 1)) := ⟨G, hlo, h0, hll, hlx, by omega, hsl, hle⟩
      clear HG HV hlo hle h0 hll hlx G hI hy hge hgt hsl hh hw2 lx
      go_wp2_with fail
      refine kt.mono ?_
      rintro q w3 ⟨rfl, hP3, hO3⟩
      have kn := pname_any hP3 hz
      obtain ⟨x1, hx1⟩ : ∃ x1, nameS ws (takeP t) = x1 := ⟨_, rfl⟩
      obtain ⟨t1, ht1⟩ : ∃ t1, nameP ws (takeP t) = t1 := ⟨_, rfl⟩
      rw [hx1, ht1] at kn HG2
      have G3 := HG2.out.1.calls eStr hO3 hP3
      have HG3 : Hid (Gl EStr 9 1 w w3 b p c ws u3 l (takeP t)) := G3
      clear kt hP3 hO3 G3 hx1 ht1
      go_wp2_with fail
      refine kn.mono ?_
      rintro q w4 ⟨rfl, hP4, hO4⟩
      have G4 := HG3.out.calls eStr hO4 hP4
      obtain ⟨L, hown, hels⟩ := G4.own
      have hsz := G4.onl.size
      have HG4 : Hid (Gl EStr 9 1 w w4 b p c ws u3 l t1 ∧ Els EStr w4 (fun k => w.heap.size ≤ k ∧ u3.ownBlock ≠ some k) l L) := ⟨G4, hels⟩
      clear kn hP4 hO4 G4 hels
      go_wp2_with (at_builtin; refine wpList_append_own_at _ rfl _ _ 23 rfl w.heap.size 9 i0 (.string ⟨#[]⟩) 1 16 Tryz.underlying23 hi hz0 hz1 hz2 rfl (by decide) _ _ _ rfl (hown.alloc _) ⟨w4.heap.size, 0, none⟩ 1 1 [.string x1] rfl rfl ?c1 ?c2 ?c3 ?c4 ?c5 ?_)
      case c1 => exact World.news_of_block (heap_alloc_new w4 _)
      case c2 => exact fun u hu => by rw [List.mem_singleton] at hu; rw [hu]; rfl
      case c3 => unfold maxLen; omega
      case c4 => omega
      case c5 => simp; omega
      intro v' w5 hown5 hgr5 _ hat5
      have G5 : Gl EStr 9 1 w w5 b p c ws v' (l ++ [x1]) t1 := HG4.out.1.more eStr HG4.out.2 (x := x1) (d := [.string x1]) rfl rfl hown5 hgr5 hat5
      have HG5 : Hid (Gl EStr 9 1 w w5 b p c ws v' (l ++ [x1]) t1) := G5
      clear hown hown5 hgr5 hat5 G5
      go_wp2_with fail
      go_roundw
      case rel =>
        refine ⟨m, l ++ [x1], t1, ?_⟩
        obtain ⟨-, a1, a2, a3, a4, a5, a6, a7⟩ := HG2.out
        have hh : Gl EStr 9 1 w w5 b p c ws v' (l ++ [x1]) t1 ∧ pathL ws m (l ++ [x1]) t1 = V ∧ ws.length ≤ t1.at' + m ∧ 0 < (l ++ [x1]).length ∧ (l ++ [x1]).length ≤ t1.at' + 1 ∧ ∀ x ∈ l ++ [x1], x.data.toList.length ≤ 10000 := by
          refine ⟨HG5.out, a1, by omega, by simp, by simp; omega, fun x hx => ?_⟩
          rcases List.mem_append.1 hx with hx | hx
          · exact a4 x hx
          · have e : x = x1 := by simpa using hx
            rw [e]
            exact a6
        exact hh
      case measure =>
        obtain ⟨-, a1, a2, a3, a4, a5, a6, a7⟩ := HG2.out
        rw [HG5.out.ps.atW, HG2.out.1.ps.atW]
        omega
    · rw [if_neg hy] at hlo kt
      have hf : isP (wAt ws t.at') 6 [46] = false := by simpa using hy
      rw [hf] at kt
      subst hlo
      have HG2 : Hid (Gl EStr 9 1 w wr b p c ws u3 l t ∧ 0 < l.length ∧ (∀ x ∈ l, x.data.toList.length ≤ 10000)) := ⟨G, h0, hlx⟩
      have hlw : l.length ≤ 3001 := by omega
      clear HG HV hle h0 hll hlx G hI hy hh hw2 lx hf
      go_wp2_with fail
      refine kt.mono ?_
      rintro q w3 ⟨rfl, hP3, hO3⟩
      have G3 := HG2.out.1.calls eStr hO3 hP3
      obtain ⟨L, hown, hels⟩ := G3.own
      obtain ⟨g, cap, rfl, hcap, hg, hcl⟩ := own_strs hown (hels.imp eStr fun _ _ _ => trivial) HG2.out.2.1
      have jl := joinB_len l HG2.out.2.2
      have kj := Tryz.strings_Join g 0 cap l ⟨#[46]⟩ w3 hcl hg (by omega) hcap (by
        have e := join_joinB l
        show (Lib.join (l.map (·.data.toList)) [46]).length ≤ _
        rw [e]
        omega)
      have kj' : Calls Tryz.prog 135 #[.slice (some ⟨g, 0, none⟩) l.length cap, .string ⟨#[46]⟩] w3 fun e w' => e = .returned (.string ⟨(joinB l).toArray⟩) ∧ Below w3.heap.size w3 w' := by
        have e := join_joinB l
        rw [← e]
        exact kj
      obtain ⟨J, hJ⟩ : ∃ J : ByteArray, ⟨(joinB l).toArray⟩ = J := ⟨_, rfl⟩
      rw [hJ] at kj'
      have HG3 : Hid (Ps w3 b p c ws t ∧ Onl b w w3 ∧ (⟨(joinB l).toArray⟩ : ByteArray) = J) := ⟨hP3, G3.onl, hJ⟩
      clear kt hP3 hO3 G3 hown hels hcl kj jl hJ
      go_wp2_with fail
      refine kj'.mono ?_
      rintro q w4 ⟨rfl, hb4⟩
      clear kj'
      go_wp2
      go_ret
      refine ⟨?_, HG3.out.1.later hb4, HG3.out.2.1.trans (Onl.of hb4)⟩
      rw [← HG3.out.2.2]
      rfl
end Go.Proofs.YtcniebkehekliaaGreatDoor
