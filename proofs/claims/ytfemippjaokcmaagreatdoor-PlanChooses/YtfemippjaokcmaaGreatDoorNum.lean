/- Statements, part by part (number, columns, update). -/
import Derived.Test.YtfemippjaokcmaaGreatDoorXam
namespace Go.Proofs.YtfemippjaokcmaaGreatDoor
open Go.RowKit Go.Shelf
attribute [local go_sem] Oper.semAt_some fw0 fw1 fw2
/- What the library's variables ErrSyntax and ErrRange hold: some errors. -/
def Ev (w : World) : Prop := (∃ te pe, w.cell? ⟨1, 0, none⟩ = some (.iface te pe)) ∧ Er w
theorem Ev.keep {w w' : World} (h : Ev w) (hk : ∀ k, k ≤ 2 → w'.heap[k]? = w.heap[k]?) : Ev w' := by
  obtain ⟨⟨te, pe, h1⟩, ⟨tf, pf, h2⟩⟩ := h
  exact ⟨⟨te, pe, (World.cell?_of_block (a := ⟨1, 0, none⟩) (hk 1 (by decide))).trans h1⟩, ⟨tf, pf, (World.cell?_of_block (a := ⟨2, 0, none⟩) (hk 2 (by decide))).trans h2⟩⟩
theorem Ev.lt {w : World} (h : Ev w) : 2 < w.heap.size := h.2.lt
theorem Ev.later {w w' : World} (h : Ev w) (hb : Below w.heap.size w w') : Ev w' := h.keep fun k hk => hb.block k (by have := h.lt; omega)
theorem Ev.onl {b : Nat} {w w' : World} (h : Ev w) (h2 : 2 < b) (hO : Onl b w w') : Ev w' := h.keep fun k hk => hO.block k (by have := h.lt; omega) (by omega)
theorem Ev.sb {S : Nat → Prop} {b : Nat} {p : Option Addr} {c : Nat} {ws : List Wd} {x : Nat} {w0 w : World} {M : Sm} {s : PS} (h : Ev w0) (h2 : 2 < b) (k : Sb S b p c ws x w0 w M s) : Ev w := h.keep fun j hj => k.block j (by have := h.lt; omega) (by omega) (by have := k.bx; omega)
theorem atoi_any (t : ByteArray) (ht : t.data.toList.length ≤ 10000) (w : World) (he : Ev w) :
    Calls Tryz.prog 150 #[.string t] w fun e w' => ∃ v ev, e = .returned (.tuple #[.int .i64 v, ev]) ∧ (∀ u, Lib.atoiAll t.data.toList = .ok u → v = u ∧ ev = .nilIface) ∧ Below w.heap.size w w' := by
  have hs : t.size ≤ 10000 := by rw [Lib.size_eq]; exact ht
  cases hq : Lib.atoiAll t.data.toList with
  | ok v =>
    refine (Tryz.strconv_Atoi_ok t (by omega) v hq w).mono ?_
    rintro e w' ⟨rfl, hw⟩
    refine ⟨v, _, rfl, fun u hu => ?_, ?_⟩
    · injection hu with hu; exact ⟨hu, rfl⟩
    · rcases hw with rfl | ⟨u, rfl⟩
      · exact Below.refl _ _
      · exact Lib.bytesWorld_below _ _ _
  | «syntax» =>
    obtain ⟨⟨te, pe, hv⟩, _⟩ := he
    refine (Tryz.strconv_Atoi_syntax t (by omega) hq _ w hv (Or.inr ⟨te, pe, rfl⟩)).mono ?_
    rintro e w' ⟨n, rfl, _, _, hb⟩
    exact ⟨_, _, rfl, fun u hu => (by cases hu), hb⟩
  | range =>
    obtain ⟨_, ⟨te, pe, hv⟩⟩ := he
    refine (Tryz.strconv_Atoi_range t (by omega) hq _ w hv (Or.inr ⟨te, pe, rfl⟩)).mono ?_
    rintro e w' ⟨n, rfl, _, _, hb⟩
    exact ⟨_, _, rfl, fun u hu => (by cases hu), hb⟩
/- Words of digits say ints. -/
def Wa (ws : List Wd) : Prop := ∀ i, (wAt ws i).k = 3 → ∃ v, Lib.atoiAll (wAt ws i).s = .ok v
def numF (ws : List Wd) (s : PS) : Int × PS :=
  if (wAt ws s.at').k = 3 then (match Lib.atoiAll (wAt ws s.at').s with | .ok v => (v, takeP s) | _ => (0, failP ws s 120)) else (0, failP ws s 120)
theorem num_pk {ws : List Wd} (hz : Wz ws) {s : PS} (h : s.at' < ws.length) : Pk 0 0 ws s (numF ws s).2 := by
  unfold numF
  split
  · next hk =>
    split
    · exact ((Pk.refl h).take hz (by rw [hk]; decide)).less
    · exact (Pk.refl h).fail 120
  · exact (Pk.refl h).fail 120
set_option maxRecDepth 100000 in
set_option maxHeartbeats 8000000 in
theorem number_any {w : World} {b : Nat} {p : Option Addr} {c : Nat} {ws : List Wd} {s : PS} (H : Ps w b p c ws s) (hz : Wz ws) (hl : Wl ws) (ha : Wa ws) (he : Ev w) :
    Calls Tryz.prog 128 #[.pointer (some ⟨b, 0, none⟩)] w fun r w' => r = .returned (.int .i64 (numF ws s).1) ∧ Ps w' b p c ws (numF ws s).2 ∧ Onl b w w' := by
  have kw := word_any H
  have hln := (hl s.at').1
  have hnum := ha s.at'
  have hnx := hz.next (i := s.at') H.lt
  have ka := fun W hW => atoi_any (wdS (wAt ws s.at')) hln W hW
  have hdd : (wdS (wAt ws s.at')).data.toList = (wAt ws s.at').s := rfl
  rw [hdd] at ka
  unfold numF
  unfold wdV at kw
  by_cases hk : (wAt ws s.at').k = 3
  · obtain ⟨v, hv⟩ := hnum hk
    rw [if_pos hk, hv]
    dsimp only
    have h1 := hnx (by rw [hk]; decide)
    have hk' : ((wAt ws s.at').k : Int) = 3 := by omega
    rw [hk'] at kw
    have HV : Hid (Lib.atoiAll (wAt ws s.at').s = .ok v ∧ ((wAt ws s.at').k : Int) = 3) := ⟨hv, hk'⟩
    have HH : Hid (Ps w b p c ws s ∧ Ev w) := ⟨H, he⟩
    clear H hk hk' hv hnum hnx he hln hdd
    go_enter Tryz.func128, Tryz.ntmps128
    go_wp2_with fail
    refine kw.mono ?_
    rintro q w1 ⟨rfl, hb1⟩
    have k1 := ka w1 (HH.out.2.later hb1)
    have HB1 : Hid (Below w.heap.size w w1) := hb1
    clear kw hb1 ka
    go_wp2_with fail
    refine k1.mono ?_
    rintro q w2 ⟨v2, ev2, rfl, hu, hb2⟩
    obtain ⟨rfl, rfl⟩ := hu v HV.out.1
    have hb12 := HB1.out.trans (hb2.mono HB1.out.size)
    have k2 := word_any (HH.out.1.later hb12)
    unfold wdV at k2
    rw [HV.out.2] at k2
    have HB2 : Hid (Below w.heap.size w w2) := hb12
    have HK : Hid True := trivial
    clear k1 hu hb2 hb12 HB1 HK
    go_wp2_with fail
    refine k2.mono ?_
    rintro q w3 ⟨rfl, hb3⟩
    have hb13 := HB2.out.trans (hb3.mono HB2.out.size)
    have k3 := take_any (HH.out.1.later hb13) h1
    have HB3 : Hid (Below w.heap.size w w3) := hb13
    clear k2 hb3 hb13 HB2
    go_wp2_with fail
    refine k3.mono ?_
    rintro q w4 ⟨rfl, hP4, hO4⟩
    have HP4 : Hid (Ps w4 b p c ws (takeP s) ∧ Onl b w w4) := ⟨hP4, (Onl.of HB3.out).trans hO4⟩
    clear k3 hP4 hO4
    go_wp2
    go_ret
    exact ⟨rfl, HP4.out.1, HP4.out.2⟩
  · rw [if_neg hk]
    have hk' : ¬ ((wAt ws s.at').k : Int) = 3 := by omega
    have HH : Hid (Ps w b p c ws s ∧ Ev w) := ⟨H, he⟩
    clear H hk hnum hnx he hln hdd
    obtain ⟨kk, hkk⟩ : ∃ kk, ((wAt ws s.at').k : Int) = kk := ⟨_, rfl⟩
    have HK : Hid (((wAt ws s.at').k : Int) = kk) := hkk
    rw [hkk] at kw hk'
    clear hkk
    go_enter Tryz.func128, Tryz.ntmps128
    go_wp2_with fail
    refine kw.mono ?_
    rintro q w1 ⟨rfl, hb1⟩
    have k1 := ka w1 (HH.out.2.later hb1)
    have HB1 : Hid (Below w.heap.size w w1) := hb1
    clear kw hb1 ka
    go_wp2_with fail
    refine k1.mono ?_
    rintro q w2 ⟨v2, ev2, rfl, hu, hb2⟩
    have hb12 := HB1.out.trans (hb2.mono HB1.out.size)
    have k2 := word_any (HH.out.1.later hb12)
    unfold wdV at k2
    rw [HK.out] at k2
    have HB2 : Hid (Below w.heap.size w w2) := hb12
    clear k1 hu hb2 hb12 HB1
    go_wp2_with fail
    refine k2.mono ?_
    rintro q w3 ⟨rfl, hb3⟩
    have hb13 := HB2.out.trans (hb3.mono HB2.out.size)
    have k3 := fail_any (HH.out.1.later hb13) 120
    have HB3 : Hid (Below w.heap.size w w3) := hb13
    clear k2 hb3 hb13 HB2
    go_wp2_with fail
    refine k3.mono ?_
    rintro q w4 ⟨rfl, hP4, hO4⟩
    have HP4 : Hid (Ps w4 b p c ws (failP ws s 120) ∧ Onl b w w4) := ⟨hP4, (Onl.of HB3.out).trans hO4⟩
    clear k3 hP4 hO4
    go_wp2
    go_ret
    exact ⟨rfl, HP4.out.1, HP4.out.2⟩
def colF (ws : List Wd) (M : Sm) (s : PS) : Sm × PS :=
  if isP (wAt ws s.at') 6 [42] then (M, takeP s)
  else if isP (wAt ws s.at') 2 [67, 79, 85, 78, 84] then ({ M with cn := true }, takeP s)
  else ({ M with cl := (comF ws (pathF ws) 33 [] s).1 }, (comF ws (pathF ws) 33 [] s).2)
set_option maxRecDepth 100000 in
set_option maxHeartbeats 8000000 in
theorem columns_any {S : Nat → Prop} {b : Nat} {p : Option Addr} {c : Nat} {ws : List Wd} {x : Nat} {w : World} {M : Sm} {s : PS} (H : Sb S b p c ws x w w M s) (hz : Wz ws) (hl : Wl ws) (g : Gd ws s) :
    Calls Tryz.prog 125 #[.pointer (some ⟨b, 0, none⟩), .pointer (some ⟨x, 0, none⟩)] w (Gst S b p c ws x w (colF ws M s)) := by
  have hlt := H.ps.lt
  unfold colF
  by_cases hy : isP (wAt ws s.at') 6 [42] = true
  · rw [if_pos hy]
    have HB0 : Hid (Sb S b p c ws x w w M s) := H
    have hbx := H.bx
    clear H
    go_enter Tryz.func125, Tryz.ntmps125
    have k0 := tookSign_yes HB0.out.ps hz [42] hy
    go_wp2_with fail
    refine k0.mono ?_
    rintro q w1 ⟨rfl, hP1, hO1⟩
    have HB1 : Hid (Sb S b p c ws x w w1 M (takeP s)) := HB0.out.calls hO1 hP1
    clear k0 hP1 hO1 HB0
    go_wp2
    go_end0
    exact ⟨rfl, HB1.out, (g.take hz hlt hy (by decide))⟩
  · rw [if_neg hy]
    have hyf : isP (wAt ws s.at') 6 [42] = false := by simpa using hy
    by_cases hi : isP (wAt ws s.at') 2 [67, 79, 85, 78, 84] = true
    · rw [if_pos hi]
      have HB0 : Hid (Sb S b p c ws x w w M s) := H
      have hbx := H.bx
      clear H
      go_enter Tryz.func125, Tryz.ntmps125
      have k0 := tookSign_no HB0.out.ps hz [42] hyf
      go_wp2_with fail
      refine k0.mono ?_
      rintro q w1 ⟨rfl, hP1, hO1⟩
      have HB1 : Hid (Sb S b p c ws x w w1 M s) := HB0.out.calls hO1 hP1
      clear k0 hP1 hO1 HB0
      have k1 := tookKey_yes HB1.out.ps hz [67, 79, 85, 78, 84] hi
      go_wp2_with fail
      refine k1.mono ?_
      rintro q w2 ⟨rfl, hP2, hO2⟩
      have HB2 : Hid (Sb S b p c ws x w w2 M (takeP s)) := HB1.out.calls hO2 hP2
      clear k1 hP2 hO2 HB1
      obtain ⟨R2, hr2, hx2⟩ := HB2.out.row
      have x2 : w2.cell? ⟨x, 26, none⟩ = some (.bool R2.cn) := cell_of_row w2 x 26 _ _ _ hr2
      have f2 := frozen_of_row w2 x 26 _ _ hr2
      obtain ⟨w3, hw3⟩ : ∃ wq, w2.setCell ⟨x, 26, none⟩ (.bool true) = wq := ⟨_, rfl⟩
      have HB3 : Hid (Sb S b p c ws x w w3 { M with cn := true } (takeP s)) := by
        rw [← hw3]
        exact HB2.out.cell (N := { M with cn := true }) hr2 26 (.bool true) (R2 := { R2 with cn := true }) rfl { hx2 with cn := rfl }
      clear hr2 hx2 HB2
      go_wp2
      go_end0
      exact ⟨rfl, HB3.out, (g.take hz hlt hi (by decide))⟩
    · rw [if_neg hi]
      have hif : isP (wAt ws s.at') 2 [67, 79, 85, 78, 84] = false := by simpa using hi
      have hmf : ∀ (fn : Fn) (first cap : Array Value) (w : World), (Instr.makeFunc fn first cap).run Tryz.prog w = .ok (.func fn first cap) w := fun _ _ _ _ => rfl
      have HB0 : Hid (Sb S b p c ws x w w M s) := H
      have hbx := H.bx
      clear H
      go_enter Tryz.func125, Tryz.ntmps125
      have k0 := tookSign_no HB0.out.ps hz [42] hyf
      go_wp2_with fail
      refine k0.mono ?_
      rintro q w1 ⟨rfl, hP1, hO1⟩
      have HB1 : Hid (Sb S b p c ws x w w1 M s) := HB0.out.calls hO1 hP1
      clear k0 hP1 hO1 HB0
      have k1 := tookKey_no HB1.out.ps hz [67, 79, 85, 78, 84] hif
      go_wp2_with fail
      refine k1.mono ?_
      rintro q w2 ⟨rfl, hP2, hO2⟩
      have HB2 : Hid (Sb S b p c ws x w w2 M s) := HB1.out.calls hO2 hP2
      clear k1 hP2 hO2 HB1
      have k2 := commasS_any HB2.out.ps hz (pathF ws) (fun u hu => path_pk hz hu) (fun W u hP hk => (path_any hP hz hl).mono fun r w2 hg => ⟨_, _, hg.1, rfl, rfl, hg.2.1, hg.2.2⟩)
      have gX := g.pk (Pk.commas hz (fun u hu => path_pk hz hu) 33 [] s (Pk.refl hlt))
      obtain ⟨X, hX⟩ : ∃ X, comF ws (pathF ws) 33 [] s = X := ⟨_, rfl⟩
      rw [hX] at k2 gX
      go_wp2_with fail
      refine k2.mono ?_
      rintro q w3 ⟨v3, rfl, G3⟩
      obtain ⟨L, hown, hels⟩ := G3.own
      obtain ⟨np, nc, rfl, hN⟩ := nms_own hown hels
      have B3 := HB2.out.calls G3.onl G3.ps
      obtain ⟨R3, hr3, hx3⟩ := B3.row
      have hNL : NmL w3 S X.1 (.slice np X.1.length nc) := ⟨np, nc, rfl, hN.imp fun k hk _ => HB2.out.new k (Nat.le_trans HB2.out.size hk)⟩
      have x3 : w3.cell? ⟨x, 25, none⟩ = some R3.cl := cell_of_row w3 x 25 _ _ _ hr3
      have f3 := frozen_of_row w3 x 25 _ _ hr3
      obtain ⟨w4, hw4⟩ : ∃ wq, w3.setCell ⟨x, 25, none⟩ (.slice np X.1.length nc) = wq := ⟨_, rfl⟩
      have HB4 : Hid (Sb S b p c ws x w w4 { M with cl := X.1 } X.2) := by
        rw [← hw4]
        exact B3.cell (N := { M with cl := X.1 }) hr3 25 (.slice np X.1.length nc) (R2 := { R3 with cl := .slice np X.1.length nc }) rfl { hx3 with cl := hNL }
      have HX : Hid (comF ws (pathF ws) 33 [] s = X) := hX
      clear k2 G3 hown hels hN B3 hr3 hx3 hNL HB2 hX
      go_wp2
      go_end0
      rw [HX.out]
      exact ⟨rfl, HB4.out, gX⟩


def updF (ws : List Wd) (M : Sm) (s : PS) : Sm × PS :=
  whrF ws { M with k := 4, t := nameS ws s, nm := (comF ws (namedF ws (exprF ws) [61]) 33 [] (mustQ ws (nameP ws s) 2 [83, 69, 84])).1.map (·.1), ex := (comF ws (namedF ws (exprF ws) [61]) 33 [] (mustQ ws (nameP ws s) 2 [83, 69, 84])).1.map (·.2) } (comF ws (namedF ws (exprF ws) [61]) 33 [] (mustQ ws (nameP ws s) 2 [83, 69, 84])).2
set_option maxRecDepth 100000 in
set_option maxHeartbeats 8000000 in
theorem update_any {S : Nat → Prop} {b : Nat} {p : Option Addr} {c : Nat} {ws : List Wd} {x : Nat} {w : World} {M : Sm} {s : PS} (H : Sb S b p c ws x w w M s) (hz : Wz ws) (hl : Wl ws) (g : Gd ws s) :
    Calls Tryz.prog 83 #[.pointer (some ⟨b, 0, none⟩), .pointer (some ⟨x, 0, none⟩)] w (Gst S b p c ws x w (updF ws M s)) := by
  have hlt := H.ps.lt
  unfold updF
  have hmf : ∀ (fn : Fn) (first cap : Array Value) (w : World), (Instr.makeFunc fn first cap).run Tryz.prog w = .ok (.func fn first cap) w := fun _ _ _ _ => rfl
  have g1 := g.name hz hlt
  have l1 := ((Pk.refl hlt).name hz).lt
  have g2 := g1.must hz l1 (k := 2) (by decide) [83, 69, 84]
  have l2 := ((Pk.refl l1).must hz (k := 2) (by decide) [83, 69, 84]).lt
  have HB0 : Hid (Sb S b p c ws x w w M s) := H
  have hbx := H.bx
  clear H
  go_enter Tryz.func83, Tryz.ntmps83
  obtain ⟨R0, hr0, hx0⟩ := HB0.out.row
  have x0 : w.cell? ⟨x, 0, none⟩ = some (.int .i64 R0.k) := cell_of_row w x 0 _ _ _ hr0
  have f0 := frozen_of_row w x 0 _ _ hr0
  obtain ⟨w1, hw1⟩ : ∃ wq, w.setCell ⟨x, 0, none⟩ (.int .i64 4) = wq := ⟨_, rfl⟩
  have HB1 : Hid (Sb S b p c ws x w w1 { M with k := 4 } s) := by
    rw [← hw1]
    exact HB0.out.cell (N := { M with k := 4 }) hr0 0 (.int .i64 4) (R2 := { R0 with k := 4 }) rfl { hx0 with k := rfl }
  clear hr0 hx0 HB0
  have k1 := pname_any HB1.out.ps hz
  go_wp2_with fail
  refine k1.mono ?_
  rintro q w2 ⟨rfl, hP2, hO2⟩
  have HB2 : Hid (Sb S b p c ws x w w2 { M with k := 4 } (nameP ws s)) := HB1.out.calls hO2 hP2
  clear k1 hP2 hO2 HB1
  clear hw1 x0 f0
  obtain ⟨R2, hr2, hx2⟩ := HB2.out.row
  have x2 : w2.cell? ⟨x, 1, none⟩ = some (.string R2.t) := cell_of_row w2 x 1 _ _ _ hr2
  have f2 := frozen_of_row w2 x 1 _ _ hr2
  obtain ⟨w3, hw3⟩ : ∃ wq, w2.setCell ⟨x, 1, none⟩ (.string (nameS ws s)) = wq := ⟨_, rfl⟩
  have HB3 : Hid (Sb S b p c ws x w w3 { { M with k := 4 } with t := (nameS ws s) } (nameP ws s)) := by
    rw [← hw3]
    exact HB2.out.cell (N := { { M with k := 4 } with t := (nameS ws s) }) hr2 1 (.string (nameS ws s)) (R2 := { R2 with t := (nameS ws s) }) rfl { hx2 with t := rfl }
  clear hr2 hx2 HB2
  have k3 := pkey_q HB3.out.ps hz [83, 69, 84]
  go_wp2_with fail
  refine k3.mono ?_
  rintro q w4 ⟨rfl, hP4, hO4⟩
  have HB4 : Hid (Sb S b p c ws x w w4 { { M with k := 4 } with t := (nameS ws s) } (mustQ ws (nameP ws s) 2 [83, 69, 84])) := HB3.out.calls hO4 hP4
  clear k3 hP4 hO4 HB3
  clear hw3 x2 f2
  have k4 := commasA_any HB4.out.ps hz (namedF ws (exprF ws) [61]) (fun u hu => Pk.named hz (fun v hv => exprF_ok hz v hv) [61] (Pk.refl hu)) (fun W u hP hk => assignment_any hP _ (fun W2 hP2 => named_any hP2 hz [61] (exprF ws) (fun W3 hP3 => expr_any hP3 hz hl (g2.pk ((hk.name hz).must hz (by decide) [61])))))
  have hpc := Pk.commas hz (fun u hu => Pk.named hz (fun v hv => exprF_ok hz v hv) [61] (Pk.refl hu)) 33 [] (mustQ ws (nameP ws s) 2 [83, 69, 84]) (Pk.refl l2)
  have gX := g2.pk hpc
  have hlen := comF_len ws (namedF ws (exprF ws) [61]) 33 [] (mustQ ws (nameP ws s) 2 [83, 69, 84])
  obtain ⟨X, hX⟩ : ∃ X, (comF ws (namedF ws (exprF ws) [61]) 33 [] (mustQ ws (nameP ws s) 2 [83, 69, 84])) = X := ⟨_, rfl⟩
  rw [hX] at k4 gX hlen
  go_wp2_with fail
  refine k4.mono ?_
  rintro q wa ⟨v4, rfl, G4⟩
  obtain ⟨L, hown, hels⟩ := G4.own
  have ka := apart_any hown (Els.imp eFld (R := fun k => (w4.heap.size ≤ k ∧ v4.ownBlock ≠ some k) ∧ k < wa.heap.size) (fun k hk hl => ⟨hk, hl⟩) hels) (fun k hk => hk.2) (by simpa using hlen)
  have HBa : Hid (Sb S b p c ws x w wa { { M with k := 4 } with t := (nameS ws s) } X.2) := HB4.out.calls G4.onl G4.ps
  have hsa : Hid (w4.heap.size ≤ wa.heap.size ∧ w.heap.size ≤ w4.heap.size) := ⟨G4.onl.size, HB4.out.size⟩
  have HX : Hid ((comF ws (namedF ws (exprF ws) [61]) 33 [] (mustQ ws (nameP ws s) 2 [83, 69, 84])) = X) := hX
  clear k4 G4 hown hels HB4 hlen hpc hX
  go_wp2_with fail
  refine ka.mono ?_
  rintro q wb ⟨v1, v2, L1, L2, rfl, o1, e1, o2, e2, hb5⟩
  have lm1 : (X.1.map (·.1)).length = X.1.length := by simp
  have lm2 : (X.1.map (·.2)).length = X.1.length := by simp
  rw [← lm1] at o1
  rw [← lm2] at o2
  obtain ⟨np, nc, rfl, hN⟩ := nms_own o1 e1
  have o2' : wb.ownsRow w.heap.size 28 10 v2 (X.1.map (·.2)).length L2 := own_mono o2 (Nat.le_trans hsa.out.2 hsa.out.1)
  obtain ⟨kp, kc, rfl, hK, d, hd⟩ := kds_own o2' e2 (fun k hk => Nat.le_trans hsa.out.2 hk.1.1)
  have Bb := HBa.out.calls (Onl.of hb5) (HBa.out.ps.later hb5)
  obtain ⟨R5, hr5, hx5⟩ := Bb.row
  have hNL : NmL wb S (X.1.map (·.1)) (.slice np (X.1.map (·.1)).length nc) := ⟨np, nc, rfl, hN.imp fun k hk _ => HBa.out.new k (Nat.le_trans (Nat.le_trans hsa.out.2 hsa.out.1) hk)⟩
  have hEL : ExL wb S (X.1.map (·.2)) (.slice kp (X.1.map (·.2)).length kc) := ⟨kp, kc, _, d, rfl, hK.imp fun k hk _ => HBa.out.new k hk, fun i hi => (hd i hi).imp fun k hk _ => HBa.out.new k hk⟩
  rw [lm1] at hNL
  rw [lm2] at hEL
  simp only [lm1, lm2]
  have x5 : wb.cell? ⟨x, 13, none⟩ = some R5.nm := cell_of_row wb x 13 _ _ _ hr5
  have f5 := frozen_of_row wb x 13 _ _ hr5
  have y5 : wb.cell? ⟨x, 14, none⟩ = some R5.ex := cell_of_row wb x 14 _ _ _ hr5
  have h5 := frozen_of_row wb x 14 _ _ hr5
  obtain ⟨wc, hwc⟩ : ∃ wq, (wb.setCell ⟨x, 13, none⟩ (.slice np X.1.length nc)).setCell ⟨x, 14, none⟩ (.slice kp X.1.length kc) = wq := ⟨_, rfl⟩
  have HBc : Hid (Sb S b p c ws x w wc { { { M with k := 4 } with t := (nameS ws s) } with nm := X.1.map (·.1), ex := X.1.map (·.2) } X.2) := by
    rw [← hwc]
    have r6 := heap_setCell_same wb x 13 _ _ (.slice np X.1.length nc) hr5
    refine Bb.store (R2 := { R5 with nm := .slice np X.1.length nc, ex := .slice kp X.1.length kc }) ?_ (((Below.refl x wb).setCell (p := ⟨x, 13, none⟩) (Nat.le_refl _) _).setCell (p := ⟨x, 14, none⟩) (Nat.le_refl _) _) (fun j hj => by rw [Below.heap_setCell _ _ _ j hj, Below.heap_setCell _ _ _ j hj]) { hx5 with nm := hNL, ex := hEL }
    exact heap_setCell_same _ x 14 _ _ _ r6
  have kw := where_any HBc.out.self hz hl gX
  clear ka o1 e1 o2 o2' e2 hb5 hN hK hd Bb hr5 hx5 hNL hEL HBa hsa lm1 lm2
  go_wp2_with fail
  refine kw.mono ?_
  rintro q wd ⟨rfl, hBd, hGd⟩
  have HBd : Hid (Sb S b p c ws x w wd _ _) := HBc.out.trans hBd
  clear kw hBd
  go_wp2
  go_end0
  rw [HX.out]
  exact ⟨rfl, HBd.out, hGd⟩
end Go.Proofs.YtfemippjaokcmaaGreatDoor
