/- Statements, part by part (number, columns, update). -/
import Derived.Test.YtfemippjaokcmaaGreatDoorXau
namespace Go.Proofs.YtfemippjaokcmaaGreatDoor
open Go.RowKit Go.Shelf
attribute [local go_sem] Oper.semAt_some fw0 fw1 fw2
def Ev (w : World) : Prop := (∃ te pe, w.cell? ⟨1, 0, none⟩ = some (.iface te pe)) /\ Er w
theorem Ev.keep {w w' : World} (h : Ev w) (hk : ∀ k, k <= 2 -> w'.heap[k]? = w.heap[k]?) : Ev w' := by
  obtain ⟨⟨te, pe, h1⟩, ⟨tf, pf, h2⟩⟩ := h
  exact ⟨⟨te, pe, (World.cell?_of_block (a := ⟨1, 0, none⟩) (hk 1 (by decide))).trans h1⟩, ⟨tf, pf, (World.cell?_of_block (a := ⟨2, 0, none⟩) (hk 2 (by decide))).trans h2⟩⟩
theorem Ev.lt {w : World} (h : Ev w) : 2 < w.heap.size := h.2.lt
theorem Ev.later {w w' : World} (h : Ev w) (hb : Below w.heap.size w w') : Ev w' := h.keep fun k hk => hb.block k (by have := h.lt; omega)
theorem Ev.onl {b : Nat} {w w' : World} (h : Ev w) (h2 : 2 < b) (hO : Onl b w w') : Ev w' := h.keep fun k hk => hO.block k (by have := h.lt; omega) (by omega)
theorem atoi_any (t : ByteArray) (ht : t.data.toList.length <= 10000) (w : World) (he : Ev w) :
    Calls Tryz.prog 150 #[.string t] w fun e w' => ∃ v ev, e = .returned (.tuple #[.int .i64 v, ev]) /\ (∀ u, Lib.atoiAll t.data.toList = .ok u -> v = u /\ ev = .nilIface) /\ Below w.heap.size w w' := by
  have hs : t.size <= 10000 := by rw [Lib.size_eq]; exact ht
  cases hq : Lib.atoiAll t.data.toList with
  | ok v =>
    refine (Tryz.strconv_Atoi_ok t (by omega) v hq w).mono ?_
    rintro e w' ⟨rfl, hw⟩
    refine ⟨v, _, rfl, fun u hu => ?_, ?_⟩
    . injection hu with hu; exact ⟨hu, rfl⟩
    . rcases hw with rfl | ⟨u, rfl⟩
      . exact Below.refl _ _
      . exact Lib.bytesWorld_below _ _ _
  | «syntax» =>
    obtain ⟨⟨te, pe, hv⟩, _⟩ := he
    refine (Tryz.strconv_Atoi_syntax t (by omega) hq _ w hv (Or.inr ⟨te, pe, rfl⟩)).mono ?_
    rintro e w' ⟨n, rfl, _, _, hb⟩
    exact ⟨_, _, rfl, fun u hu => (by cases hu), hb⟩
  | range =>
    obtain ⟨_, ⟨te, pe, hv⟩⟩ := he
    refine (Tryz.strconv_Atoi_range t (by omega) hq _ w hv (Or.inr ⟨te, pe, rfl⟩)).mono ?_
    rintro e w' ⟨n, rfl, _, _, hb⟩
    exact ⟨_, _, rfl, fun u hu => (by cases hu), hb⟩
def Wa (ws : List Wd) : Prop := ∀ i, (wAt ws i).k = 3 -> ∃ v, Lib.atoiAll (wAt ws i).s = .ok v
def numF (ws : List Wd) (s : PS) : Int × PS :=
  if (wAt ws s.at').k = 3 then (match Lib.atoiAll (wAt ws s.at').s with | .ok v => (v, takeP s) | _ => (0, failP ws s 120)) else (0, failP ws s 120)
set_option maxRecDepth 100000 in
set_option maxHeartbeats 8000000 in
theorem number_any {w : World} {b : Nat} {p : Option Addr} {c : Nat} {ws : List Wd} {s : PS} (H : Ps w b p c ws s) (hz : Wz ws) (hl : Wl ws) (ha : Wa ws) (he : Ev w) :
    Calls Tryz.prog 128 #[.pointer (some ⟨b, 0, none⟩)] w fun r w' => r = .returned (.int .i64 (numF ws s).1) /\ Ps w' b p c ws (numF ws s).2 /\ Onl b w w' := by
  have kw := word_any H
  have hln := (hl s.at').1
  have hnum := ha s.at'
  have hnx := hz.next (i := s.at') H.lt
  have ka := fun W hW => atoi_any (wdS (wAt ws s.at')) hln W hW
  have hdd : (wdS (wAt ws s.at')).data.toList = (wAt ws s.at').s := rfl
  rw [hdd] at ka
  unfold numF
  unfold wdV at kw
  by_cases hk : (wAt ws s.at').k = 3
  . obtain ⟨v, hv⟩ := hnum hk
    rw [if_pos hk, hv]
    dsimp only
    have h1 := hnx (by rw [hk]; decide)
    have hk' : ((wAt ws s.at').k : Int) = 3 := by omega
    rw [hk'] at kw
    have HV : Hid (Lib.atoiAll (wAt ws s.at').s = .ok v /\ ((wAt ws s.at').k : Int) = 3) := ⟨hv, hk'⟩
    have HH : Hid (Ps w b p c ws s /\ Ev w) := ⟨H, he⟩
    clear H hk hk' hv hnum hnx he hln hdd
    go_enter Tryz.func128, Tryz.ntmps128
    go_wp2_with fail
    refine kw.mono ?_
    rintro q w1 ⟨rfl, hb1⟩
    have k1 := ka w1 (HH.out.2.later hb1)
    have HB1 : Hid (Below w.heap.size w w1) := hb1
    clear kw hb1 ka
    go_wp2_with fail
    refine k1.mono ?_
    rintro q w2 ⟨v2, ev2, rfl, hu, hb2⟩
    obtain ⟨rfl, rfl⟩ := hu v HV.out.1
    have hb12 := HB1.out.trans (hb2.mono HB1.out.size)
    have k2 := word_any (HH.out.1.later hb12)
    unfold wdV at k2
    rw [HV.out.2] at k2
    have HB2 : Hid (Below w.heap.size w w2) := hb12
    have HK : Hid True := trivial
    clear k1 hu hb2 hb12 HB1 HK
    go_wp2_with fail
    refine k2.mono ?_
    rintro q w3 ⟨rfl, hb3⟩
    have hb13 := HB2.out.trans (hb3.mono HB2.out.size)
    have k3 := take_any (HH.out.1.later hb13) h1
    have HB3 : Hid (Below w.heap.size w w3) := hb13
    clear k2 hb3 hb13 HB2
    go_wp2_with fail
    refine k3.mono ?_
    rintro q w4 ⟨rfl, hP4, hO4⟩
    have HP4 : Hid (Ps w4 b p c ws (takeP s) /\ Onl b w w4) := ⟨hP4, (Onl.of HB3.out).trans hO4⟩
    clear k3 hP4 hO4
    go_wp2
    go_ret
    exact ⟨rfl, HP4.out.1, HP4.out.2⟩
  . rw [if_neg hk]
    have hk' : ¬ ((wAt ws s.at').k : Int) = 3 := by omega
    have HH : Hid (Ps w b p c ws s /\ Ev w) := ⟨H, he⟩
    clear H hk hnum hnx he hln hdd
    obtain ⟨kk, hkk⟩ : ∃ kk, ((wAt ws s.at').k : Int) = kk := ⟨_, rfl⟩
    have HK : Hid (((wAt ws s.at').k : Int) = kk) := hkk
    rw [hkk] at kw hk'
    clear hkk
    go_enter Tryz.func128, Tryz.ntmps128
    go_wp2_with fail
    refine kw.mono ?_
    rintro q w1 ⟨rfl, hb1⟩
    have k1 := ka w1 (HH.out.2.later hb1)
    have HB1 : Hid (Below w.heap.size w w1) := hb1
    clear kw hb1 ka
    go_wp2_with fail
    refine k1.mono ?_
    rintro q w2 ⟨v2, ev2, rfl, hu, hb2⟩
    have hb12 := HB1.out.trans (hb2.mono HB1.out.size)
    have k2 := word_any (HH.out.1.later hb12)
    unfold wdV at k2
    rw [HK.out] at k2
    have HB2 : Hid (Below w.heap.size w w2) := hb12
    clear k1 hu hb2 hb12 HB1
    go_wp2_with fail
    refine k2.mono ?_
    rintro q w3 ⟨rfl, hb3⟩
    have hb13 := HB2.out.trans (hb3.mono HB2.out.size)
    have k3 := fail_any (HH.out.1.later hb13) 120
    have HB3 : Hid (Below w.heap.size w w3) := hb13
    clear k2 hb3 hb13 HB2
    go_wp2_with fail
    refine k3.mono ?_
    rintro q w4 ⟨rfl, hP4, hO4⟩
    have HP4 : Hid (Ps w4 b p c ws (failP ws s 120) /\ Onl b w w4) := ⟨hP4, (Onl.of HB3.out).trans hO4⟩
    clear k3 hP4 hO4
    go_wp2
    go_ret
    exact ⟨rfl, HP4.out.1, HP4.out.2⟩
def colF (ws : List Wd) (M : Sm) (s : PS) : Sm × PS :=
  if isP (wAt ws s.at') 6 [42] then (M, takeP s)
  else if isP (wAt ws s.at') 2 [67, 79, 85, 78, 84] then ({ M with cn := true }, takeP s)
  else ({ M with cl := (comF ws (pathF ws) 33 [] s).1 }, (comF ws (pathF ws) 33 [] s).2)
def updF (ws : List Wd) (M : Sm) (s : PS) : Sm × PS :=
  whrF ws { M with k := 4, t := nameS ws s, nm := (comF ws (namedF ws (exprF ws) [61]) 33 [] (mustQ ws (nameP ws s) 2 [83, 69, 84])).1.map (·.1), ex := (comF ws (namedF ws (exprF ws) [61]) 33 [] (mustQ ws (nameP ws s) 2 [83, 69, 84])).1.map (·.2) } (comF ws (namedF ws (exprF ws) [61]) 33 [] (mustQ ws (nameP ws s) 2 [83, 69, 84])).2
end Go.Proofs.YtfemippjaokcmaaGreatDoor
