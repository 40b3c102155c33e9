/- LexWords, called. -/
import Derived.Test.YticmoapmolmcjaaDoorRv
import Derived.Test.YticmoapmolmcjaaDoorAw
namespace Go.Proofs.YticmoapmolmcjaaDoor
open Go.RowKit Go.Shelf
theorem wdC_at3 : ∀ (ws : List Wd) (i : Nat) (x : Wd), ws[i]? = some x → (wdC ws)[i * 3]? = some (.int .i64 (x.k : Int)) ∧ (wdC ws)[i * 3 + 1]? = some (.string ⟨x.s.toArray⟩) ∧ (wdC ws)[i * 3 + 2]? = some (.int .i64 (x.a : Int))
  | [], i, x, h => by simp at h
  | y :: ws, 0, x, h => by
    injection h with h
    subst h
    exact ⟨rfl, rfl, rfl⟩
  | y :: ws, i + 1, x, h => by
    have h2 := wdC_at3 ws i x (by simpa using h)
    have e : wdC (y :: ws) = wd1 y ++ wdC ws := rfl
    rw [e]
    have hl : (wd1 y).length = 3 := rfl
    rw [List.getElem?_append_right (by omega), List.getElem?_append_right (by omega), List.getElem?_append_right (by omega), hl]
    rw [show (i + 1) * 3 - 3 = i * 3 by omega, show (i + 1) * 3 + 1 - 3 = i * 3 + 1 by omega, show (i + 1) * 3 + 2 - 3 = i * 3 + 2 by omega]
    exact h2
theorem cut_any (s : ByteArray) (w : World) : Calls Tryd.prog 8 #[.string s] w fun e w' => (∃ t : ByteArray, e = .returned (.string t) ∧ t.size ≤ 2100) ∧ w' = w := by
  by_cases h : 2100 < s.size
  · have h' : (2100 : Int) < (s.size : Int) := by omega
    have h2 : (2100 : Int) ≤ (s.size : Int) := by omega
    go_enter Tryd.func8, Tryd.ntmps8
    go_wp2
    go_ret
    exact ⟨⟨_, rfl, by rw [ByteArray.size_extract]; omega⟩, rfl⟩
  · have h' : ¬ (2100 : Int) < (s.size : Int) := by omega
    go_enter Tryd.func8, Tryd.ntmps8
    go_wp2
    go_ret
    exact ⟨⟨_, rfl, by omega⟩, rfl⟩
theorem below_drew2 {B : Nat} {a w : World} (h : Below B a w) (n : Nat) : Below B a (w.drewN n) := ⟨h.os, h.tape, h.output, h.size, h.block⟩
set_option maxRecDepth 20000 in
set_option maxHeartbeats 8000000 in
theorem words_walk (s : ByteArray) (W : World) (he : Er W) : Calls Tryd.prog 3 #[.string s] W fun e w' => e = .returned (.bool true) ∧ Below W.heap.size W w' := by
  go_enter Tryd.func3, Tryd.ntmps3
  go_wp2_with fail
  refine (cut_any s _).mono ?_
  rintro e w0 ⟨⟨t, rfl, ht⟩, hw0⟩
  have hw0' := hw0.symm
  subst hw0'
  clear hw0
  have w1 := words_any t (by omega) W he
  have w2 := rwords_any t (by omega)
  have hmany := wordsR_many t.data.toList
  rw [← Lib.size_eq] at hmany
  obtain ⟨R, hR⟩ : ∃ R, wordsR t.data.toList = R := ⟨_, rfl⟩
  rw [hR] at w1 w2 hmany
  obtain ⟨ws, p, e⟩ := R
  simp only at w1 w2 hmany
  clear hR
  go_wp2_with fail
  refine w1.mono ?_
  rintro e1 wa ⟨p1, c1, rfl, hsl1, hb1⟩
  go_wp2_with fail
  refine (w2 _).mono ?_
  rintro e2 wb ⟨p2, c2, rfl, hsl2, hb2⟩
  go_wp2_with fail
  refine (awake_any _ ((he.later hb1).later hb2)).mono ?_
  rintro e3 wc ⟨rfl, hb3⟩
  have hs1 := (hsl1.later hb2).later hb3
  have hs2 := hsl2.later hb3
  have hz1 := hb1.size
  have hz2 := hb2.size
  have hB : Below W.heap.size W wc := (hb1.trans (hb2.mono hz1)).trans (hb3.mono (by omega))
  have hcap1 := hs1.cap
  have hcap2 := hs2.cap
  clear hsl1 hsl2 w1 w2 hb1 hb2 hb3 hz1 hz2
  go_wp2
  go_loopw [10] (fun c10 wr => ∃ i : Nat, i ≤ ws.length ∧ c10 = .int .i64 (i : Int) ∧ Below wc.heap.size wc wr) (fun c10 _ => ws.length - (intOf c10).toNat)
  case atStart => exact ⟨0, by omega, rfl, Below.refl _ _⟩
  case round =>
    obtain ⟨i, hi, rfl, hbr⟩ := hrel
    by_cases hlt : i < ws.length
    · have hlt' : (i : Int) < (ws.length : Int) := by omega
      obtain ⟨x, hx⟩ : ∃ x, ws[i]? = some x := ⟨_, List.getElem?_eq_getElem hlt⟩
      obtain ⟨b1, rfl, hl1, hc1⟩ := (hs1.later hbr).lies (by omega)
      obtain ⟨b2, rfl, hl2, hc2⟩ := (hs2.later hbr).lies (by omega)
      have hx3 := wdC_at3 ws i x hx
      have k10 := hc1 _ _ hx3.1
      have k11 := hc1 _ _ hx3.2.1
      have k12 := hc1 _ _ hx3.2.2
      have k20 := hc2 _ _ hx3.1
      have k21 := hc2 _ _ hx3.2.1
      have k22 := hc2 _ _ hx3.2.2
      clear hc1 hc2 hx3 hx
      obtain ⟨xk, xs, xa⟩ := x
      simp only at k10 k11 k12 k20 k21 k22
      go_wp2
      go_quiet (fail)
      go_wp2
      refine ⟨⟨i + 1, by omega, by go_num, below_drew2 hbr _⟩, ?_⟩
      simp [intOf]
      omega
    · have hlt' : ¬ (i : Int) < (ws.length : Int) := by omega
      go_wp2
      go_ret
      exact ⟨by simp, hB.trans (hbr.mono hB.size)⟩
end Go.Proofs.YticmoapmolmcjaaDoor
