/- ValueStructs' walk, whole: names, then parts, then what is told of them. -/
import Derived.Test.YtjmjlijmeahmfaaVsg
namespace Go.Proofs.Ytjmjlijmeahmfaa
open Go.RowKit Go.Lib
theorem one_str (s : ByteArray) : ∀ u ∈ (#[Value.string s] : Array Value).toList, u.oneCell' = true := fun u hu => by
  have : u = .string s := by simpa using hu
  rw [this]; rfl
set_option maxRecDepth 100000 in
set_option maxHeartbeats 16000000 in
theorem structs_walk {w : World} {q nc m pc : Nat} {na pa : Option Addr} {G : Nat → ByteArray} {F : Nat → Tr} {X : Nat → Ad} (hnm : Names w.heap.size w q G na nc) (hpc : m ≤ pc ∧ pc ≤ maxLen)
    (hp : 0 < m → ∃ b o, pa = some ⟨b, o, none⟩ ∧ b < w.heap.size ∧ ∀ i, i < m → At6 w b (o + i * 6) (F i) (X i)) (hr : ∀ i, i < m → Lies w.heap.size w (F i) (X i)) (ask : ByteArray) (hask : ask.size ≤ maxLen) :
    Calls Try.prog 7 #[.slice na q nc, .slice pa m pc, .string ask] w fun e w' => e = .returned (.bool true) ∧ Below w.heap.size w w' := by
  have hmx : maxLen = 9223372036854775807 := rfl
  have HN : Hid (Names w.heap.size w q G na nc) := hnm
  have HP : Hid (0 < m → ∃ b o, pa = some ⟨b, o, none⟩ ∧ b < w.heap.size ∧ ∀ i, i < m → At6 w b (o + i * 6) (F i) (X i)) := hp
  have HR : Hid (∀ i, i < m → Lies w.heap.size w (F i) (X i)) := hr
  have hqn : (q : Int) ≤ 9223372036854775807 := by have := hnm.1; have := hnm.2.1; omega
  have hmn : (m : Int) ≤ 9223372036854775807 := by omega
  obtain ⟨T, hT⟩ : ∃ T : Nat → Tr, ∀ j, T j = cutT (F j) 2 3 := ⟨fun j => cutT (F j) 2 3, fun _ => rfl⟩
  have HT : Hid (∀ j, T j = cutT (F j) 2 3) := hT
  clear hp hr hnm hT
  obtain ⟨w1, hw1⟩ : ∃ w1, ((w.alloc (.cells #[] 9)).alloc (.cells #[] 25)).alloc (.cells #[] 33) = w1 := ⟨_, rfl⟩
  have hb1 : Below w.heap.size w w1 := by rw [← hw1]; exact (((Below.refl _ w).alloc (Nat.le_refl _) _).alloc (by simp) _).alloc (by simp <;> omega) _
  have o7 : w1.ownsRow w.heap.size 9 1 (.slice (some ⟨w.heap.size, 0, none⟩) 0 0) 0 [] := by
    rw [← hw1]
    have := ((World.ownsRow_lit (base := w.heap.size) (size := 1) (e := 9) w #[] 0 (Nat.le_refl _) (by omega) rfl).alloc (.cells #[] 25)).alloc (.cells #[] 33)
    exact this
  have o8 : w1.ownsRow w.heap.size 25 6 (.slice (some ⟨w.heap.size + 1, 0, none⟩) 0 0) 0 [] := by
    rw [← hw1]
    have := (World.ownsRow_lit (base := w.heap.size) (size := 6) (e := 25) (w.alloc (.cells #[] 9)) #[] 0 (by simp) (by omega) rfl).alloc (.cells #[] 33)
    simpa using this
  have o9 : w1.ownsRow w.heap.size 33 6 (.slice (some ⟨w.heap.size + 1 + 1, 0, none⟩) 0 0) 0 [] := by
    rw [← hw1]
    have := World.ownsRow_lit (base := w.heap.size) (size := 6) (e := 33) ((w.alloc (.cells #[] 9)).alloc (.cells #[] 25)) #[] 0 (by simp <;> omega) (by omega) rfl
    simpa using this
  have HW : Hid (((w.alloc (.cells #[] 9)).alloc (.cells #[] 25)).alloc (.cells #[] 33) = w1) := hw1
  clear hw1
  go_enter Try.func7, Try.ntmps7
  go_wp2_with fail
  rw [HW.out]
  have two0 : Two w.heap.size w1 (.slice (some ⟨w.heap.size + 1, 0, none⟩) 0 0) (.slice (some ⟨w.heap.size + 1 + 1, 0, none⟩) 0 0) 0 0 T X X := ⟨o8, o9, fun k hk => absurd hk (Nat.not_lt_zero k), fun k hk => absurd hk (Nat.not_lt_zero k)⟩
  clear HW o8 o9
  obtain ⟨v8, hv8⟩ : ∃ v, Value.slice (some ⟨w.heap.size + 1, 0, none⟩) 0 0 = v := ⟨_, rfl⟩
  obtain ⟨v9, hv9⟩ : ∃ v, Value.slice (some ⟨w.heap.size + 1 + 1, 0, none⟩) 0 0 = v := ⟨_, rfl⟩
  rw [hv8, hv9] at two0
  rw [hv8, hv9]
  clear hv8 hv9
  rename_i Q1 K1 a1
  obtain ⟨cT, hcT⟩ : ∃ c, cutB Try.f7.body = some c := ⟨_, rfl⟩
  have a3 : ∀ a w, Code.wp Try.prog cT Q1 a w → K1 a w := fun a w h => a1 a w (by have e := Option.some.inj (hcT.symm.trans (show cutB Try.f7.body = some _ from rfl)); rw [← e]; exact h)
  clear a1
  have HC : Hid (cutB Try.f7.body = some cT) := hcT
  clear hcT
  have HGS : Hid (∀ i, i < q → (G i).size ≤ maxLen) := HN.out.2.2.1
  go_loopw [7, 10] (fun c7 c10 wr => ∃ i : Nat, i ≤ q ∧ i ≤ 12 ∧ c10 = .int .i64 (i : Int) ∧ wr.ownsRow w.heap.size 9 1 c7 i ((List.range i).flatMap (cN G)) ∧ Two w.heap.size wr v8 v9 0 0 T X X ∧ Below w.heap.size w wr) (fun _ c10 _ => q - (intOf c10).toNat)
  case atStart => exact ⟨0, Nat.zero_le _, by omega, rfl, o7, two0, hb1⟩
  case round =>
    clear o7 two0 hb1 w1
    obtain ⟨i, hiq, hi12, rfl, hown, htwo, hbw⟩ := hrel
    have hszr := hbw.size
    by_cases hlt : i < q ∧ i < 12
    · have h1 : (i : Int) < (q : Int) := by omega
      have h2 : (i : Int) < 12 := by omega
      obtain ⟨nb, no, rfl, hnb, hnc⟩ := HN.out.2.2.2 (by omega)
      have eni := cell_later (hnc i hlt.1) hnb hbw
      clear hnc
      obtain ⟨gi, hgi⟩ : ∃ gi, G i = gi := ⟨_, rfl⟩
      rw [hgi] at eni
      have HGI : Hid (G i = gi) := hgi
      clear hgi
      have hal : Below wr.heap.size wr (wr.alloc (.cells #[.string gi] 9)) := (Below.refl _ wr).alloc (Nat.le_refl _) _
      obtain ⟨v', W', hrun, ho, hg, hbk⟩ := app23 (hown.alloc (.cells #[.string gi] 9)) (by have := hal.size; omega) (slt_one wr #[.string gi] 9 1 rfl (one_str gi)) (by omega)
      have HO : Hid (W'.ownsRow w.heap.size 9 1 v' (i + 1) ((List.range (i + 1)).flatMap (cN G))) := by
        have e : (List.range (i + 1)).flatMap (cN G) = (List.range i).flatMap (cN G) ++ [.string gi] := by rw [List.range_succ, List.flatMap_append]; simp [cN, HGI.out]
        rw [e]; exact ho
      have htwo2 := htwo.kept hal
      have HTW : Hid (Two w.heap.size W' v8 v9 0 0 T X X) := ⟨htwo2.own8.kept hg (by
          cases hu : v8.ownBlock with
          | none => exact Or.inl rfl
          | some g => exact Or.inr (fun e => own_ne htwo2.own8 (hown.alloc _) (by decide) g hu e)), htwo2.own9.kept hg (by
          cases hu : v9.ownBlock with
          | none => exact Or.inl rfl
          | some g => exact Or.inr (fun e => own_ne htwo2.own9 (hown.alloc _) (by decide) g hu e)), fun k hk => absurd hk (Nat.not_lt_zero k), fun k hk => absurd hk (Nat.not_lt_zero k)⟩
      have HB : Hid (Below w.heap.size w W') := (hbw.trans (hal.mono hszr)).grown hg (by have := hal.size; omega) (fun k hk => (hown.lt k hk).1)
      clear ho hg hbk htwo2 htwo hown hal
      go_wp2_with (at_builtin; refine Lib.wpList_append_run _ rfl _ _ _ _ rfl _ _ rfl rfl _ _ hrun ?_)
      go_roundw
      case rel => exact ⟨i + 1, by omega, by omega, by go_num, HO.out, HTW.out, HB.out⟩
      case measure => simp [intOf]; omega
    · have hstop : ¬ ((i : Int) < (q : Int) ∧ (i : Int) < 12) := by omega
      by_cases h1 : (i : Int) < (q : Int)
      · have h2 : ¬ (i : Int) < 12 := fun h => hstop ⟨h1, h⟩
        go_wp2_with fail
        exact tail1 w wr m pc i pa F T X X G ask u7 v8 v9 _ _ _ _ _ _ _ _ _ _ _ _ _ _ _ _ _ _ _ _ _ _ _ _ _ _ _ _ _ _ _ _ _ _ _ _ _ _ _ _ _ _ _ _ _ _ _ _ _ _ _ _ _ _ _ _ _ _ _ _ _ _ _ _ _ _ _ _ _ _ _ _ _ _ _ _ _ _ _ _ _ _ _ _ _ _ _ _ _ _ _ _ _ _ _ _ _ _ _ _ _ _ _ _ _ _ _ _ _ _ _ _ _ _ _ _ _ _ _ _ _ _ _ _ _ _ _ _ _ _ _ _ _ _ _ _ _ _ _ _ _ _ _ _ _ _ _ _ _ _ _ _ _ _ _ _ _ _ _ _ _ _ _ _ _ _ _ _ _ _ _ _ _ _ _ _ _ _ _ _ _ _ _ _ _ _ _ _ hask hi12 hmn HP HR HT (fun j hj => HGS.out j (by omega)) ⟨htwo, hown, hbw⟩ cT HC.out
      · go_wp2_with fail
        exact tail1 w wr m pc i pa F T X X G ask u7 v8 v9 _ _ _ _ _ _ _ _ _ _ _ _ _ _ _ _ _ _ _ _ _ _ _ _ _ _ _ _ _ _ _ _ _ _ _ _ _ _ _ _ _ _ _ _ _ _ _ _ _ _ _ _ _ _ _ _ _ _ _ _ _ _ _ _ _ _ _ _ _ _ _ _ _ _ _ _ _ _ _ _ _ _ _ _ _ _ _ _ _ _ _ _ _ _ _ _ _ _ _ _ _ _ _ _ _ _ _ _ _ _ _ _ _ _ _ _ _ _ _ _ _ _ _ _ _ _ _ _ _ _ _ _ _ _ _ _ _ _ _ _ _ _ _ _ _ _ _ _ _ _ _ _ _ _ _ _ _ _ _ _ _ _ _ _ _ _ _ _ _ _ _ _ _ _ _ _ _ _ _ _ _ _ _ _ _ _ _ _ hask hi12 hmn HP HR HT (fun j hj => HGS.out j (by omega)) ⟨htwo, hown, hbw⟩ cT HC.out
end Go.Proofs.Ytjmjlijmeahmfaa
