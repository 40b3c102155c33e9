/- The document's word at any place, and the document's Words. -/
import Derived.Test.YticmoapmolmcjaaDoorRy
import Derived.Test.YticmoapmolmcjaaDoorRz
namespace Go.Proofs.YticmoapmolmcjaaDoor
open Go.RowKit Go.Shelf
theorem rword_any (s : ByteArray) (hs : s.size ≤ 10000) (a : Nat) (hlt : a < s.size) (w : World) :
    Calls Tryd.prog 18 #[.string s, .int .i64 (a : Int)] w fun e w' => RW a (fstA (s.data.toList.drop a)) e ∧ Below w.heap.size w w' := by
  obtain ⟨c, hc, _⟩ := at_chr hlt
  have hl := Lib.size_eq s
  have hp := pre2_at 120 39 hc
  rw [fst_at hc]
  by_cases hx : [120, 39].isPrefixOf (s.data.toList.drop a) = true
  · rw [if_pos hx]
    obtain ⟨h1, h2⟩ := hp.1 hx
    rw [h1] at hc
    refine rword_hex s hs a hlt hc ?_ h2 w
    rcases Nat.lt_or_ge (a + 1) s.data.toList.length with h | h
    · omega
    · rw [List.getElem?_eq_none h] at h2; cases h2
  · rw [if_neg hx]
    by_cases hin : (inNameB (c.toNat : Int) && !digitB (c.toNat : Int)) = true
    · rw [if_pos hin]
      refine rword_name s hs a hlt c hc hin ?_ w
      by_cases h120 : ((c.toNat : Nat) : Int) = 120
      · by_cases h1 : a + 1 < s.size
        · refine Or.inr (Or.inr ⟨h120, by omega, h1, fun e => hx (hp.2 ⟨byte_of h120 (by decide), ?_⟩)⟩)
          obtain ⟨d, hd, hed⟩ := at_chr h1
          rw [chr_eq s (a + 1) h1, hed] at e
          rw [hd, byte_of e (by decide)]
          rfl
        · exact Or.inr (Or.inl ⟨h120, by omega⟩)
      · exact Or.inl h120
    · rw [if_neg hin]
      by_cases hd : digitB (c.toNat : Int) = true
      · rw [if_pos hd]
        exact rword_num s hs a hlt c hc hd w
      · rw [if_neg hd]
        by_cases h39 : c = 39
        · rw [if_pos h39]
          rw [h39] at hc
          exact rword_str s hs a hlt hc w
        · rw [if_neg h39]
          exact rword_sign s hs a hlt c hc (by simpa using hin) (by simpa using hd) h39 w
theorem info32 : (Tryd.prog.info? 32).map (fun i => (i.zero, i.size, i.bytes)) = some (some (.agg #[.int .i64 0, .string ⟨#[]⟩, .int .i64 0]), 3, 32) := by kernel_rfl
theorem class_blank (x : Int) : (classI x = 3 ∧ blankB x = true) ∨ (¬ classI x = 3 ∧ blankB x = false) := by
  unfold classI
  cases hb : blankB x
  · refine Or.inr ⟨?_, rfl⟩
    split
    · decide
    · split
      · decide
      · decide
  · refine Or.inl ⟨?_, rfl⟩
    have hx : x = 32 ∨ x = 10 ∨ x = 9 := by
      unfold blankB at hb
      simp at hb
      omega
    rcases hx with rfl | rfl | rfl <;> rfl
theorem WI.start0 (s : ByteArray) : WI s 0 [] := ⟨Nat.zero_le _, by rw [List.drop_zero]; rfl⟩
theorem WI.blank {s : ByteArray} {a : Nat} {ws : List Wd} {c : UInt8} (h : WI s a ws) (hc : s.data.toList[a]? = some c) (hb : blankB (c.toNat : Int) = true) : WI s (a + 1) ws := by
  refine ⟨by have := h.le; omega, ?_⟩
  have h1 := h.all
  rw [drop_at hc, wdsL_blank _ _ hb] at h1
  exact h1
set_option maxRecDepth 20000 in
set_option maxHeartbeats 8000000 in
theorem rwords_any (s : ByteArray) (hs : s.size ≤ 10000) (w : World) :
    Calls Tryd.prog 10 #[.string s] w fun e w' => ∃ p c, e = .returned (.tuple #[.slice p (wordsR s.data.toList).1.length c, .int .i64 ((wordsR s.data.toList).2.1 : Int), .int .i64 ((wordsR s.data.toList).2.2 : Int)]) ∧ Sl w' p (wordsR s.data.toList).1.length c (wdC (wordsR s.data.toList).1) ∧ Below w.heap.size w w' := by
  have hl := Lib.size_eq s
  by_cases h2000 : 2000 < s.size
  · rw [long_words (by omega)]
    have h' : (2000 : Int) < (s.size : Int) := by omega
    clear hl
    go_enter Tryd.func10, Tryd.ntmps10
    go_wp2
    go_ret3
    exact ⟨none, 0, rfl, Sl.nil _, Below.refl _ _⟩
  · have h' : ¬ (2000 : Int) < (s.size : Int) := by omega
    obtain ⟨R, hR⟩ : ∃ R, wordsR s.data.toList = R := ⟨_, rfl⟩
    rw [hR]
    have HR : Hid (wordsR s.data.toList = R) := hR
    have HL : Hid (s.size = s.data.toList.length) := hl
    clear hR hl
    obtain ⟨i0, hi, hz0, hz1, hz2⟩ := info_parts info32
    go_enter Tryd.func10, Tryd.ntmps10
    go_wp2
    go_loopw [5, 6] (fun c5 c6 wr => ∃ (a : Nat) (ws : List Wd), a ≤ s.size ∧ c6 = .int .i64 (a : Int) ∧ Hid (WI s a ws) ∧ wr.ownsRow w.heap.size 32 3 c5 ws.length (wdC ws) ∧ Below w.heap.size w wr) (fun _ c6 _ => s.size - (intOf c6).toNat)
    case atStart => exact ⟨0, [], by omega, rfl, WI.start0 s, World.ownsRow_made w #[] 0 (Nat.le_refl _) (Nat.zero_le _) rfl, (Below.refl _ w).alloc (Nat.le_refl _) _⟩
    case round =>
      obtain ⟨a, ws, ha, rfl, hwi, hown, hB⟩ := hrel
      have hwl : ws.length ≤ a := hwi.out.le
      by_cases hlt : a < s.size
      · have hlt' : (a : Int) < (s.size : Int) := by omega
        obtain ⟨c, hc, hec⟩ := at_chr hlt
        have HC : Hid (s.data.toList[a]? = some c) := hc
        have hce : ((s[a].toNat : Nat) : Int) = (c.toNat : Int) := by rw [chr_eq s a hlt, hec]
        have hcl := class_any (c.toNat : Int)
        clear hec hc
        rcases class_blank (c.toNat : Int) with ⟨h3, hb⟩ | ⟨h3, hb⟩
        · rw [h3] at hcl
          have HB : Hid (blankB (c.toNat : Int) = true) := hb
          clear h3 hb
          go_wp2_with fail
          refine (hcl _).mono ?_
          rintro e w2 ⟨rfl, hw2⟩
          have hw2' := hw2.symm
          subst hw2'
          clear hw2
          go_wp2
          refine ⟨⟨a + 1, ws, by omega, by go_num, hwi.out.blank HC.out HB.out, hown, hB⟩, ?_⟩
          simp [intOf]
          omega
        · obtain ⟨y, hy⟩ : ∃ y, classI (c.toNat : Int) = y := ⟨_, rfl⟩
          rw [hy] at hcl h3
          have HB : Hid (blankB (c.toNat : Int) = false) := hb
          clear hy hb
          have hf := rword_any s hs a hlt
          cases hfa : fstA (s.data.toList.drop a) with
          | none =>
            rw [hfa] at hf
            have HBAD : Hid (wordsR s.data.toList = ([], a, 110)) := hwi.out.bad (by have := HL.out; omega) HC.out HB.out hfa
            clear hfa
            go_wp2_with fail
            refine (hcl _).mono ?_
            rintro e w2 ⟨rfl, hw2⟩
            have hw2' := hw2.symm
            subst hw2'
            clear hw2
            go_wp2_with fail
            refine (hf _).mono ?_
            rintro e w1 ⟨⟨K, S, A, rfl, _⟩, hb1⟩
            simp only [rE]
            go_wp2
            go_ret3
            rw [← HR.out, HBAD.out]
            exact ⟨none, 0, rfl, Sl.nil _, (hB.trans (hb1.mono hB.size)).alloc (Nat.le_trans hB.size hb1.size) _⟩
          | some x =>
            obtain ⟨k, t, n⟩ := x
            rw [hfa] at hf
            have hfl := fstA_le hfa
            rw [List.length_drop, ← HL.out] at hfl
            have HST : Hid (WI s (a + n) (ws ++ [⟨k, t, a⟩])) := hwi.out.step HC.out HB.out hfa
            have hnz : ¬ (a : Int) + (n : Int) = 0 := by omega
            clear hfa
            go_wp2_with fail
            refine (hcl _).mono ?_
            rintro e w2 ⟨rfl, hw2⟩
            have hw2' := hw2.symm
            subst hw2'
            clear hw2
            go_wp2_with fail
            refine (hf _).mono ?_
            rintro e w1 ⟨⟨K, S, A, rfl, hKSA⟩, hb1⟩
            obtain ⟨rfl, rfl, rfl⟩ := hKSA k t n rfl
            have hre : ((rE a (some (k, t, n)) : Nat) : Int) = (a : Int) + (n : Int) := by simp [rE]
            rw [hre]
            have hB1 : Below w.heap.size w w1 := hB.trans (hb1.mono hB.size)
            have hown1 := own_laterN hown hb1
            have hws : w.heap.size ≤ w1.heap.size := hB1.size
            clear hf hb1 hown hB hwi hcl hKSA hre h3
            go_wp2_with (at_builtin; refine wpList_append_own _ rfl _ _ 27 rfl w.heap.size 32 i0 (.agg #[.int .i64 0, .string ⟨#[]⟩, .int .i64 0]) 3 32 Tryd.underlying27 hi hz0 hz1 hz2 rfl (by decide) _ _ _ rfl ((hown1.alloc _).alloc _) ⟨w1.heap.size + 1, 0, none⟩ 1 1 (wd1 ⟨k, t, a⟩) rfl rfl ?c1 ?c2 ?c3 ?c4 ?c5 ?_)
            case c1 => exact World.news_of_block (two_new w1 _ _)
            case c2 => exact fun u hu => wdC_ones [⟨k, t, a⟩] u (by rw [wdC_one]; exact hu)
            case c3 => unfold maxLen; omega
            case c4 => omega
            case c5 => simp; omega
            intro v' w2 hown2 hgr2 _
            have hB2 : Below w.heap.size w w2 := ((hB1.alloc hws _).alloc (by simp; omega) _).grown hgr2 (by simp; omega) (fun j hj => (hown1.lt j hj).1)
            have hown3 : w2.ownsRow w.heap.size 32 3 v' (ws ++ [(⟨k, t, a⟩ : Wd)]).length (wdC (ws ++ [⟨k, t, a⟩])) := by
              rw [wdC_app, wdC_one, List.length_append]
              exact hown2
            clear hown1 hown2 hgr2
            go_wp2
            refine ⟨⟨a + n, ws ++ [⟨k, t, a⟩], by omega, by go_num, HST, hown3, hB2⟩, ?_⟩
            simp [intOf]
            omega
      · have hlt' : ¬ (a : Int) < (s.size : Int) := by omega
        have HD : Hid (wordsR s.data.toList = (ws ++ [⟨0, [], s.data.toList.length⟩], 0, 0)) := hwi.out.done (by have := HL.out; omega) (by have := HL.out; omega)
        have hws : w.heap.size ≤ wr.heap.size := hB.size
        clear hwi
        go_wp2_with (at_builtin; refine wpList_append_own _ rfl _ _ 27 rfl w.heap.size 32 i0 (.agg #[.int .i64 0, .string ⟨#[]⟩, .int .i64 0]) 3 32 Tryd.underlying27 hi hz0 hz1 hz2 rfl (by decide) _ _ _ rfl (hown.alloc _) ⟨wr.heap.size, 0, none⟩ 1 1 (wd1 ⟨0, [], s.size⟩) rfl rfl ?c1 ?c2 ?c3 ?c4 ?c5 ?_)
        case c1 => exact fun j u hu => hu
        case c2 => exact fun u hu => wdC_ones [⟨0, [], s.size⟩] u (by rw [wdC_one]; exact hu)
        case c3 => unfold maxLen; omega
        case c4 => omega
        case c5 => omega
        intro v' w2 hown2 hgr2 _
        have hB2 : Below w.heap.size w w2 := (hB.alloc hws _).grown hgr2 (by simp; omega) (fun j hj => (hown.lt j hj).1)
        have hown3 : w2.ownsRow w.heap.size 32 3 v' (ws ++ [(⟨0, [], s.size⟩ : Wd)]).length (wdC (ws ++ [⟨0, [], s.size⟩])) := by
          rw [wdC_app, wdC_one, List.length_append]
          exact hown2
        clear hown hown2 hgr2
        obtain ⟨p, c, rfl, hsl⟩ := Sl.of_own hown3
        go_wp2
        go_ret3
        rw [← HR.out, HD.out, ← HL.out]
        exact ⟨p, c, rfl, hsl, hB2⟩
end Go.Proofs.YticmoapmolmcjaaDoor
