/- The document's Kind, a case of its walk. The document's Kind, a case of its walk. The document's Kind, a case of its walk. The document's Kind, a case of its walk. The document's Kind, a case of its walk. The document's Kind, a case of its walk. The document's Kind, a case of its walk. The document's Kind, a case of its walk. The document's Kind, a case of its walk. The document's Kind, a case of its walk. The document's Kind, a case of its walk. -/
import Derived.Test.YtcniebkehekliaaGreatDoorRkd
namespace Go.Proofs.YtcniebkehekliaaGreatDoor
open Go.RowKit Go.Shelf
attribute [local go_sem] Oper.semAt_some
set_option maxRecDepth 100000 in
set_option maxHeartbeats 8000000 in
theorem rkind_sor {w : World} {S : Nat → Prop} {d : Nat} {f : Nat → Et} (b : Bool) {F : Et → Int × Int} {R : XR} (H : Rp w S d f b F R) (hk : R.k = 6) (hs : R.s.data.toList = [79, 82]) :
    Calls Tryz.prog 9 #[rowX R, .bool b] w fun r w' => r = .returned (.tuple #[.int .i64 (rK (truF) (kdsF F f 0 R.n [])).1, .int .i64 (rK (truF) (kdsF F f 0 R.n [])).2]) ∧ Below w.heap.size w w' := by
  have hn := H.few.1
  have hm := H.few.2
  have hmx : maxLen = 9223372036854775807 := rfl
  obtain ⟨V, hV⟩ : ∃ V, kdsF F f 0 R.n [] = V := ⟨_, rfl⟩
  rw [hV]
  obtain ⟨Z, hZ⟩ : ∃ Z, rK (truF) V = Z := ⟨_, rfl⟩
  rw [hZ]
  have HV : Hid (kdsF F f 0 R.n [] = V ∧ rK (truF) V = Z ∧ Rp w S d f b F R) := ⟨hV, hZ, H⟩
  have HKK : Hid (R.k = 6) := hk
  clear hk
  have HSS : Hid (R.s.data.toList = [79, 82]) := hs
  clear hs
  obtain ⟨w1, hw1⟩ : ∃ w1, (w.alloc (.cells #[.int .i64 R.k, .string R.s, .int .i64 R.vk, .bool R.vb, .int .i64 R.vn, .string R.vs, .slice none 0 0, .slice none 0 0, .slice R.kp R.n R.kc, .slice R.np R.m R.nc] 44)).alloc (.cells #[] 3) = w1 := ⟨_, rfl⟩
  have H1 : Hid (Below w.heap.size w w1 ∧ w1.heap.size = w.heap.size + 2 ∧ w1.heap[w.heap.size]? = some (.cells (arrX R) 44 (0, 0)) ∧ w1.ownsRow (w.heap.size + 1) 3 1 (.slice (some ⟨w.heap.size + 1, 0, none⟩) 0 0) 0 []) := by
    have hb1 : Below w.heap.size w w1 := by rw [← hw1]; exact ((Below.refl _ w).alloc (Nat.le_refl _) _).alloc (by simp) _
    have s1 : w1.heap.size = w.heap.size + 2 := by rw [← hw1]; simp
    have r0 : w1.heap[w.heap.size]? = some (.cells (arrX R) 44 (0, 0)) := by
      rw [← hw1, Below.heap_alloc _ _ _ (by simp)]; exact heap_alloc_new _ _
    have r1 : w1.heap[w.heap.size + 1]? = some (.cells #[] 3 (0, 0)) := by
      rw [← hw1]
      have e := heap_alloc_new (w.alloc (.cells #[.int .i64 R.k, .string R.s, .int .i64 R.vk, .bool R.vb, .int .i64 R.vn, .string R.vs, .slice none 0 0, .slice none 0 0, .slice R.kp R.n R.kc, .slice R.np R.m R.nc] 44)) (.cells #[] 3)
      have e2 : (w.alloc (.cells #[.int .i64 R.k, .string R.s, .int .i64 R.vk, .bool R.vb, .int .i64 R.vn, .string R.vs, .slice none 0 0, .slice none 0 0, .slice R.kp R.n R.kc, .slice R.np R.m R.nc] 44)).heap.size = w.heap.size + 1 := by simp
      rw [e2] at e
      exact e
    exact ⟨hb1, s1, r0, rfl, .inr ⟨w.heap.size + 1, 0, #[], rfl, Nat.le_refl _, r1, Nat.le_refl _, Nat.zero_le _, rfl, rfl⟩⟩
  obtain ⟨i0, hi0, hz0, hz1, hz2⟩ := info_parts info3
  clear hV hZ H
  unfold rowX
  go_enter Tryz.func9, Tryz.ntmps9
  go_wp2_with fail
  clear hw1
  go_loopw [6, 7] (fun c6 c7 wr => ∃ (i : Nat) (l : List Int), i ≤ R.n ∧ c7 = .int .i64 (i : Int) ∧ Hid (l.length = i ∧ kdsF F f i (R.n - i) l = V ∧ wr.ownsRow (w.heap.size + 1) 3 1 c6 l.length (intsC l) ∧ Below w.heap.size w wr ∧ wr.heap[w.heap.size]? = some (.cells (arrX R) 44 (0, 0)) ∧ w.heap.size + 2 ≤ wr.heap.size)) (fun _ c7 _ => R.n - (intOf c7).toNat)
  case atStart =>
    refine ⟨0, [], Nat.zero_le _, rfl, ?_⟩
    have hh : ([] : List Int).length = 0 ∧ kdsF F f 0 (R.n - 0) [] = V ∧ w1.ownsRow (w.heap.size + 1) 3 1 (.slice (some ⟨w.heap.size + 1, 0, none⟩) 0 0) ([] : List Int).length (intsC []) ∧ Below w.heap.size w w1 ∧ w1.heap[w.heap.size]? = some (.cells (arrX R) 44 (0, 0)) ∧ w.heap.size + 2 ≤ w1.heap.size := ⟨rfl, HV.out.1, H1.out.2.2.2, H1.out.1, H1.out.2.2.1, Nat.le_of_eq H1.out.2.1.symm⟩
    exact hh
  case round =>
    clear H1
    obtain ⟨i, l, hi, rfl, hh⟩ := hrel
    obtain ⟨hl, hlo, hown, hB, hbx, hs2⟩ := hh.out
    have x8 : wr.cell? ⟨w.heap.size, 8, none⟩ = some (.slice R.kp R.n R.kc) := cell_of_row wr _ 8 _ _ _ hbx
    by_cases hlt : i < R.n
    · have hlt' : (i : Int) < (R.n : Int) := by omega
      obtain ⟨Kc, hK, hd⟩ := HV.out.2.2.kids
      have hcap := hK.cap
      obtain ⟨g, o, hkp, hSg, hg, hcl⟩ := hK.lies (by omega)
      have hLi := hd i hlt
      obtain ⟨A, hA, h10, hon⟩ := hLi.agg
      have hrg : wr.rangeAt g (o + i * 10) A.toList := fun j u hu => by
        have hj : j < 10 := by have := (List.getElem?_eq_some_iff.1 hu).1; simpa [h10] using this
        have h1 := hcl i hlt j hj
        rw [← cell_later hB hg] at h1
        rw [h1]
        unfold row10 at hA
        injection hA with hA2
        rw [← hA2] at hu
        rcases (by omega : j = 0 ∨ j = 1 ∨ j = 2 ∨ j = 3 ∨ j = 4 ∨ j = 5 ∨ j = 6 ∨ j = 7 ∨ j = 8 ∨ j = 9) with rfl | rfl | rfl | rfl | rfl | rfl | rfl | rfl | rfl | rfl <;> simpa using hu
      rw [hA] at hLi
      have k2 := HV.out.2.2.calls wr i (.agg A) hlt (hLi.since (Since.below hB))
      have HI : Hid ((Tryz.prog.info? 44).map (·.size) = some A.toList.length ∧ wr.rangeAt g (o + i * 10) A.toList) := ⟨by rw [Array.length_toList]; exact i44 h10, hrg⟩
      rw [hkp] at x8
      obtain ⟨r, hr⟩ : ∃ r, R.n - i = r + 1 := ⟨R.n - i - 1, by omega⟩
      rw [hr] at hlo
      unfold kdsF at hlo
      obtain ⟨X, hX⟩ : ∃ X, F (f i) = X := ⟨_, rfl⟩
      rw [hX] at k2 hlo
      have H2 : Hid (wr.ownsRow (w.heap.size + 1) 3 1 u6 l.length (intsC l) ∧ Below w.heap.size w wr ∧ wr.heap[w.heap.size]? = some (.cells (arrX R) 44 (0, 0)) ∧ l.length = i ∧ w.heap.size + 2 ≤ wr.heap.size ∧ R.n - i = r + 1) := ⟨hown, hB, hbx, hl, hs2, hr⟩
      clear hh hown hB hbx hl hrg h10 hon hA hLi hcl hX hkp hSg hg hK hd hr hs2
      by_cases hx2 : X.2 = 0
      · rw [if_pos hx2] at hlo
        have HLO : Hid (kdsF F f (i + 1) r (l ++ [X.1]) = V) := hlo
        rw [hx2] at k2
        clear hlo hx2
        go_wp2_with (first | (refine wpList_load_mid rfl 44 (.tmp 28) rfl g (o + i * 10) rfl A.toList _ HI.out.2 Tryz.underlying44 rfl HI.out.1 ?_; simp only [Act.put, List.setIfInBounds_toArray, List.set_cons_zero, List.set_cons_succ, Array.toArray_toList]) | fail)
        refine k2.mono ?_
        rintro q w3 ⟨rfl, hb3⟩
        have o3 := own_laterN H2.out.1 hb3
        have s3 := hb3.size
        have HB3 : Hid (Below w.heap.size w w3 ∧ w3.heap[w.heap.size]? = some (.cells (arrX R) 44 (0, 0)) ∧ w.heap.size + 2 ≤ w3.heap.size) := ⟨H2.out.2.1.trans (hb3.mono H2.out.2.1.size), (hb3.block _ (by have := H2.out.2.2.2.2.1; omega)).trans H2.out.2.2.1, by have := H2.out.2.2.2.2.1; omega⟩
        have hll := H2.out.2.2.2.1
        have hs3 := HB3.out.2.2
        clear k2 hb3 x8 HI
        go_wp2_with (at_builtin; refine wpList_append_own_at _ rfl _ _ 60 rfl (w.heap.size + 1) 3 i0 (.int .i64 0) 1 8 Tryz.underlying60 hi0 hz0 hz1 hz2 rfl (by decide) _ _ _ rfl (o3.alloc _) ⟨w3.heap.size, 0, none⟩ 1 1 [.int .i64 X.1] rfl rfl ?c1 ?c2 ?c3 ?c4 ?c5 ?_)
        case c1 => exact World.news_of_block (heap_alloc_new w3 _)
        case c2 => exact fun u hu => by rw [List.mem_singleton] at hu; rw [hu]; rfl
        case c3 => unfold maxLen; omega
        case c4 => omega
        case c5 => simp; omega
        intro v' w5 hown5 hgr5 _ hat5
        have HB5 : Hid (w5.ownsRow (w.heap.size + 1) 3 1 v' (l ++ [X.1]).length (intsC (l ++ [X.1])) ∧ Below w.heap.size w w5 ∧ w5.heap[w.heap.size]? = some (.cells (arrX R) 44 (0, 0)) ∧ w.heap.size + 2 ≤ w5.heap.size) := by
          refine ⟨?_, (HB3.out.1.alloc (by omega) _).grown hgr5 (by simp; omega) (fun k hk => by have := (o3.lt k hk).1; omega), ?_, ?_⟩
          · have e1 : (l ++ [X.1]).length = l.length + 1 := by simp
            have e2 : intsC (l ++ [X.1]) = intsC l ++ [.int .i64 X.1] := by simp [intsC]
            rw [e1, e2, hll]
            exact hown5
          · refine (hgr5.block _ (by simp; omega) (fun e => by have := (o3.lt _ e.symm).1; omega)).trans ?_
            rw [Below.heap_alloc _ _ _ (by omega)]
            exact HB3.out.2.1
          · have := hgr5.size
            simp at this
            omega
        clear o3 hown5 hgr5 hat5
        go_wp2_with fail
        go_roundw
        case rel =>
          refine ⟨i + 1, l ++ [X.1], by omega, by go_num, ?_⟩
          have er : R.n - (i + 1) = r := by have := H2.out.2.2.2.2.2; omega
          have hh : (l ++ [X.1]).length = i + 1 ∧ kdsF F f (i + 1) (R.n - (i + 1)) (l ++ [X.1]) = V ∧ w5.ownsRow (w.heap.size + 1) 3 1 v' (l ++ [X.1]).length (intsC (l ++ [X.1])) ∧ Below w.heap.size w w5 ∧ w5.heap[w.heap.size]? = some (.cells (arrX R) 44 (0, 0)) ∧ w.heap.size + 2 ≤ w5.heap.size := ⟨by simp; omega, by rw [er]; exact HLO.out, HB5.out.1, HB5.out.2.1, HB5.out.2.2.1, HB5.out.2.2.2⟩
          exact hh
        case measure => simp [intOf]; omega
      · rw [if_neg hx2] at hlo
        have hZ : Z = (0, X.2) := by
          rw [← HV.out.2.1, ← hlo]
          unfold rK
          rw [if_neg hx2]
        subst hZ
        clear hlo
        go_wp2_with (first | (refine wpList_load_mid rfl 44 (.tmp 28) rfl g (o + i * 10) rfl A.toList _ HI.out.2 Tryz.underlying44 rfl HI.out.1 ?_; simp only [Act.put, List.setIfInBounds_toArray, List.set_cons_zero, List.set_cons_succ, Array.toArray_toList]) | fail)
        refine k2.mono ?_
        rintro q w3 ⟨rfl, hb3⟩
        have HB3 : Hid (Below w.heap.size w w3) := H2.out.2.1.trans (hb3.mono H2.out.2.1.size)
        clear k2 hb3 x8
        go_wp2
        go_ret2
        exact ⟨rfl, HB3.out⟩
    · obtain rfl : i = R.n := by omega
      have hlt' : ¬ ((R.n : Int) < (R.n : Int)) := by omega
      have hV : V = (l, 0) := by
        rw [← hlo, Nat.sub_self]
        rfl
      subst hV
      have HZ : Hid ((truF) l = Z ∧ (∀ x ∈ l, -1 ≤ x) ∧ l.length ≤ 1000 ∧ Below w.heap.size w wr) := by
        have hge : ∀ x ∈ l, -1 ≤ x := by
          have h1 := kdsF_ge HV.out.2.2.ge f R.n 0 [] (fun x hx => by simp at hx)
          rw [HV.out.1] at h1
          exact h1
        exact ⟨HV.out.2.1, hge, by rw [hl]; exact hn, hB⟩
      obtain ⟨q, k, hu6, hKn⟩ := Kn.own hown
      subst hu6
      have HK : Hid (Kn wr q k l) := hKn
      have hcapk := hKn.cap
      have hbx' := hbx
      clear hh hown hKn hlo hl hi hlt HV hs2
      have rb := hbx'
      clear hbx' hbx
      have y0 : wr.cell? ⟨w.heap.size, 0, none⟩ = some (.int .i64 6) := (cell_of_row wr _ 0 _ _ _ rb).trans (by rw [← HKK.out]; rfl)
      have y1 : wr.cell? ⟨w.heap.size, 1, none⟩ = some (.string ⟨#[79, 82]⟩) := (cell_of_row wr _ 1 _ _ _ rb).trans (by
        have e : R.s = ⟨#[79, 82]⟩ := by
          have h1 := congrArg List.toArray HSS.out
          simp only [Array.toArray_toList] at h1
          cases hR : R.s with
          | mk a => rw [hR] at h1; simp only at h1; rw [h1]
        rw [← e]; rfl)
      clear rb
      go_wp2_with fail
      go_loopw [14, 15] (fun c14 c15 wq => ∃ (i : Nat) (o : Int), i ≤ l.length ∧ c15 = .int .i64 (i : Int) ∧ c14 = .int .i64 o ∧ Hid ((l.take i).all (tkI 1) = true ∧ o = 1) ∧ wq = wr) (fun _ c15 _ => l.length - (intOf c15).toNat)
      case atStart => exact ⟨0, 1, Nat.zero_le _, rfl, rfl, (show (l.take 0).all (tkI 1) = true ∧ (1 : Int) = 1 from ⟨rfl, rfl⟩), rfl⟩
      case round =>
        obtain ⟨i, o, hi, rfl, rfl, ha, hwq⟩ := hrel
        obtain rfl := hwq
        have hl3 := HZ.out.2.2.1
        by_cases hlt : i < l.length
        · have hlt2 : (i : Int) < (l.length : Int) := by omega
          obtain ⟨x, hx⟩ : ∃ x, l[i]? = some x := ⟨l[i], List.getElem?_eq_getElem hlt⟩
          have hxg := HZ.out.2.1 x (List.mem_of_getElem? hx)
          obtain ⟨g, rfl, c1⟩ := HK.out.less hx
          by_cases h1 : 1 < x
          · have hp : tkI 1 x = false := by
              unfold tkI
              have e0 : (x == 0) = false := by simpa using (by omega : ¬ x = 0)
              have e1 : (x == -1) = false := by simpa using (by omega : ¬ x = -1)
              have e2 : (x == 1) = false := by simpa using (by omega : ¬ x = 1)
              rw [e2, e0, e1]
              rfl
            have hnn := not_all hx hp
            clear hp
            have hZ : Z = (0, 131) := by
              rw [← HZ.out.1]
              unfold truF
              rw [hnn]
              rfl
            subst hZ
            have HB : Hid (Below w.heap.size w wr) := HZ.out.2.2.2
            clear hx HZ HK
            go_wp2
            go_ret2
            exact ⟨rfl, HB.out⟩
          · have hp : tkI 1 x = true := by
              unfold tkI
              rcases (by omega : x = 1 ∨ x = 0 ∨ x = -1) with e | e | e <;> rw [e] <;> rfl
            have hm2 : Hid ((l.take (i + 1)).all (tkI 1) = true ∧ o = 1) := by
              have h3 : (l.take (i + 1)).all (tkI 1) = true := by rw [all_more hx, ha.out.1, hp]; rfl
              exact ⟨h3, ha.out.2⟩
            clear hx hp ha
            go_wp2_with fail
            go_roundw
            case rel => exact ⟨i + 1, o, by omega, by go_num, rfl, hm2, by first | rfl | trivial⟩
            case measure => simp [intOf]; omega
        · obtain rfl : i = l.length := by omega
          have hlt2 : ¬ ((l.length : Int) < (l.length : Int)) := by omega
          have hZ : Z = (o, 0) := by
            rw [← HZ.out.1]
            unfold truF
            have h := ha.out
            rw [List.take_of_length_le (Nat.le_refl _)] at h
            rw [h.1, h.2]
            rfl
          subst hZ
          have HB : Hid (Below w.heap.size w wr) := HZ.out.2.2.2
          clear HZ HK ha
          go_wp2
          go_ret2
          exact ⟨rfl, HB.out⟩
end Go.Proofs.YtcniebkehekliaaGreatDoor
namespace Go.Proofs.YtcniebkehekliaaGreatDoor
open Go.RowKit Go.Shelf
attribute [local go_sem] Oper.semAt_some
set_option maxRecDepth 100000 in
set_option maxHeartbeats 8000000 in
theorem rkind_sand {w : World} {S : Nat → Prop} {d : Nat} {f : Nat → Et} (b : Bool) {F : Et → Int × Int} {R : XR} (H : Rp w S d f b F R) (hk : R.k = 6) (hs : R.s.data.toList = [65, 78, 68]) :
    Calls Tryz.prog 9 #[rowX R, .bool b] w fun r w' => r = .returned (.tuple #[.int .i64 (rK (truF) (kdsF F f 0 R.n [])).1, .int .i64 (rK (truF) (kdsF F f 0 R.n [])).2]) ∧ Below w.heap.size w w' := by
  have hn := H.few.1
  have hm := H.few.2
  have hmx : maxLen = 9223372036854775807 := rfl
  obtain ⟨V, hV⟩ : ∃ V, kdsF F f 0 R.n [] = V := ⟨_, rfl⟩
  rw [hV]
  obtain ⟨Z, hZ⟩ : ∃ Z, rK (truF) V = Z := ⟨_, rfl⟩
  rw [hZ]
  have HV : Hid (kdsF F f 0 R.n [] = V ∧ rK (truF) V = Z ∧ Rp w S d f b F R) := ⟨hV, hZ, H⟩
  have HKK : Hid (R.k = 6) := hk
  clear hk
  have HSS : Hid (R.s.data.toList = [65, 78, 68]) := hs
  clear hs
  obtain ⟨w1, hw1⟩ : ∃ w1, (w.alloc (.cells #[.int .i64 R.k, .string R.s, .int .i64 R.vk, .bool R.vb, .int .i64 R.vn, .string R.vs, .slice none 0 0, .slice none 0 0, .slice R.kp R.n R.kc, .slice R.np R.m R.nc] 44)).alloc (.cells #[] 3) = w1 := ⟨_, rfl⟩
  have H1 : Hid (Below w.heap.size w w1 ∧ w1.heap.size = w.heap.size + 2 ∧ w1.heap[w.heap.size]? = some (.cells (arrX R) 44 (0, 0)) ∧ w1.ownsRow (w.heap.size + 1) 3 1 (.slice (some ⟨w.heap.size + 1, 0, none⟩) 0 0) 0 []) := by
    have hb1 : Below w.heap.size w w1 := by rw [← hw1]; exact ((Below.refl _ w).alloc (Nat.le_refl _) _).alloc (by simp) _
    have s1 : w1.heap.size = w.heap.size + 2 := by rw [← hw1]; simp
    have r0 : w1.heap[w.heap.size]? = some (.cells (arrX R) 44 (0, 0)) := by
      rw [← hw1, Below.heap_alloc _ _ _ (by simp)]; exact heap_alloc_new _ _
    have r1 : w1.heap[w.heap.size + 1]? = some (.cells #[] 3 (0, 0)) := by
      rw [← hw1]
      have e := heap_alloc_new (w.alloc (.cells #[.int .i64 R.k, .string R.s, .int .i64 R.vk, .bool R.vb, .int .i64 R.vn, .string R.vs, .slice none 0 0, .slice none 0 0, .slice R.kp R.n R.kc, .slice R.np R.m R.nc] 44)) (.cells #[] 3)
      have e2 : (w.alloc (.cells #[.int .i64 R.k, .string R.s, .int .i64 R.vk, .bool R.vb, .int .i64 R.vn, .string R.vs, .slice none 0 0, .slice none 0 0, .slice R.kp R.n R.kc, .slice R.np R.m R.nc] 44)).heap.size = w.heap.size + 1 := by simp
      rw [e2] at e
      exact e
    exact ⟨hb1, s1, r0, rfl, .inr ⟨w.heap.size + 1, 0, #[], rfl, Nat.le_refl _, r1, Nat.le_refl _, Nat.zero_le _, rfl, rfl⟩⟩
  obtain ⟨i0, hi0, hz0, hz1, hz2⟩ := info_parts info3
  clear hV hZ H
  unfold rowX
  go_enter Tryz.func9, Tryz.ntmps9
  go_wp2_with fail
  clear hw1
  go_loopw [6, 7] (fun c6 c7 wr => ∃ (i : Nat) (l : List Int), i ≤ R.n ∧ c7 = .int .i64 (i : Int) ∧ Hid (l.length = i ∧ kdsF F f i (R.n - i) l = V ∧ wr.ownsRow (w.heap.size + 1) 3 1 c6 l.length (intsC l) ∧ Below w.heap.size w wr ∧ wr.heap[w.heap.size]? = some (.cells (arrX R) 44 (0, 0)) ∧ w.heap.size + 2 ≤ wr.heap.size)) (fun _ c7 _ => R.n - (intOf c7).toNat)
  case atStart =>
    refine ⟨0, [], Nat.zero_le _, rfl, ?_⟩
    have hh : ([] : List Int).length = 0 ∧ kdsF F f 0 (R.n - 0) [] = V ∧ w1.ownsRow (w.heap.size + 1) 3 1 (.slice (some ⟨w.heap.size + 1, 0, none⟩) 0 0) ([] : List Int).length (intsC []) ∧ Below w.heap.size w w1 ∧ w1.heap[w.heap.size]? = some (.cells (arrX R) 44 (0, 0)) ∧ w.heap.size + 2 ≤ w1.heap.size := ⟨rfl, HV.out.1, H1.out.2.2.2, H1.out.1, H1.out.2.2.1, Nat.le_of_eq H1.out.2.1.symm⟩
    exact hh
  case round =>
    clear H1
    obtain ⟨i, l, hi, rfl, hh⟩ := hrel
    obtain ⟨hl, hlo, hown, hB, hbx, hs2⟩ := hh.out
    have x8 : wr.cell? ⟨w.heap.size, 8, none⟩ = some (.slice R.kp R.n R.kc) := cell_of_row wr _ 8 _ _ _ hbx
    by_cases hlt : i < R.n
    · have hlt' : (i : Int) < (R.n : Int) := by omega
      obtain ⟨Kc, hK, hd⟩ := HV.out.2.2.kids
      have hcap := hK.cap
      obtain ⟨g, o, hkp, hSg, hg, hcl⟩ := hK.lies (by omega)
      have hLi := hd i hlt
      obtain ⟨A, hA, h10, hon⟩ := hLi.agg
      have hrg : wr.rangeAt g (o + i * 10) A.toList := fun j u hu => by
        have hj : j < 10 := by have := (List.getElem?_eq_some_iff.1 hu).1; simpa [h10] using this
        have h1 := hcl i hlt j hj
        rw [← cell_later hB hg] at h1
        rw [h1]
        unfold row10 at hA
        injection hA with hA2
        rw [← hA2] at hu
        rcases (by omega : j = 0 ∨ j = 1 ∨ j = 2 ∨ j = 3 ∨ j = 4 ∨ j = 5 ∨ j = 6 ∨ j = 7 ∨ j = 8 ∨ j = 9) with rfl | rfl | rfl | rfl | rfl | rfl | rfl | rfl | rfl | rfl <;> simpa using hu
      rw [hA] at hLi
      have k2 := HV.out.2.2.calls wr i (.agg A) hlt (hLi.since (Since.below hB))
      have HI : Hid ((Tryz.prog.info? 44).map (·.size) = some A.toList.length ∧ wr.rangeAt g (o + i * 10) A.toList) := ⟨by rw [Array.length_toList]; exact i44 h10, hrg⟩
      rw [hkp] at x8
      obtain ⟨r, hr⟩ : ∃ r, R.n - i = r + 1 := ⟨R.n - i - 1, by omega⟩
      rw [hr] at hlo
      unfold kdsF at hlo
      obtain ⟨X, hX⟩ : ∃ X, F (f i) = X := ⟨_, rfl⟩
      rw [hX] at k2 hlo
      have H2 : Hid (wr.ownsRow (w.heap.size + 1) 3 1 u6 l.length (intsC l) ∧ Below w.heap.size w wr ∧ wr.heap[w.heap.size]? = some (.cells (arrX R) 44 (0, 0)) ∧ l.length = i ∧ w.heap.size + 2 ≤ wr.heap.size ∧ R.n - i = r + 1) := ⟨hown, hB, hbx, hl, hs2, hr⟩
      clear hh hown hB hbx hl hrg h10 hon hA hLi hcl hX hkp hSg hg hK hd hr hs2
      by_cases hx2 : X.2 = 0
      · rw [if_pos hx2] at hlo
        have HLO : Hid (kdsF F f (i + 1) r (l ++ [X.1]) = V) := hlo
        rw [hx2] at k2
        clear hlo hx2
        go_wp2_with (first | (refine wpList_load_mid rfl 44 (.tmp 28) rfl g (o + i * 10) rfl A.toList _ HI.out.2 Tryz.underlying44 rfl HI.out.1 ?_; simp only [Act.put, List.setIfInBounds_toArray, List.set_cons_zero, List.set_cons_succ, Array.toArray_toList]) | fail)
        refine k2.mono ?_
        rintro q w3 ⟨rfl, hb3⟩
        have o3 := own_laterN H2.out.1 hb3
        have s3 := hb3.size
        have HB3 : Hid (Below w.heap.size w w3 ∧ w3.heap[w.heap.size]? = some (.cells (arrX R) 44 (0, 0)) ∧ w.heap.size + 2 ≤ w3.heap.size) := ⟨H2.out.2.1.trans (hb3.mono H2.out.2.1.size), (hb3.block _ (by have := H2.out.2.2.2.2.1; omega)).trans H2.out.2.2.1, by have := H2.out.2.2.2.2.1; omega⟩
        have hll := H2.out.2.2.2.1
        have hs3 := HB3.out.2.2
        clear k2 hb3 x8 HI
        go_wp2_with (at_builtin; refine wpList_append_own_at _ rfl _ _ 60 rfl (w.heap.size + 1) 3 i0 (.int .i64 0) 1 8 Tryz.underlying60 hi0 hz0 hz1 hz2 rfl (by decide) _ _ _ rfl (o3.alloc _) ⟨w3.heap.size, 0, none⟩ 1 1 [.int .i64 X.1] rfl rfl ?c1 ?c2 ?c3 ?c4 ?c5 ?_)
        case c1 => exact World.news_of_block (heap_alloc_new w3 _)
        case c2 => exact fun u hu => by rw [List.mem_singleton] at hu; rw [hu]; rfl
        case c3 => unfold maxLen; omega
        case c4 => omega
        case c5 => simp; omega
        intro v' w5 hown5 hgr5 _ hat5
        have HB5 : Hid (w5.ownsRow (w.heap.size + 1) 3 1 v' (l ++ [X.1]).length (intsC (l ++ [X.1])) ∧ Below w.heap.size w w5 ∧ w5.heap[w.heap.size]? = some (.cells (arrX R) 44 (0, 0)) ∧ w.heap.size + 2 ≤ w5.heap.size) := by
          refine ⟨?_, (HB3.out.1.alloc (by omega) _).grown hgr5 (by simp; omega) (fun k hk => by have := (o3.lt k hk).1; omega), ?_, ?_⟩
          · have e1 : (l ++ [X.1]).length = l.length + 1 := by simp
            have e2 : intsC (l ++ [X.1]) = intsC l ++ [.int .i64 X.1] := by simp [intsC]
            rw [e1, e2, hll]
            exact hown5
          · refine (hgr5.block _ (by simp; omega) (fun e => by have := (o3.lt _ e.symm).1; omega)).trans ?_
            rw [Below.heap_alloc _ _ _ (by omega)]
            exact HB3.out.2.1
          · have := hgr5.size
            simp at this
            omega
        clear o3 hown5 hgr5 hat5
        go_wp2_with fail
        go_roundw
        case rel =>
          refine ⟨i + 1, l ++ [X.1], by omega, by go_num, ?_⟩
          have er : R.n - (i + 1) = r := by have := H2.out.2.2.2.2.2; omega
          have hh : (l ++ [X.1]).length = i + 1 ∧ kdsF F f (i + 1) (R.n - (i + 1)) (l ++ [X.1]) = V ∧ w5.ownsRow (w.heap.size + 1) 3 1 v' (l ++ [X.1]).length (intsC (l ++ [X.1])) ∧ Below w.heap.size w w5 ∧ w5.heap[w.heap.size]? = some (.cells (arrX R) 44 (0, 0)) ∧ w.heap.size + 2 ≤ w5.heap.size := ⟨by simp; omega, by rw [er]; exact HLO.out, HB5.out.1, HB5.out.2.1, HB5.out.2.2.1, HB5.out.2.2.2⟩
          exact hh
        case measure => simp [intOf]; omega
      · rw [if_neg hx2] at hlo
        have hZ : Z = (0, X.2) := by
          rw [← HV.out.2.1, ← hlo]
          unfold rK
          rw [if_neg hx2]
        subst hZ
        clear hlo
        go_wp2_with (first | (refine wpList_load_mid rfl 44 (.tmp 28) rfl g (o + i * 10) rfl A.toList _ HI.out.2 Tryz.underlying44 rfl HI.out.1 ?_; simp only [Act.put, List.setIfInBounds_toArray, List.set_cons_zero, List.set_cons_succ, Array.toArray_toList]) | fail)
        refine k2.mono ?_
        rintro q w3 ⟨rfl, hb3⟩
        have HB3 : Hid (Below w.heap.size w w3) := H2.out.2.1.trans (hb3.mono H2.out.2.1.size)
        clear k2 hb3 x8
        go_wp2
        go_ret2
        exact ⟨rfl, HB3.out⟩
    · obtain rfl : i = R.n := by omega
      have hlt' : ¬ ((R.n : Int) < (R.n : Int)) := by omega
      have hV : V = (l, 0) := by
        rw [← hlo, Nat.sub_self]
        rfl
      subst hV
      have HZ : Hid ((truF) l = Z ∧ (∀ x ∈ l, -1 ≤ x) ∧ l.length ≤ 1000 ∧ Below w.heap.size w wr) := by
        have hge : ∀ x ∈ l, -1 ≤ x := by
          have h1 := kdsF_ge HV.out.2.2.ge f R.n 0 [] (fun x hx => by simp at hx)
          rw [HV.out.1] at h1
          exact h1
        exact ⟨HV.out.2.1, hge, by rw [hl]; exact hn, hB⟩
      obtain ⟨q, k, hu6, hKn⟩ := Kn.own hown
      subst hu6
      have HK : Hid (Kn wr q k l) := hKn
      have hcapk := hKn.cap
      have hbx' := hbx
      clear hh hown hKn hlo hl hi hlt HV hs2
      have rb := hbx'
      clear hbx' hbx
      have y0 : wr.cell? ⟨w.heap.size, 0, none⟩ = some (.int .i64 6) := (cell_of_row wr _ 0 _ _ _ rb).trans (by rw [← HKK.out]; rfl)
      have y1 : wr.cell? ⟨w.heap.size, 1, none⟩ = some (.string ⟨#[65, 78, 68]⟩) := (cell_of_row wr _ 1 _ _ _ rb).trans (by
        have e : R.s = ⟨#[65, 78, 68]⟩ := by
          have h1 := congrArg List.toArray HSS.out
          simp only [Array.toArray_toList] at h1
          cases hR : R.s with
          | mk a => rw [hR] at h1; simp only at h1; rw [h1]
        rw [← e]; rfl)
      clear rb
      go_wp2_with fail
      go_loopw [14, 15] (fun c14 c15 wq => ∃ (i : Nat) (o : Int), i ≤ l.length ∧ c15 = .int .i64 (i : Int) ∧ c14 = .int .i64 o ∧ Hid ((l.take i).all (tkI 1) = true ∧ o = 1) ∧ wq = wr) (fun _ c15 _ => l.length - (intOf c15).toNat)
      case atStart => exact ⟨0, 1, Nat.zero_le _, rfl, rfl, (show (l.take 0).all (tkI 1) = true ∧ (1 : Int) = 1 from ⟨rfl, rfl⟩), rfl⟩
      case round =>
        obtain ⟨i, o, hi, rfl, rfl, ha, hwq⟩ := hrel
        obtain rfl := hwq
        have hl3 := HZ.out.2.2.1
        by_cases hlt : i < l.length
        · have hlt2 : (i : Int) < (l.length : Int) := by omega
          obtain ⟨x, hx⟩ : ∃ x, l[i]? = some x := ⟨l[i], List.getElem?_eq_getElem hlt⟩
          have hxg := HZ.out.2.1 x (List.mem_of_getElem? hx)
          obtain ⟨g, rfl, c1⟩ := HK.out.less hx
          by_cases h1 : 1 < x
          · have hp : tkI 1 x = false := by
              unfold tkI
              have e0 : (x == 0) = false := by simpa using (by omega : ¬ x = 0)
              have e1 : (x == -1) = false := by simpa using (by omega : ¬ x = -1)
              have e2 : (x == 1) = false := by simpa using (by omega : ¬ x = 1)
              rw [e2, e0, e1]
              rfl
            have hnn := not_all hx hp
            clear hp
            have hZ : Z = (0, 131) := by
              rw [← HZ.out.1]
              unfold truF
              rw [hnn]
              rfl
            subst hZ
            have HB : Hid (Below w.heap.size w wr) := HZ.out.2.2.2
            clear hx HZ HK
            go_wp2
            go_ret2
            exact ⟨rfl, HB.out⟩
          · have hp : tkI 1 x = true := by
              unfold tkI
              rcases (by omega : x = 1 ∨ x = 0 ∨ x = -1) with e | e | e <;> rw [e] <;> rfl
            have hm2 : Hid ((l.take (i + 1)).all (tkI 1) = true ∧ o = 1) := by
              have h3 : (l.take (i + 1)).all (tkI 1) = true := by rw [all_more hx, ha.out.1, hp]; rfl
              exact ⟨h3, ha.out.2⟩
            clear hx hp ha
            go_wp2_with fail
            go_roundw
            case rel => exact ⟨i + 1, o, by omega, by go_num, rfl, hm2, by first | rfl | trivial⟩
            case measure => simp [intOf]; omega
        · obtain rfl : i = l.length := by omega
          have hlt2 : ¬ ((l.length : Int) < (l.length : Int)) := by omega
          have hZ : Z = (o, 0) := by
            rw [← HZ.out.1]
            unfold truF
            have h := ha.out
            rw [List.take_of_length_le (Nat.le_refl _)] at h
            rw [h.1, h.2]
            rfl
          subst hZ
          have HB : Hid (Below w.heap.size w wr) := HZ.out.2.2.2
          clear HZ HK ha
          go_wp2
          go_ret2
          exact ⟨rfl, HB.out⟩
end Go.Proofs.YtcniebkehekliaaGreatDoor
namespace Go.Proofs.YtcniebkehekliaaGreatDoor
open Go.RowKit Go.Shelf
attribute [local go_sem] Oper.semAt_some
set_option maxRecDepth 100000 in
set_option maxHeartbeats 8000000 in
theorem rkind_seq {w : World} {S : Nat → Prop} {d : Nat} {f : Nat → Et} (b : Bool) {F : Et → Int × Int} {R : XR} (H : Rp w S d f b F R) (hk : R.k = 6) (hs : R.s.data.toList = [61]) :
    Calls Tryz.prog 9 #[rowX R, .bool b] w fun r w' => r = .returned (.tuple #[.int .i64 (rK (fun _ => (1, 0)) (kdsF F f 0 R.n [])).1, .int .i64 (rK (fun _ => (1, 0)) (kdsF F f 0 R.n [])).2]) ∧ Below w.heap.size w w' := by
  have hn := H.few.1
  have hm := H.few.2
  have hmx : maxLen = 9223372036854775807 := rfl
  obtain ⟨V, hV⟩ : ∃ V, kdsF F f 0 R.n [] = V := ⟨_, rfl⟩
  rw [hV]
  obtain ⟨Z, hZ⟩ : ∃ Z, rK (fun _ => (1, 0)) V = Z := ⟨_, rfl⟩
  rw [hZ]
  have HV : Hid (kdsF F f 0 R.n [] = V ∧ rK (fun _ => (1, 0)) V = Z ∧ Rp w S d f b F R) := ⟨hV, hZ, H⟩
  have HKK : Hid (R.k = 6) := hk
  clear hk
  have HSS : Hid (R.s.data.toList = [61]) := hs
  clear hs
  obtain ⟨w1, hw1⟩ : ∃ w1, (w.alloc (.cells #[.int .i64 R.k, .string R.s, .int .i64 R.vk, .bool R.vb, .int .i64 R.vn, .string R.vs, .slice none 0 0, .slice none 0 0, .slice R.kp R.n R.kc, .slice R.np R.m R.nc] 44)).alloc (.cells #[] 3) = w1 := ⟨_, rfl⟩
  have H1 : Hid (Below w.heap.size w w1 ∧ w1.heap.size = w.heap.size + 2 ∧ w1.heap[w.heap.size]? = some (.cells (arrX R) 44 (0, 0)) ∧ w1.ownsRow (w.heap.size + 1) 3 1 (.slice (some ⟨w.heap.size + 1, 0, none⟩) 0 0) 0 []) := by
    have hb1 : Below w.heap.size w w1 := by rw [← hw1]; exact ((Below.refl _ w).alloc (Nat.le_refl _) _).alloc (by simp) _
    have s1 : w1.heap.size = w.heap.size + 2 := by rw [← hw1]; simp
    have r0 : w1.heap[w.heap.size]? = some (.cells (arrX R) 44 (0, 0)) := by
      rw [← hw1, Below.heap_alloc _ _ _ (by simp)]; exact heap_alloc_new _ _
    have r1 : w1.heap[w.heap.size + 1]? = some (.cells #[] 3 (0, 0)) := by
      rw [← hw1]
      have e := heap_alloc_new (w.alloc (.cells #[.int .i64 R.k, .string R.s, .int .i64 R.vk, .bool R.vb, .int .i64 R.vn, .string R.vs, .slice none 0 0, .slice none 0 0, .slice R.kp R.n R.kc, .slice R.np R.m R.nc] 44)) (.cells #[] 3)
      have e2 : (w.alloc (.cells #[.int .i64 R.k, .string R.s, .int .i64 R.vk, .bool R.vb, .int .i64 R.vn, .string R.vs, .slice none 0 0, .slice none 0 0, .slice R.kp R.n R.kc, .slice R.np R.m R.nc] 44)).heap.size = w.heap.size + 1 := by simp
      rw [e2] at e
      exact e
    exact ⟨hb1, s1, r0, rfl, .inr ⟨w.heap.size + 1, 0, #[], rfl, Nat.le_refl _, r1, Nat.le_refl _, Nat.zero_le _, rfl, rfl⟩⟩
  obtain ⟨i0, hi0, hz0, hz1, hz2⟩ := info_parts info3
  clear hV hZ H
  unfold rowX
  go_enter Tryz.func9, Tryz.ntmps9
  go_wp2_with fail
  clear hw1
  go_loopw [6, 7] (fun c6 c7 wr => ∃ (i : Nat) (l : List Int), i ≤ R.n ∧ c7 = .int .i64 (i : Int) ∧ Hid (l.length = i ∧ kdsF F f i (R.n - i) l = V ∧ wr.ownsRow (w.heap.size + 1) 3 1 c6 l.length (intsC l) ∧ Below w.heap.size w wr ∧ wr.heap[w.heap.size]? = some (.cells (arrX R) 44 (0, 0)) ∧ w.heap.size + 2 ≤ wr.heap.size)) (fun _ c7 _ => R.n - (intOf c7).toNat)
  case atStart =>
    refine ⟨0, [], Nat.zero_le _, rfl, ?_⟩
    have hh : ([] : List Int).length = 0 ∧ kdsF F f 0 (R.n - 0) [] = V ∧ w1.ownsRow (w.heap.size + 1) 3 1 (.slice (some ⟨w.heap.size + 1, 0, none⟩) 0 0) ([] : List Int).length (intsC []) ∧ Below w.heap.size w w1 ∧ w1.heap[w.heap.size]? = some (.cells (arrX R) 44 (0, 0)) ∧ w.heap.size + 2 ≤ w1.heap.size := ⟨rfl, HV.out.1, H1.out.2.2.2, H1.out.1, H1.out.2.2.1, Nat.le_of_eq H1.out.2.1.symm⟩
    exact hh
  case round =>
    clear H1
    obtain ⟨i, l, hi, rfl, hh⟩ := hrel
    obtain ⟨hl, hlo, hown, hB, hbx, hs2⟩ := hh.out
    have x8 : wr.cell? ⟨w.heap.size, 8, none⟩ = some (.slice R.kp R.n R.kc) := cell_of_row wr _ 8 _ _ _ hbx
    by_cases hlt : i < R.n
    · have hlt' : (i : Int) < (R.n : Int) := by omega
      obtain ⟨Kc, hK, hd⟩ := HV.out.2.2.kids
      have hcap := hK.cap
      obtain ⟨g, o, hkp, hSg, hg, hcl⟩ := hK.lies (by omega)
      have hLi := hd i hlt
      obtain ⟨A, hA, h10, hon⟩ := hLi.agg
      have hrg : wr.rangeAt g (o + i * 10) A.toList := fun j u hu => by
        have hj : j < 10 := by have := (List.getElem?_eq_some_iff.1 hu).1; simpa [h10] using this
        have h1 := hcl i hlt j hj
        rw [← cell_later hB hg] at h1
        rw [h1]
        unfold row10 at hA
        injection hA with hA2
        rw [← hA2] at hu
        rcases (by omega : j = 0 ∨ j = 1 ∨ j = 2 ∨ j = 3 ∨ j = 4 ∨ j = 5 ∨ j = 6 ∨ j = 7 ∨ j = 8 ∨ j = 9) with rfl | rfl | rfl | rfl | rfl | rfl | rfl | rfl | rfl | rfl <;> simpa using hu
      rw [hA] at hLi
      have k2 := HV.out.2.2.calls wr i (.agg A) hlt (hLi.since (Since.below hB))
      have HI : Hid ((Tryz.prog.info? 44).map (·.size) = some A.toList.length ∧ wr.rangeAt g (o + i * 10) A.toList) := ⟨by rw [Array.length_toList]; exact i44 h10, hrg⟩
      rw [hkp] at x8
      obtain ⟨r, hr⟩ : ∃ r, R.n - i = r + 1 := ⟨R.n - i - 1, by omega⟩
      rw [hr] at hlo
      unfold kdsF at hlo
      obtain ⟨X, hX⟩ : ∃ X, F (f i) = X := ⟨_, rfl⟩
      rw [hX] at k2 hlo
      have H2 : Hid (wr.ownsRow (w.heap.size + 1) 3 1 u6 l.length (intsC l) ∧ Below w.heap.size w wr ∧ wr.heap[w.heap.size]? = some (.cells (arrX R) 44 (0, 0)) ∧ l.length = i ∧ w.heap.size + 2 ≤ wr.heap.size ∧ R.n - i = r + 1) := ⟨hown, hB, hbx, hl, hs2, hr⟩
      clear hh hown hB hbx hl hrg h10 hon hA hLi hcl hX hkp hSg hg hK hd hr hs2
      by_cases hx2 : X.2 = 0
      · rw [if_pos hx2] at hlo
        have HLO : Hid (kdsF F f (i + 1) r (l ++ [X.1]) = V) := hlo
        rw [hx2] at k2
        clear hlo hx2
        go_wp2_with (first | (refine wpList_load_mid rfl 44 (.tmp 28) rfl g (o + i * 10) rfl A.toList _ HI.out.2 Tryz.underlying44 rfl HI.out.1 ?_; simp only [Act.put, List.setIfInBounds_toArray, List.set_cons_zero, List.set_cons_succ, Array.toArray_toList]) | fail)
        refine k2.mono ?_
        rintro q w3 ⟨rfl, hb3⟩
        have o3 := own_laterN H2.out.1 hb3
        have s3 := hb3.size
        have HB3 : Hid (Below w.heap.size w w3 ∧ w3.heap[w.heap.size]? = some (.cells (arrX R) 44 (0, 0)) ∧ w.heap.size + 2 ≤ w3.heap.size) := ⟨H2.out.2.1.trans (hb3.mono H2.out.2.1.size), (hb3.block _ (by have := H2.out.2.2.2.2.1; omega)).trans H2.out.2.2.1, by have := H2.out.2.2.2.2.1; omega⟩
        have hll := H2.out.2.2.2.1
        have hs3 := HB3.out.2.2
        clear k2 hb3 x8 HI
        go_wp2_with (at_builtin; refine wpList_append_own_at _ rfl _ _ 60 rfl (w.heap.size + 1) 3 i0 (.int .i64 0) 1 8 Tryz.underlying60 hi0 hz0 hz1 hz2 rfl (by decide) _ _ _ rfl (o3.alloc _) ⟨w3.heap.size, 0, none⟩ 1 1 [.int .i64 X.1] rfl rfl ?c1 ?c2 ?c3 ?c4 ?c5 ?_)
        case c1 => exact World.news_of_block (heap_alloc_new w3 _)
        case c2 => exact fun u hu => by rw [List.mem_singleton] at hu; rw [hu]; rfl
        case c3 => unfold maxLen; omega
        case c4 => omega
        case c5 => simp; omega
        intro v' w5 hown5 hgr5 _ hat5
        have HB5 : Hid (w5.ownsRow (w.heap.size + 1) 3 1 v' (l ++ [X.1]).length (intsC (l ++ [X.1])) ∧ Below w.heap.size w w5 ∧ w5.heap[w.heap.size]? = some (.cells (arrX R) 44 (0, 0)) ∧ w.heap.size + 2 ≤ w5.heap.size) := by
          refine ⟨?_, (HB3.out.1.alloc (by omega) _).grown hgr5 (by simp; omega) (fun k hk => by have := (o3.lt k hk).1; omega), ?_, ?_⟩
          · have e1 : (l ++ [X.1]).length = l.length + 1 := by simp
            have e2 : intsC (l ++ [X.1]) = intsC l ++ [.int .i64 X.1] := by simp [intsC]
            rw [e1, e2, hll]
            exact hown5
          · refine (hgr5.block _ (by simp; omega) (fun e => by have := (o3.lt _ e.symm).1; omega)).trans ?_
            rw [Below.heap_alloc _ _ _ (by omega)]
            exact HB3.out.2.1
          · have := hgr5.size
            simp at this
            omega
        clear o3 hown5 hgr5 hat5
        go_wp2_with fail
        go_roundw
        case rel =>
          refine ⟨i + 1, l ++ [X.1], by omega, by go_num, ?_⟩
          have er : R.n - (i + 1) = r := by have := H2.out.2.2.2.2.2; omega
          have hh : (l ++ [X.1]).length = i + 1 ∧ kdsF F f (i + 1) (R.n - (i + 1)) (l ++ [X.1]) = V ∧ w5.ownsRow (w.heap.size + 1) 3 1 v' (l ++ [X.1]).length (intsC (l ++ [X.1])) ∧ Below w.heap.size w w5 ∧ w5.heap[w.heap.size]? = some (.cells (arrX R) 44 (0, 0)) ∧ w.heap.size + 2 ≤ w5.heap.size := ⟨by simp; omega, by rw [er]; exact HLO.out, HB5.out.1, HB5.out.2.1, HB5.out.2.2.1, HB5.out.2.2.2⟩
          exact hh
        case measure => simp [intOf]; omega
      · rw [if_neg hx2] at hlo
        have hZ : Z = (0, X.2) := by
          rw [← HV.out.2.1, ← hlo]
          unfold rK
          rw [if_neg hx2]
        subst hZ
        clear hlo
        go_wp2_with (first | (refine wpList_load_mid rfl 44 (.tmp 28) rfl g (o + i * 10) rfl A.toList _ HI.out.2 Tryz.underlying44 rfl HI.out.1 ?_; simp only [Act.put, List.setIfInBounds_toArray, List.set_cons_zero, List.set_cons_succ, Array.toArray_toList]) | fail)
        refine k2.mono ?_
        rintro q w3 ⟨rfl, hb3⟩
        have HB3 : Hid (Below w.heap.size w w3) := H2.out.2.1.trans (hb3.mono H2.out.2.1.size)
        clear k2 hb3 x8
        go_wp2
        go_ret2
        exact ⟨rfl, HB3.out⟩
    · obtain rfl : i = R.n := by omega
      have hlt' : ¬ ((R.n : Int) < (R.n : Int)) := by omega
      have hV : V = (l, 0) := by
        rw [← hlo, Nat.sub_self]
        rfl
      subst hV
      have HZ : Hid ((fun _ => (1, 0)) l = Z ∧ (∀ x ∈ l, -1 ≤ x) ∧ l.length ≤ 1000 ∧ Below w.heap.size w wr) := by
        have hge : ∀ x ∈ l, -1 ≤ x := by
          have h1 := kdsF_ge HV.out.2.2.ge f R.n 0 [] (fun x hx => by simp at hx)
          rw [HV.out.1] at h1
          exact h1
        exact ⟨HV.out.2.1, hge, by rw [hl]; exact hn, hB⟩
      obtain ⟨q, k, hu6, hKn⟩ := Kn.own hown
      subst hu6
      have HK : Hid (Kn wr q k l) := hKn
      have hcapk := hKn.cap
      have hbx' := hbx
      clear hh hown hKn hlo hl hi hlt HV hs2
      have rb := hbx'
      clear hbx' hbx
      have y0 : wr.cell? ⟨w.heap.size, 0, none⟩ = some (.int .i64 6) := (cell_of_row wr _ 0 _ _ _ rb).trans (by rw [← HKK.out]; rfl)
      have y1 : wr.cell? ⟨w.heap.size, 1, none⟩ = some (.string ⟨#[61]⟩) := (cell_of_row wr _ 1 _ _ _ rb).trans (by
        have e : R.s = ⟨#[61]⟩ := by
          have h1 := congrArg List.toArray HSS.out
          simp only [Array.toArray_toList] at h1
          cases hR : R.s with
          | mk a => rw [hR] at h1; simp only at h1; rw [h1]
        rw [← e]; rfl)
      clear rb
      go_wp2_with fail
      go_loopw [14, 15] (fun c14 c15 wq => ∃ (i : Nat) (o : Int), i ≤ l.length ∧ c15 = .int .i64 (i : Int) ∧ c14 = .int .i64 o ∧ Hid (o = 1) ∧ wq = wr) (fun _ c15 _ => l.length - (intOf c15).toNat)
      case atStart => exact ⟨0, 1, Nat.zero_le _, rfl, rfl, (show (1 : Int) = 1 from rfl), rfl⟩
      case round =>
        obtain ⟨i, o, hi, rfl, rfl, ha, hwq⟩ := hrel
        obtain rfl := hwq
        have hl3 := HZ.out.2.2.1
        by_cases hlt : i < l.length
        · have hlt2 : (i : Int) < (l.length : Int) := by omega
          obtain ⟨x, hx⟩ : ∃ x, l[i]? = some x := ⟨l[i], List.getElem?_eq_getElem hlt⟩
          have hxg := HZ.out.2.1 x (List.mem_of_getElem? hx)
          obtain ⟨g, rfl, c1⟩ := HK.out.less hx
          clear hx
          go_wp2_with fail
          go_roundw
          case rel => exact ⟨i + 1, o, by omega, by go_num, rfl, ha, by first | rfl | trivial⟩
          case measure => simp [intOf]; omega
        · obtain rfl : i = l.length := by omega
          have hlt2 : ¬ ((l.length : Int) < (l.length : Int)) := by omega
          have hZ : Z = (o, 0) := by
            rw [← HZ.out.1, ha.out]
          subst hZ
          have HB : Hid (Below w.heap.size w wr) := HZ.out.2.2.2
          clear HZ HK ha
          go_wp2
          go_ret2
          exact ⟨rfl, HB.out⟩
end Go.Proofs.YtcniebkehekliaaGreatDoor
namespace Go.Proofs.YtcniebkehekliaaGreatDoor
open Go.RowKit Go.Shelf
attribute [local go_sem] Oper.semAt_some
set_option maxRecDepth 100000 in
set_option maxHeartbeats 8000000 in
theorem rkind_sne {w : World} {S : Nat → Prop} {d : Nat} {f : Nat → Et} (b : Bool) {F : Et → Int × Int} {R : XR} (H : Rp w S d f b F R) (hk : R.k = 6) (hs : R.s.data.toList = [60, 62]) :
    Calls Tryz.prog 9 #[rowX R, .bool b] w fun r w' => r = .returned (.tuple #[.int .i64 (rK (fun _ => (1, 0)) (kdsF F f 0 R.n [])).1, .int .i64 (rK (fun _ => (1, 0)) (kdsF F f 0 R.n [])).2]) ∧ Below w.heap.size w w' := by
  have hn := H.few.1
  have hm := H.few.2
  have hmx : maxLen = 9223372036854775807 := rfl
  obtain ⟨V, hV⟩ : ∃ V, kdsF F f 0 R.n [] = V := ⟨_, rfl⟩
  rw [hV]
  obtain ⟨Z, hZ⟩ : ∃ Z, rK (fun _ => (1, 0)) V = Z := ⟨_, rfl⟩
  rw [hZ]
  have HV : Hid (kdsF F f 0 R.n [] = V ∧ rK (fun _ => (1, 0)) V = Z ∧ Rp w S d f b F R) := ⟨hV, hZ, H⟩
  have HKK : Hid (R.k = 6) := hk
  clear hk
  have HSS : Hid (R.s.data.toList = [60, 62]) := hs
  clear hs
  obtain ⟨w1, hw1⟩ : ∃ w1, (w.alloc (.cells #[.int .i64 R.k, .string R.s, .int .i64 R.vk, .bool R.vb, .int .i64 R.vn, .string R.vs, .slice none 0 0, .slice none 0 0, .slice R.kp R.n R.kc, .slice R.np R.m R.nc] 44)).alloc (.cells #[] 3) = w1 := ⟨_, rfl⟩
  have H1 : Hid (Below w.heap.size w w1 ∧ w1.heap.size = w.heap.size + 2 ∧ w1.heap[w.heap.size]? = some (.cells (arrX R) 44 (0, 0)) ∧ w1.ownsRow (w.heap.size + 1) 3 1 (.slice (some ⟨w.heap.size + 1, 0, none⟩) 0 0) 0 []) := by
    have hb1 : Below w.heap.size w w1 := by rw [← hw1]; exact ((Below.refl _ w).alloc (Nat.le_refl _) _).alloc (by simp) _
    have s1 : w1.heap.size = w.heap.size + 2 := by rw [← hw1]; simp
    have r0 : w1.heap[w.heap.size]? = some (.cells (arrX R) 44 (0, 0)) := by
      rw [← hw1, Below.heap_alloc _ _ _ (by simp)]; exact heap_alloc_new _ _
    have r1 : w1.heap[w.heap.size + 1]? = some (.cells #[] 3 (0, 0)) := by
      rw [← hw1]
      have e := heap_alloc_new (w.alloc (.cells #[.int .i64 R.k, .string R.s, .int .i64 R.vk, .bool R.vb, .int .i64 R.vn, .string R.vs, .slice none 0 0, .slice none 0 0, .slice R.kp R.n R.kc, .slice R.np R.m R.nc] 44)) (.cells #[] 3)
      have e2 : (w.alloc (.cells #[.int .i64 R.k, .string R.s, .int .i64 R.vk, .bool R.vb, .int .i64 R.vn, .string R.vs, .slice none 0 0, .slice none 0 0, .slice R.kp R.n R.kc, .slice R.np R.m R.nc] 44)).heap.size = w.heap.size + 1 := by simp
      rw [e2] at e
      exact e
    exact ⟨hb1, s1, r0, rfl, .inr ⟨w.heap.size + 1, 0, #[], rfl, Nat.le_refl _, r1, Nat.le_refl _, Nat.zero_le _, rfl, rfl⟩⟩
  obtain ⟨i0, hi0, hz0, hz1, hz2⟩ := info_parts info3
  clear hV hZ H
  unfold rowX
  go_enter Tryz.func9, Tryz.ntmps9
  go_wp2_with fail
  clear hw1
  go_loopw [6, 7] (fun c6 c7 wr => ∃ (i : Nat) (l : List Int), i ≤ R.n ∧ c7 = .int .i64 (i : Int) ∧ Hid (l.length = i ∧ kdsF F f i (R.n - i) l = V ∧ wr.ownsRow (w.heap.size + 1) 3 1 c6 l.length (intsC l) ∧ Below w.heap.size w wr ∧ wr.heap[w.heap.size]? = some (.cells (arrX R) 44 (0, 0)) ∧ w.heap.size + 2 ≤ wr.heap.size)) (fun _ c7 _ => R.n - (intOf c7).toNat)
  case atStart =>
    refine ⟨0, [], Nat.zero_le _, rfl, ?_⟩
    have hh : ([] : List Int).length = 0 ∧ kdsF F f 0 (R.n - 0) [] = V ∧ w1.ownsRow (w.heap.size + 1) 3 1 (.slice (some ⟨w.heap.size + 1, 0, none⟩) 0 0) ([] : List Int).length (intsC []) ∧ Below w.heap.size w w1 ∧ w1.heap[w.heap.size]? = some (.cells (arrX R) 44 (0, 0)) ∧ w.heap.size + 2 ≤ w1.heap.size := ⟨rfl, HV.out.1, H1.out.2.2.2, H1.out.1, H1.out.2.2.1, Nat.le_of_eq H1.out.2.1.symm⟩
    exact hh
  case round =>
    clear H1
    obtain ⟨i, l, hi, rfl, hh⟩ := hrel
    obtain ⟨hl, hlo, hown, hB, hbx, hs2⟩ := hh.out
    have x8 : wr.cell? ⟨w.heap.size, 8, none⟩ = some (.slice R.kp R.n R.kc) := cell_of_row wr _ 8 _ _ _ hbx
    by_cases hlt : i < R.n
    · have hlt' : (i : Int) < (R.n : Int) := by omega
      obtain ⟨Kc, hK, hd⟩ := HV.out.2.2.kids
      have hcap := hK.cap
      obtain ⟨g, o, hkp, hSg, hg, hcl⟩ := hK.lies (by omega)
      have hLi := hd i hlt
      obtain ⟨A, hA, h10, hon⟩ := hLi.agg
      have hrg : wr.rangeAt g (o + i * 10) A.toList := fun j u hu => by
        have hj : j < 10 := by have := (List.getElem?_eq_some_iff.1 hu).1; simpa [h10] using this
        have h1 := hcl i hlt j hj
        rw [← cell_later hB hg] at h1
        rw [h1]
        unfold row10 at hA
        injection hA with hA2
        rw [← hA2] at hu
        rcases (by omega : j = 0 ∨ j = 1 ∨ j = 2 ∨ j = 3 ∨ j = 4 ∨ j = 5 ∨ j = 6 ∨ j = 7 ∨ j = 8 ∨ j = 9) with rfl | rfl | rfl | rfl | rfl | rfl | rfl | rfl | rfl | rfl <;> simpa using hu
      rw [hA] at hLi
      have k2 := HV.out.2.2.calls wr i (.agg A) hlt (hLi.since (Since.below hB))
      have HI : Hid ((Tryz.prog.info? 44).map (·.size) = some A.toList.length ∧ wr.rangeAt g (o + i * 10) A.toList) := ⟨by rw [Array.length_toList]; exact i44 h10, hrg⟩
      rw [hkp] at x8
      obtain ⟨r, hr⟩ : ∃ r, R.n - i = r + 1 := ⟨R.n - i - 1, by omega⟩
      rw [hr] at hlo
      unfold kdsF at hlo
      obtain ⟨X, hX⟩ : ∃ X, F (f i) = X := ⟨_, rfl⟩
      rw [hX] at k2 hlo
      have H2 : Hid (wr.ownsRow (w.heap.size + 1) 3 1 u6 l.length (intsC l) ∧ Below w.heap.size w wr ∧ wr.heap[w.heap.size]? = some (.cells (arrX R) 44 (0, 0)) ∧ l.length = i ∧ w.heap.size + 2 ≤ wr.heap.size ∧ R.n - i = r + 1) := ⟨hown, hB, hbx, hl, hs2, hr⟩
      clear hh hown hB hbx hl hrg h10 hon hA hLi hcl hX hkp hSg hg hK hd hr hs2
      by_cases hx2 : X.2 = 0
      · rw [if_pos hx2] at hlo
        have HLO : Hid (kdsF F f (i + 1) r (l ++ [X.1]) = V) := hlo
        rw [hx2] at k2
        clear hlo hx2
        go_wp2_with (first | (refine wpList_load_mid rfl 44 (.tmp 28) rfl g (o + i * 10) rfl A.toList _ HI.out.2 Tryz.underlying44 rfl HI.out.1 ?_; simp only [Act.put, List.setIfInBounds_toArray, List.set_cons_zero, List.set_cons_succ, Array.toArray_toList]) | fail)
        refine k2.mono ?_
        rintro q w3 ⟨rfl, hb3⟩
        have o3 := own_laterN H2.out.1 hb3
        have s3 := hb3.size
        have HB3 : Hid (Below w.heap.size w w3 ∧ w3.heap[w.heap.size]? = some (.cells (arrX R) 44 (0, 0)) ∧ w.heap.size + 2 ≤ w3.heap.size) := ⟨H2.out.2.1.trans (hb3.mono H2.out.2.1.size), (hb3.block _ (by have := H2.out.2.2.2.2.1; omega)).trans H2.out.2.2.1, by have := H2.out.2.2.2.2.1; omega⟩
        have hll := H2.out.2.2.2.1
        have hs3 := HB3.out.2.2
        clear k2 hb3 x8 HI
        go_wp2_with (at_builtin; refine wpList_append_own_at _ rfl _ _ 60 rfl (w.heap.size + 1) 3 i0 (.int .i64 0) 1 8 Tryz.underlying60 hi0 hz0 hz1 hz2 rfl (by decide) _ _ _ rfl (o3.alloc _) ⟨w3.heap.size, 0, none⟩ 1 1 [.int .i64 X.1] rfl rfl ?c1 ?c2 ?c3 ?c4 ?c5 ?_)
        case c1 => exact World.news_of_block (heap_alloc_new w3 _)
        case c2 => exact fun u hu => by rw [List.mem_singleton] at hu; rw [hu]; rfl
        case c3 => unfold maxLen; omega
        case c4 => omega
        case c5 => simp; omega
        intro v' w5 hown5 hgr5 _ hat5
        have HB5 : Hid (w5.ownsRow (w.heap.size + 1) 3 1 v' (l ++ [X.1]).length (intsC (l ++ [X.1])) ∧ Below w.heap.size w w5 ∧ w5.heap[w.heap.size]? = some (.cells (arrX R) 44 (0, 0)) ∧ w.heap.size + 2 ≤ w5.heap.size) := by
          refine ⟨?_, (HB3.out.1.alloc (by omega) _).grown hgr5 (by simp; omega) (fun k hk => by have := (o3.lt k hk).1; omega), ?_, ?_⟩
          · have e1 : (l ++ [X.1]).length = l.length + 1 := by simp
            have e2 : intsC (l ++ [X.1]) = intsC l ++ [.int .i64 X.1] := by simp [intsC]
            rw [e1, e2, hll]
            exact hown5
          · refine (hgr5.block _ (by simp; omega) (fun e => by have := (o3.lt _ e.symm).1; omega)).trans ?_
            rw [Below.heap_alloc _ _ _ (by omega)]
            exact HB3.out.2.1
          · have := hgr5.size
            simp at this
            omega
        clear o3 hown5 hgr5 hat5
        go_wp2_with fail
        go_roundw
        case rel =>
          refine ⟨i + 1, l ++ [X.1], by omega, by go_num, ?_⟩
          have er : R.n - (i + 1) = r := by have := H2.out.2.2.2.2.2; omega
          have hh : (l ++ [X.1]).length = i + 1 ∧ kdsF F f (i + 1) (R.n - (i + 1)) (l ++ [X.1]) = V ∧ w5.ownsRow (w.heap.size + 1) 3 1 v' (l ++ [X.1]).length (intsC (l ++ [X.1])) ∧ Below w.heap.size w w5 ∧ w5.heap[w.heap.size]? = some (.cells (arrX R) 44 (0, 0)) ∧ w.heap.size + 2 ≤ w5.heap.size := ⟨by simp; omega, by rw [er]; exact HLO.out, HB5.out.1, HB5.out.2.1, HB5.out.2.2.1, HB5.out.2.2.2⟩
          exact hh
        case measure => simp [intOf]; omega
      · rw [if_neg hx2] at hlo
        have hZ : Z = (0, X.2) := by
          rw [← HV.out.2.1, ← hlo]
          unfold rK
          rw [if_neg hx2]
        subst hZ
        clear hlo
        go_wp2_with (first | (refine wpList_load_mid rfl 44 (.tmp 28) rfl g (o + i * 10) rfl A.toList _ HI.out.2 Tryz.underlying44 rfl HI.out.1 ?_; simp only [Act.put, List.setIfInBounds_toArray, List.set_cons_zero, List.set_cons_succ, Array.toArray_toList]) | fail)
        refine k2.mono ?_
        rintro q w3 ⟨rfl, hb3⟩
        have HB3 : Hid (Below w.heap.size w w3) := H2.out.2.1.trans (hb3.mono H2.out.2.1.size)
        clear k2 hb3 x8
        go_wp2
        go_ret2
        exact ⟨rfl, HB3.out⟩
    · obtain rfl : i = R.n := by omega
      have hlt' : ¬ ((R.n : Int) < (R.n : Int)) := by omega
      have hV : V = (l, 0) := by
        rw [← hlo, Nat.sub_self]
        rfl
      subst hV
      have HZ : Hid ((fun _ => (1, 0)) l = Z ∧ (∀ x ∈ l, -1 ≤ x) ∧ l.length ≤ 1000 ∧ Below w.heap.size w wr) := by
        have hge : ∀ x ∈ l, -1 ≤ x := by
          have h1 := kdsF_ge HV.out.2.2.ge f R.n 0 [] (fun x hx => by simp at hx)
          rw [HV.out.1] at h1
          exact h1
        exact ⟨HV.out.2.1, hge, by rw [hl]; exact hn, hB⟩
      obtain ⟨q, k, hu6, hKn⟩ := Kn.own hown
      subst hu6
      have HK : Hid (Kn wr q k l) := hKn
      have hcapk := hKn.cap
      have hbx' := hbx
      clear hh hown hKn hlo hl hi hlt HV hs2
      have rb := hbx'
      clear hbx' hbx
      have y0 : wr.cell? ⟨w.heap.size, 0, none⟩ = some (.int .i64 6) := (cell_of_row wr _ 0 _ _ _ rb).trans (by rw [← HKK.out]; rfl)
      have y1 : wr.cell? ⟨w.heap.size, 1, none⟩ = some (.string ⟨#[60, 62]⟩) := (cell_of_row wr _ 1 _ _ _ rb).trans (by
        have e : R.s = ⟨#[60, 62]⟩ := by
          have h1 := congrArg List.toArray HSS.out
          simp only [Array.toArray_toList] at h1
          cases hR : R.s with
          | mk a => rw [hR] at h1; simp only at h1; rw [h1]
        rw [← e]; rfl)
      clear rb
      go_wp2_with fail
      go_loopw [14, 15] (fun c14 c15 wq => ∃ (i : Nat) (o : Int), i ≤ l.length ∧ c15 = .int .i64 (i : Int) ∧ c14 = .int .i64 o ∧ Hid (o = 1) ∧ wq = wr) (fun _ c15 _ => l.length - (intOf c15).toNat)
      case atStart => exact ⟨0, 1, Nat.zero_le _, rfl, rfl, (show (1 : Int) = 1 from rfl), rfl⟩
      case round =>
        obtain ⟨i, o, hi, rfl, rfl, ha, hwq⟩ := hrel
        obtain rfl := hwq
        have hl3 := HZ.out.2.2.1
        by_cases hlt : i < l.length
        · have hlt2 : (i : Int) < (l.length : Int) := by omega
          obtain ⟨x, hx⟩ : ∃ x, l[i]? = some x := ⟨l[i], List.getElem?_eq_getElem hlt⟩
          have hxg := HZ.out.2.1 x (List.mem_of_getElem? hx)
          obtain ⟨g, rfl, c1⟩ := HK.out.less hx
          clear hx
          go_wp2_with fail
          go_roundw
          case rel => exact ⟨i + 1, o, by omega, by go_num, rfl, ha, by first | rfl | trivial⟩
          case measure => simp [intOf]; omega
        · obtain rfl : i = l.length := by omega
          have hlt2 : ¬ ((l.length : Int) < (l.length : Int)) := by omega
          have hZ : Z = (o, 0) := by
            rw [← HZ.out.1, ha.out]
          subst hZ
          have HB : Hid (Below w.heap.size w wr) := HZ.out.2.2.2
          clear HZ HK ha
          go_wp2
          go_ret2
          exact ⟨rfl, HB.out⟩
end Go.Proofs.YtcniebkehekliaaGreatDoor
namespace Go.Proofs.YtcniebkehekliaaGreatDoor
open Go.RowKit Go.Shelf
attribute [local go_sem] Oper.semAt_some
set_option maxRecDepth 100000 in
set_option maxHeartbeats 8000000 in
theorem rkind_slt {w : World} {S : Nat → Prop} {d : Nat} {f : Nat → Et} (b : Bool) {F : Et → Int × Int} {R : XR} (H : Rp w S d f b F R) (hk : R.k = 6) (hs : R.s.data.toList = [60]) :
    Calls Tryz.prog 9 #[rowX R, .bool b] w fun r w' => r = .returned (.tuple #[.int .i64 (rK (fun _ => (1, 0)) (kdsF F f 0 R.n [])).1, .int .i64 (rK (fun _ => (1, 0)) (kdsF F f 0 R.n [])).2]) ∧ Below w.heap.size w w' := by
  have hn := H.few.1
  have hm := H.few.2
  have hmx : maxLen = 9223372036854775807 := rfl
  obtain ⟨V, hV⟩ : ∃ V, kdsF F f 0 R.n [] = V := ⟨_, rfl⟩
  rw [hV]
  obtain ⟨Z, hZ⟩ : ∃ Z, rK (fun _ => (1, 0)) V = Z := ⟨_, rfl⟩
  rw [hZ]
  have HV : Hid (kdsF F f 0 R.n [] = V ∧ rK (fun _ => (1, 0)) V = Z ∧ Rp w S d f b F R) := ⟨hV, hZ, H⟩
  have HKK : Hid (R.k = 6) := hk
  clear hk
  have HSS : Hid (R.s.data.toList = [60]) := hs
  clear hs
  obtain ⟨w1, hw1⟩ : ∃ w1, (w.alloc (.cells #[.int .i64 R.k, .string R.s, .int .i64 R.vk, .bool R.vb, .int .i64 R.vn, .string R.vs, .slice none 0 0, .slice none 0 0, .slice R.kp R.n R.kc, .slice R.np R.m R.nc] 44)).alloc (.cells #[] 3) = w1 := ⟨_, rfl⟩
  have H1 : Hid (Below w.heap.size w w1 ∧ w1.heap.size = w.heap.size + 2 ∧ w1.heap[w.heap.size]? = some (.cells (arrX R) 44 (0, 0)) ∧ w1.ownsRow (w.heap.size + 1) 3 1 (.slice (some ⟨w.heap.size + 1, 0, none⟩) 0 0) 0 []) := by
    have hb1 : Below w.heap.size w w1 := by rw [← hw1]; exact ((Below.refl _ w).alloc (Nat.le_refl _) _).alloc (by simp) _
    have s1 : w1.heap.size = w.heap.size + 2 := by rw [← hw1]; simp
    have r0 : w1.heap[w.heap.size]? = some (.cells (arrX R) 44 (0, 0)) := by
      rw [← hw1, Below.heap_alloc _ _ _ (by simp)]; exact heap_alloc_new _ _
    have r1 : w1.heap[w.heap.size + 1]? = some (.cells #[] 3 (0, 0)) := by
      rw [← hw1]
      have e := heap_alloc_new (w.alloc (.cells #[.int .i64 R.k, .string R.s, .int .i64 R.vk, .bool R.vb, .int .i64 R.vn, .string R.vs, .slice none 0 0, .slice none 0 0, .slice R.kp R.n R.kc, .slice R.np R.m R.nc] 44)) (.cells #[] 3)
      have e2 : (w.alloc (.cells #[.int .i64 R.k, .string R.s, .int .i64 R.vk, .bool R.vb, .int .i64 R.vn, .string R.vs, .slice none 0 0, .slice none 0 0, .slice R.kp R.n R.kc, .slice R.np R.m R.nc] 44)).heap.size = w.heap.size + 1 := by simp
      rw [e2] at e
      exact e
    exact ⟨hb1, s1, r0, rfl, .inr ⟨w.heap.size + 1, 0, #[], rfl, Nat.le_refl _, r1, Nat.le_refl _, Nat.zero_le _, rfl, rfl⟩⟩
  obtain ⟨i0, hi0, hz0, hz1, hz2⟩ := info_parts info3
  clear hV hZ H
  unfold rowX
  go_enter Tryz.func9, Tryz.ntmps9
  go_wp2_with fail
  clear hw1
  go_loopw [6, 7] (fun c6 c7 wr => ∃ (i : Nat) (l : List Int), i ≤ R.n ∧ c7 = .int .i64 (i : Int) ∧ Hid (l.length = i ∧ kdsF F f i (R.n - i) l = V ∧ wr.ownsRow (w.heap.size + 1) 3 1 c6 l.length (intsC l) ∧ Below w.heap.size w wr ∧ wr.heap[w.heap.size]? = some (.cells (arrX R) 44 (0, 0)) ∧ w.heap.size + 2 ≤ wr.heap.size)) (fun _ c7 _ => R.n - (intOf c7).toNat)
  case atStart =>
    refine ⟨0, [], Nat.zero_le _, rfl, ?_⟩
    have hh : ([] : List Int).length = 0 ∧ kdsF F f 0 (R.n - 0) [] = V ∧ w1.ownsRow (w.heap.size + 1) 3 1 (.slice (some ⟨w.heap.size + 1, 0, none⟩) 0 0) ([] : List Int).length (intsC []) ∧ Below w.heap.size w w1 ∧ w1.heap[w.heap.size]? = some (.cells (arrX R) 44 (0, 0)) ∧ w.heap.size + 2 ≤ w1.heap.size := ⟨rfl, HV.out.1, H1.out.2.2.2, H1.out.1, H1.out.2.2.1, Nat.le_of_eq H1.out.2.1.symm⟩
    exact hh
  case round =>
    clear H1
    obtain ⟨i, l, hi, rfl, hh⟩ := hrel
    obtain ⟨hl, hlo, hown, hB, hbx, hs2⟩ := hh.out
    have x8 : wr.cell? ⟨w.heap.size, 8, none⟩ = some (.slice R.kp R.n R.kc) := cell_of_row wr _ 8 _ _ _ hbx
    by_cases hlt : i < R.n
    · have hlt' : (i : Int) < (R.n : Int) := by omega
      obtain ⟨Kc, hK, hd⟩ := HV.out.2.2.kids
      have hcap := hK.cap
      obtain ⟨g, o, hkp, hSg, hg, hcl⟩ := hK.lies (by omega)
      have hLi := hd i hlt
      obtain ⟨A, hA, h10, hon⟩ := hLi.agg
      have hrg : wr.rangeAt g (o + i * 10) A.toList := fun j u hu => by
        have hj : j < 10 := by have := (List.getElem?_eq_some_iff.1 hu).1; simpa [h10] using this
        have h1 := hcl i hlt j hj
        rw [← cell_later hB hg] at h1
        rw [h1]
        unfold row10 at hA
        injection hA with hA2
        rw [← hA2] at hu
        rcases (by omega : j = 0 ∨ j = 1 ∨ j = 2 ∨ j = 3 ∨ j = 4 ∨ j = 5 ∨ j = 6 ∨ j = 7 ∨ j = 8 ∨ j = 9) with rfl | rfl | rfl | rfl | rfl | rfl | rfl | rfl | rfl | rfl <;> simpa using hu
      rw [hA] at hLi
      have k2 := HV.out.2.2.calls wr i (.agg A) hlt (hLi.since (Since.below hB))
      have HI : Hid ((Tryz.prog.info? 44).map (·.size) = some A.toList.length ∧ wr.rangeAt g (o + i * 10) A.toList) := ⟨by rw [Array.length_toList]; exact i44 h10, hrg⟩
      rw [hkp] at x8
      obtain ⟨r, hr⟩ : ∃ r, R.n - i = r + 1 := ⟨R.n - i - 1, by omega⟩
      rw [hr] at hlo
      unfold kdsF at hlo
      obtain ⟨X, hX⟩ : ∃ X, F (f i) = X := ⟨_, rfl⟩
      rw [hX] at k2 hlo
      have H2 : Hid (wr.ownsRow (w.heap.size + 1) 3 1 u6 l.length (intsC l) ∧ Below w.heap.size w wr ∧ wr.heap[w.heap.size]? = some (.cells (arrX R) 44 (0, 0)) ∧ l.length = i ∧ w.heap.size + 2 ≤ wr.heap.size ∧ R.n - i = r + 1) := ⟨hown, hB, hbx, hl, hs2, hr⟩
      clear hh hown hB hbx hl hrg h10 hon hA hLi hcl hX hkp hSg hg hK hd hr hs2
      by_cases hx2 : X.2 = 0
      · rw [if_pos hx2] at hlo
        have HLO : Hid (kdsF F f (i + 1) r (l ++ [X.1]) = V) := hlo
        rw [hx2] at k2
        clear hlo hx2
        go_wp2_with (first | (refine wpList_load_mid rfl 44 (.tmp 28) rfl g (o + i * 10) rfl A.toList _ HI.out.2 Tryz.underlying44 rfl HI.out.1 ?_; simp only [Act.put, List.setIfInBounds_toArray, List.set_cons_zero, List.set_cons_succ, Array.toArray_toList]) | fail)
        refine k2.mono ?_
        rintro q w3 ⟨rfl, hb3⟩
        have o3 := own_laterN H2.out.1 hb3
        have s3 := hb3.size
        have HB3 : Hid (Below w.heap.size w w3 ∧ w3.heap[w.heap.size]? = some (.cells (arrX R) 44 (0, 0)) ∧ w.heap.size + 2 ≤ w3.heap.size) := ⟨H2.out.2.1.trans (hb3.mono H2.out.2.1.size), (hb3.block _ (by have := H2.out.2.2.2.2.1; omega)).trans H2.out.2.2.1, by have := H2.out.2.2.2.2.1; omega⟩
        have hll := H2.out.2.2.2.1
        have hs3 := HB3.out.2.2
        clear k2 hb3 x8 HI
        go_wp2_with (at_builtin; refine wpList_append_own_at _ rfl _ _ 60 rfl (w.heap.size + 1) 3 i0 (.int .i64 0) 1 8 Tryz.underlying60 hi0 hz0 hz1 hz2 rfl (by decide) _ _ _ rfl (o3.alloc _) ⟨w3.heap.size, 0, none⟩ 1 1 [.int .i64 X.1] rfl rfl ?c1 ?c2 ?c3 ?c4 ?c5 ?_)
        case c1 => exact World.news_of_block (heap_alloc_new w3 _)
        case c2 => exact fun u hu => by rw [List.mem_singleton] at hu; rw [hu]; rfl
        case c3 => unfold maxLen; omega
        case c4 => omega
        case c5 => simp; omega
        intro v' w5 hown5 hgr5 _ hat5
        have HB5 : Hid (w5.ownsRow (w.heap.size + 1) 3 1 v' (l ++ [X.1]).length (intsC (l ++ [X.1])) ∧ Below w.heap.size w w5 ∧ w5.heap[w.heap.size]? = some (.cells (arrX R) 44 (0, 0)) ∧ w.heap.size + 2 ≤ w5.heap.size) := by
          refine ⟨?_, (HB3.out.1.alloc (by omega) _).grown hgr5 (by simp; omega) (fun k hk => by have := (o3.lt k hk).1; omega), ?_, ?_⟩
          · have e1 : (l ++ [X.1]).length = l.length + 1 := by simp
            have e2 : intsC (l ++ [X.1]) = intsC l ++ [.int .i64 X.1] := by simp [intsC]
            rw [e1, e2, hll]
            exact hown5
          · refine (hgr5.block _ (by simp; omega) (fun e => by have := (o3.lt _ e.symm).1; omega)).trans ?_
            rw [Below.heap_alloc _ _ _ (by omega)]
            exact HB3.out.2.1
          · have := hgr5.size
            simp at this
            omega
        clear o3 hown5 hgr5 hat5
        go_wp2_with fail
        go_roundw
        case rel =>
          refine ⟨i + 1, l ++ [X.1], by omega, by go_num, ?_⟩
          have er : R.n - (i + 1) = r := by have := H2.out.2.2.2.2.2; omega
          have hh : (l ++ [X.1]).length = i + 1 ∧ kdsF F f (i + 1) (R.n - (i + 1)) (l ++ [X.1]) = V ∧ w5.ownsRow (w.heap.size + 1) 3 1 v' (l ++ [X.1]).length (intsC (l ++ [X.1])) ∧ Below w.heap.size w w5 ∧ w5.heap[w.heap.size]? = some (.cells (arrX R) 44 (0, 0)) ∧ w.heap.size + 2 ≤ w5.heap.size := ⟨by simp; omega, by rw [er]; exact HLO.out, HB5.out.1, HB5.out.2.1, HB5.out.2.2.1, HB5.out.2.2.2⟩
          exact hh
        case measure => simp [intOf]; omega
      · rw [if_neg hx2] at hlo
        have hZ : Z = (0, X.2) := by
          rw [← HV.out.2.1, ← hlo]
          unfold rK
          rw [if_neg hx2]
        subst hZ
        clear hlo
        go_wp2_with (first | (refine wpList_load_mid rfl 44 (.tmp 28) rfl g (o + i * 10) rfl A.toList _ HI.out.2 Tryz.underlying44 rfl HI.out.1 ?_; simp only [Act.put, List.setIfInBounds_toArray, List.set_cons_zero, List.set_cons_succ, Array.toArray_toList]) | fail)
        refine k2.mono ?_
        rintro q w3 ⟨rfl, hb3⟩
        have HB3 : Hid (Below w.heap.size w w3) := H2.out.2.1.trans (hb3.mono H2.out.2.1.size)
        clear k2 hb3 x8
        go_wp2
        go_ret2
        exact ⟨rfl, HB3.out⟩
    · obtain rfl : i = R.n := by omega
      have hlt' : ¬ ((R.n : Int) < (R.n : Int)) := by omega
      have hV : V = (l, 0) := by
        rw [← hlo, Nat.sub_self]
        rfl
      subst hV
      have HZ : Hid ((fun _ => (1, 0)) l = Z ∧ (∀ x ∈ l, -1 ≤ x) ∧ l.length ≤ 1000 ∧ Below w.heap.size w wr) := by
        have hge : ∀ x ∈ l, -1 ≤ x := by
          have h1 := kdsF_ge HV.out.2.2.ge f R.n 0 [] (fun x hx => by simp at hx)
          rw [HV.out.1] at h1
          exact h1
        exact ⟨HV.out.2.1, hge, by rw [hl]; exact hn, hB⟩
      obtain ⟨q, k, hu6, hKn⟩ := Kn.own hown
      subst hu6
      have HK : Hid (Kn wr q k l) := hKn
      have hcapk := hKn.cap
      have hbx' := hbx
      clear hh hown hKn hlo hl hi hlt HV hs2
      have rb := hbx'
      clear hbx' hbx
      have y0 : wr.cell? ⟨w.heap.size, 0, none⟩ = some (.int .i64 6) := (cell_of_row wr _ 0 _ _ _ rb).trans (by rw [← HKK.out]; rfl)
      have y1 : wr.cell? ⟨w.heap.size, 1, none⟩ = some (.string ⟨#[60]⟩) := (cell_of_row wr _ 1 _ _ _ rb).trans (by
        have e : R.s = ⟨#[60]⟩ := by
          have h1 := congrArg List.toArray HSS.out
          simp only [Array.toArray_toList] at h1
          cases hR : R.s with
          | mk a => rw [hR] at h1; simp only at h1; rw [h1]
        rw [← e]; rfl)
      clear rb
      go_wp2_with fail
      go_loopw [14, 15] (fun c14 c15 wq => ∃ (i : Nat) (o : Int), i ≤ l.length ∧ c15 = .int .i64 (i : Int) ∧ c14 = .int .i64 o ∧ Hid (o = 1) ∧ wq = wr) (fun _ c15 _ => l.length - (intOf c15).toNat)
      case atStart => exact ⟨0, 1, Nat.zero_le _, rfl, rfl, (show (1 : Int) = 1 from rfl), rfl⟩
      case round =>
        obtain ⟨i, o, hi, rfl, rfl, ha, hwq⟩ := hrel
        obtain rfl := hwq
        have hl3 := HZ.out.2.2.1
        by_cases hlt : i < l.length
        · have hlt2 : (i : Int) < (l.length : Int) := by omega
          obtain ⟨x, hx⟩ : ∃ x, l[i]? = some x := ⟨l[i], List.getElem?_eq_getElem hlt⟩
          have hxg := HZ.out.2.1 x (List.mem_of_getElem? hx)
          obtain ⟨g, rfl, c1⟩ := HK.out.less hx
          clear hx
          go_wp2_with fail
          go_roundw
          case rel => exact ⟨i + 1, o, by omega, by go_num, rfl, ha, by first | rfl | trivial⟩
          case measure => simp [intOf]; omega
        · obtain rfl : i = l.length := by omega
          have hlt2 : ¬ ((l.length : Int) < (l.length : Int)) := by omega
          have hZ : Z = (o, 0) := by
            rw [← HZ.out.1, ha.out]
          subst hZ
          have HB : Hid (Below w.heap.size w wr) := HZ.out.2.2.2
          clear HZ HK ha
          go_wp2
          go_ret2
          exact ⟨rfl, HB.out⟩
end Go.Proofs.YtcniebkehekliaaGreatDoor
namespace Go.Proofs.YtcniebkehekliaaGreatDoor
open Go.RowKit Go.Shelf
attribute [local go_sem] Oper.semAt_some
set_option maxRecDepth 100000 in
set_option maxHeartbeats 8000000 in
theorem rkind_sle {w : World} {S : Nat → Prop} {d : Nat} {f : Nat → Et} (b : Bool) {F : Et → Int × Int} {R : XR} (H : Rp w S d f b F R) (hk : R.k = 6) (hs : R.s.data.toList = [60, 61]) :
    Calls Tryz.prog 9 #[rowX R, .bool b] w fun r w' => r = .returned (.tuple #[.int .i64 (rK (fun _ => (1, 0)) (kdsF F f 0 R.n [])).1, .int .i64 (rK (fun _ => (1, 0)) (kdsF F f 0 R.n [])).2]) ∧ Below w.heap.size w w' := by
  have hn := H.few.1
  have hm := H.few.2
  have hmx : maxLen = 9223372036854775807 := rfl
  obtain ⟨V, hV⟩ : ∃ V, kdsF F f 0 R.n [] = V := ⟨_, rfl⟩
  rw [hV]
  obtain ⟨Z, hZ⟩ : ∃ Z, rK (fun _ => (1, 0)) V = Z := ⟨_, rfl⟩
  rw [hZ]
  have HV : Hid (kdsF F f 0 R.n [] = V ∧ rK (fun _ => (1, 0)) V = Z ∧ Rp w S d f b F R) := ⟨hV, hZ, H⟩
  have HKK : Hid (R.k = 6) := hk
  clear hk
  have HSS : Hid (R.s.data.toList = [60, 61]) := hs
  clear hs
  obtain ⟨w1, hw1⟩ : ∃ w1, (w.alloc (.cells #[.int .i64 R.k, .string R.s, .int .i64 R.vk, .bool R.vb, .int .i64 R.vn, .string R.vs, .slice none 0 0, .slice none 0 0, .slice R.kp R.n R.kc, .slice R.np R.m R.nc] 44)).alloc (.cells #[] 3) = w1 := ⟨_, rfl⟩
  have H1 : Hid (Below w.heap.size w w1 ∧ w1.heap.size = w.heap.size + 2 ∧ w1.heap[w.heap.size]? = some (.cells (arrX R) 44 (0, 0)) ∧ w1.ownsRow (w.heap.size + 1) 3 1 (.slice (some ⟨w.heap.size + 1, 0, none⟩) 0 0) 0 []) := by
    have hb1 : Below w.heap.size w w1 := by rw [← hw1]; exact ((Below.refl _ w).alloc (Nat.le_refl _) _).alloc (by simp) _
    have s1 : w1.heap.size = w.heap.size + 2 := by rw [← hw1]; simp
    have r0 : w1.heap[w.heap.size]? = some (.cells (arrX R) 44 (0, 0)) := by
      rw [← hw1, Below.heap_alloc _ _ _ (by simp)]; exact heap_alloc_new _ _
    have r1 : w1.heap[w.heap.size + 1]? = some (.cells #[] 3 (0, 0)) := by
      rw [← hw1]
      have e := heap_alloc_new (w.alloc (.cells #[.int .i64 R.k, .string R.s, .int .i64 R.vk, .bool R.vb, .int .i64 R.vn, .string R.vs, .slice none 0 0, .slice none 0 0, .slice R.kp R.n R.kc, .slice R.np R.m R.nc] 44)) (.cells #[] 3)
      have e2 : (w.alloc (.cells #[.int .i64 R.k, .string R.s, .int .i64 R.vk, .bool R.vb, .int .i64 R.vn, .string R.vs, .slice none 0 0, .slice none 0 0, .slice R.kp R.n R.kc, .slice R.np R.m R.nc] 44)).heap.size = w.heap.size + 1 := by simp
      rw [e2] at e
      exact e
    exact ⟨hb1, s1, r0, rfl, .inr ⟨w.heap.size + 1, 0, #[], rfl, Nat.le_refl _, r1, Nat.le_refl _, Nat.zero_le _, rfl, rfl⟩⟩
  obtain ⟨i0, hi0, hz0, hz1, hz2⟩ := info_parts info3
  clear hV hZ H
  unfold rowX
  go_enter Tryz.func9, Tryz.ntmps9
  go_wp2_with fail
  clear hw1
  go_loopw [6, 7] (fun c6 c7 wr => ∃ (i : Nat) (l : List Int), i ≤ R.n ∧ c7 = .int .i64 (i : Int) ∧ Hid (l.length = i ∧ kdsF F f i (R.n - i) l = V ∧ wr.ownsRow (w.heap.size + 1) 3 1 c6 l.length (intsC l) ∧ Below w.heap.size w wr ∧ wr.heap[w.heap.size]? = some (.cells (arrX R) 44 (0, 0)) ∧ w.heap.size + 2 ≤ wr.heap.size)) (fun _ c7 _ => R.n - (intOf c7).toNat)
  case atStart =>
    refine ⟨0, [], Nat.zero_le _, rfl, ?_⟩
    have hh : ([] : List Int).length = 0 ∧ kdsF F f 0 (R.n - 0) [] = V ∧ w1.ownsRow (w.heap.size + 1) 3 1 (.slice (some ⟨w.heap.size + 1, 0, none⟩) 0 0) ([] : List Int).length (intsC []) ∧ Below w.heap.size w w1 ∧ w1.heap[w.heap.size]? = some (.cells (arrX R) 44 (0, 0)) ∧ w.heap.size + 2 ≤ w1.heap.size := ⟨rfl, HV.out.1, H1.out.2.2.2, H1.out.1, H1.out.2.2.1, Nat.le_of_eq H1.out.2.1.symm⟩
    exact hh
  case round =>
    clear H1
    obtain ⟨i, l, hi, rfl, hh⟩ := hrel
    obtain ⟨hl, hlo, hown, hB, hbx, hs2⟩ := hh.out
    have x8 : wr.cell? ⟨w.heap.size, 8, none⟩ = some (.slice R.kp R.n R.kc) := cell_of_row wr _ 8 _ _ _ hbx
    by_cases hlt : i < R.n
    · have hlt' : (i : Int) < (R.n : Int) := by omega
      obtain ⟨Kc, hK, hd⟩ := HV.out.2.2.kids
      have hcap := hK.cap
      obtain ⟨g, o, hkp, hSg, hg, hcl⟩ := hK.lies (by omega)
      have hLi := hd i hlt
      obtain ⟨A, hA, h10, hon⟩ := hLi.agg
      have hrg : wr.rangeAt g (o + i * 10) A.toList := fun j u hu => by
        have hj : j < 10 := by have := (List.getElem?_eq_some_iff.1 hu).1; simpa [h10] using this
        have h1 := hcl i hlt j hj
        rw [← cell_later hB hg] at h1
        rw [h1]
        unfold row10 at hA
        injection hA with hA2
        rw [← hA2] at hu
        rcases (by omega : j = 0 ∨ j = 1 ∨ j = 2 ∨ j = 3 ∨ j = 4 ∨ j = 5 ∨ j = 6 ∨ j = 7 ∨ j = 8 ∨ j = 9) with rfl | rfl | rfl | rfl | rfl | rfl | rfl | rfl | rfl | rfl <;> simpa using hu
      rw [hA] at hLi
      have k2 := HV.out.2.2.calls wr i (.agg A) hlt (hLi.since (Since.below hB))
      have HI : Hid ((Tryz.prog.info? 44).map (·.size) = some A.toList.length ∧ wr.rangeAt g (o + i * 10) A.toList) := ⟨by rw [Array.length_toList]; exact i44 h10, hrg⟩
      rw [hkp] at x8
      obtain ⟨r, hr⟩ : ∃ r, R.n - i = r + 1 := ⟨R.n - i - 1, by omega⟩
      rw [hr] at hlo
      unfold kdsF at hlo
      obtain ⟨X, hX⟩ : ∃ X, F (f i) = X := ⟨_, rfl⟩
      rw [hX] at k2 hlo
      have H2 : Hid (wr.ownsRow (w.heap.size + 1) 3 1 u6 l.length (intsC l) ∧ Below w.heap.size w wr ∧ wr.heap[w.heap.size]? = some (.cells (arrX R) 44 (0, 0)) ∧ l.length = i ∧ w.heap.size + 2 ≤ wr.heap.size ∧ R.n - i = r + 1) := ⟨hown, hB, hbx, hl, hs2, hr⟩
      clear hh hown hB hbx hl hrg h10 hon hA hLi hcl hX hkp hSg hg hK hd hr hs2
      by_cases hx2 : X.2 = 0
      · rw [if_pos hx2] at hlo
        have HLO : Hid (kdsF F f (i + 1) r (l ++ [X.1]) = V) := hlo
        rw [hx2] at k2
        clear hlo hx2
        go_wp2_with (first | (refine wpList_load_mid rfl 44 (.tmp 28) rfl g (o + i * 10) rfl A.toList _ HI.out.2 Tryz.underlying44 rfl HI.out.1 ?_; simp only [Act.put, List.setIfInBounds_toArray, List.set_cons_zero, List.set_cons_succ, Array.toArray_toList]) | fail)
        refine k2.mono ?_
        rintro q w3 ⟨rfl, hb3⟩
        have o3 := own_laterN H2.out.1 hb3
        have s3 := hb3.size
        have HB3 : Hid (Below w.heap.size w w3 ∧ w3.heap[w.heap.size]? = some (.cells (arrX R) 44 (0, 0)) ∧ w.heap.size + 2 ≤ w3.heap.size) := ⟨H2.out.2.1.trans (hb3.mono H2.out.2.1.size), (hb3.block _ (by have := H2.out.2.2.2.2.1; omega)).trans H2.out.2.2.1, by have := H2.out.2.2.2.2.1; omega⟩
        have hll := H2.out.2.2.2.1
        have hs3 := HB3.out.2.2
        clear k2 hb3 x8 HI
        go_wp2_with (at_builtin; refine wpList_append_own_at _ rfl _ _ 60 rfl (w.heap.size + 1) 3 i0 (.int .i64 0) 1 8 Tryz.underlying60 hi0 hz0 hz1 hz2 rfl (by decide) _ _ _ rfl (o3.alloc _) ⟨w3.heap.size, 0, none⟩ 1 1 [.int .i64 X.1] rfl rfl ?c1 ?c2 ?c3 ?c4 ?c5 ?_)
        case c1 => exact World.news_of_block (heap_alloc_new w3 _)
        case c2 => exact fun u hu => by rw [List.mem_singleton] at hu; rw [hu]; rfl
        case c3 => unfold maxLen; omega
        case c4 => omega
        case c5 => simp; omega
        intro v' w5 hown5 hgr5 _ hat5
        have HB5 : Hid (w5.ownsRow (w.heap.size + 1) 3 1 v' (l ++ [X.1]).length (intsC (l ++ [X.1])) ∧ Below w.heap.size w w5 ∧ w5.heap[w.heap.size]? = some (.cells (arrX R) 44 (0, 0)) ∧ w.heap.size + 2 ≤ w5.heap.size) := by
          refine ⟨?_, (HB3.out.1.alloc (by omega) _).grown hgr5 (by simp; omega) (fun k hk => by have := (o3.lt k hk).1; omega), ?_, ?_⟩
          · have e1 : (l ++ [X.1]).length = l.length + 1 := by simp
            have e2 : intsC (l ++ [X.1]) = intsC l ++ [.int .i64 X.1] := by simp [intsC]
            rw [e1, e2, hll]
            exact hown5
          · refine (hgr5.block _ (by simp; omega) (fun e => by have := (o3.lt _ e.symm).1; omega)).trans ?_
            rw [Below.heap_alloc _ _ _ (by omega)]
            exact HB3.out.2.1
          · have := hgr5.size
            simp at this
            omega
        clear o3 hown5 hgr5 hat5
        go_wp2_with fail
        go_roundw
        case rel =>
          refine ⟨i + 1, l ++ [X.1], by omega, by go_num, ?_⟩
          have er : R.n - (i + 1) = r := by have := H2.out.2.2.2.2.2; omega
          have hh : (l ++ [X.1]).length = i + 1 ∧ kdsF F f (i + 1) (R.n - (i + 1)) (l ++ [X.1]) = V ∧ w5.ownsRow (w.heap.size + 1) 3 1 v' (l ++ [X.1]).length (intsC (l ++ [X.1])) ∧ Below w.heap.size w w5 ∧ w5.heap[w.heap.size]? = some (.cells (arrX R) 44 (0, 0)) ∧ w.heap.size + 2 ≤ w5.heap.size := ⟨by simp; omega, by rw [er]; exact HLO.out, HB5.out.1, HB5.out.2.1, HB5.out.2.2.1, HB5.out.2.2.2⟩
          exact hh
        case measure => simp [intOf]; omega
      · rw [if_neg hx2] at hlo
        have hZ : Z = (0, X.2) := by
          rw [← HV.out.2.1, ← hlo]
          unfold rK
          rw [if_neg hx2]
        subst hZ
        clear hlo
        go_wp2_with (first | (refine wpList_load_mid rfl 44 (.tmp 28) rfl g (o + i * 10) rfl A.toList _ HI.out.2 Tryz.underlying44 rfl HI.out.1 ?_; simp only [Act.put, List.setIfInBounds_toArray, List.set_cons_zero, List.set_cons_succ, Array.toArray_toList]) | fail)
        refine k2.mono ?_
        rintro q w3 ⟨rfl, hb3⟩
        have HB3 : Hid (Below w.heap.size w w3) := H2.out.2.1.trans (hb3.mono H2.out.2.1.size)
        clear k2 hb3 x8
        go_wp2
        go_ret2
        exact ⟨rfl, HB3.out⟩
    · obtain rfl : i = R.n := by omega
      have hlt' : ¬ ((R.n : Int) < (R.n : Int)) := by omega
      have hV : V = (l, 0) := by
        rw [← hlo, Nat.sub_self]
        rfl
      subst hV
      have HZ : Hid ((fun _ => (1, 0)) l = Z ∧ (∀ x ∈ l, -1 ≤ x) ∧ l.length ≤ 1000 ∧ Below w.heap.size w wr) := by
        have hge : ∀ x ∈ l, -1 ≤ x := by
          have h1 := kdsF_ge HV.out.2.2.ge f R.n 0 [] (fun x hx => by simp at hx)
          rw [HV.out.1] at h1
          exact h1
        exact ⟨HV.out.2.1, hge, by rw [hl]; exact hn, hB⟩
      obtain ⟨q, k, hu6, hKn⟩ := Kn.own hown
      subst hu6
      have HK : Hid (Kn wr q k l) := hKn
      have hcapk := hKn.cap
      have hbx' := hbx
      clear hh hown hKn hlo hl hi hlt HV hs2
      have rb := hbx'
      clear hbx' hbx
      have y0 : wr.cell? ⟨w.heap.size, 0, none⟩ = some (.int .i64 6) := (cell_of_row wr _ 0 _ _ _ rb).trans (by rw [← HKK.out]; rfl)
      have y1 : wr.cell? ⟨w.heap.size, 1, none⟩ = some (.string ⟨#[60, 61]⟩) := (cell_of_row wr _ 1 _ _ _ rb).trans (by
        have e : R.s = ⟨#[60, 61]⟩ := by
          have h1 := congrArg List.toArray HSS.out
          simp only [Array.toArray_toList] at h1
          cases hR : R.s with
          | mk a => rw [hR] at h1; simp only at h1; rw [h1]
        rw [← e]; rfl)
      clear rb
      go_wp2_with fail
      go_loopw [14, 15] (fun c14 c15 wq => ∃ (i : Nat) (o : Int), i ≤ l.length ∧ c15 = .int .i64 (i : Int) ∧ c14 = .int .i64 o ∧ Hid (o = 1) ∧ wq = wr) (fun _ c15 _ => l.length - (intOf c15).toNat)
      case atStart => exact ⟨0, 1, Nat.zero_le _, rfl, rfl, (show (1 : Int) = 1 from rfl), rfl⟩
      case round =>
        obtain ⟨i, o, hi, rfl, rfl, ha, hwq⟩ := hrel
        obtain rfl := hwq
        have hl3 := HZ.out.2.2.1
        by_cases hlt : i < l.length
        · have hlt2 : (i : Int) < (l.length : Int) := by omega
          obtain ⟨x, hx⟩ : ∃ x, l[i]? = some x := ⟨l[i], List.getElem?_eq_getElem hlt⟩
          have hxg := HZ.out.2.1 x (List.mem_of_getElem? hx)
          obtain ⟨g, rfl, c1⟩ := HK.out.less hx
          clear hx
          go_wp2_with fail
          go_roundw
          case rel => exact ⟨i + 1, o, by omega, by go_num, rfl, ha, by first | rfl | trivial⟩
          case measure => simp [intOf]; omega
        · obtain rfl : i = l.length := by omega
          have hlt2 : ¬ ((l.length : Int) < (l.length : Int)) := by omega
          have hZ : Z = (o, 0) := by
            rw [← HZ.out.1, ha.out]
          subst hZ
          have HB : Hid (Below w.heap.size w wr) := HZ.out.2.2.2
          clear HZ HK ha
          go_wp2
          go_ret2
          exact ⟨rfl, HB.out⟩
end Go.Proofs.YtcniebkehekliaaGreatDoor
namespace Go.Proofs.YtcniebkehekliaaGreatDoor
open Go.RowKit Go.Shelf
attribute [local go_sem] Oper.semAt_some
set_option maxRecDepth 100000 in
set_option maxHeartbeats 8000000 in
theorem rkind_sgt {w : World} {S : Nat → Prop} {d : Nat} {f : Nat → Et} (b : Bool) {F : Et → Int × Int} {R : XR} (H : Rp w S d f b F R) (hk : R.k = 6) (hs : R.s.data.toList = [62]) :
    Calls Tryz.prog 9 #[rowX R, .bool b] w fun r w' => r = .returned (.tuple #[.int .i64 (rK (fun _ => (1, 0)) (kdsF F f 0 R.n [])).1, .int .i64 (rK (fun _ => (1, 0)) (kdsF F f 0 R.n [])).2]) ∧ Below w.heap.size w w' := by
  have hn := H.few.1
  have hm := H.few.2
  have hmx : maxLen = 9223372036854775807 := rfl
  obtain ⟨V, hV⟩ : ∃ V, kdsF F f 0 R.n [] = V := ⟨_, rfl⟩
  rw [hV]
  obtain ⟨Z, hZ⟩ : ∃ Z, rK (fun _ => (1, 0)) V = Z := ⟨_, rfl⟩
  rw [hZ]
  have HV : Hid (kdsF F f 0 R.n [] = V ∧ rK (fun _ => (1, 0)) V = Z ∧ Rp w S d f b F R) := ⟨hV, hZ, H⟩
  have HKK : Hid (R.k = 6) := hk
  clear hk
  have HSS : Hid (R.s.data.toList = [62]) := hs
  clear hs
  obtain ⟨w1, hw1⟩ : ∃ w1, (w.alloc (.cells #[.int .i64 R.k, .string R.s, .int .i64 R.vk, .bool R.vb, .int .i64 R.vn, .string R.vs, .slice none 0 0, .slice none 0 0, .slice R.kp R.n R.kc, .slice R.np R.m R.nc] 44)).alloc (.cells #[] 3) = w1 := ⟨_, rfl⟩
  have H1 : Hid (Below w.heap.size w w1 ∧ w1.heap.size = w.heap.size + 2 ∧ w1.heap[w.heap.size]? = some (.cells (arrX R) 44 (0, 0)) ∧ w1.ownsRow (w.heap.size + 1) 3 1 (.slice (some ⟨w.heap.size + 1, 0, none⟩) 0 0) 0 []) := by
    have hb1 : Below w.heap.size w w1 := by rw [← hw1]; exact ((Below.refl _ w).alloc (Nat.le_refl _) _).alloc (by simp) _
    have s1 : w1.heap.size = w.heap.size + 2 := by rw [← hw1]; simp
    have r0 : w1.heap[w.heap.size]? = some (.cells (arrX R) 44 (0, 0)) := by
      rw [← hw1, Below.heap_alloc _ _ _ (by simp)]; exact heap_alloc_new _ _
    have r1 : w1.heap[w.heap.size + 1]? = some (.cells #[] 3 (0, 0)) := by
      rw [← hw1]
      have e := heap_alloc_new (w.alloc (.cells #[.int .i64 R.k, .string R.s, .int .i64 R.vk, .bool R.vb, .int .i64 R.vn, .string R.vs, .slice none 0 0, .slice none 0 0, .slice R.kp R.n R.kc, .slice R.np R.m R.nc] 44)) (.cells #[] 3)
      have e2 : (w.alloc (.cells #[.int .i64 R.k, .string R.s, .int .i64 R.vk, .bool R.vb, .int .i64 R.vn, .string R.vs, .slice none 0 0, .slice none 0 0, .slice R.kp R.n R.kc, .slice R.np R.m R.nc] 44)).heap.size = w.heap.size + 1 := by simp
      rw [e2] at e
      exact e
    exact ⟨hb1, s1, r0, rfl, .inr ⟨w.heap.size + 1, 0, #[], rfl, Nat.le_refl _, r1, Nat.le_refl _, Nat.zero_le _, rfl, rfl⟩⟩
  obtain ⟨i0, hi0, hz0, hz1, hz2⟩ := info_parts info3
  clear hV hZ H
  unfold rowX
  go_enter Tryz.func9, Tryz.ntmps9
  go_wp2_with fail
  clear hw1
  go_loopw [6, 7] (fun c6 c7 wr => ∃ (i : Nat) (l : List Int), i ≤ R.n ∧ c7 = .int .i64 (i : Int) ∧ Hid (l.length = i ∧ kdsF F f i (R.n - i) l = V ∧ wr.ownsRow (w.heap.size + 1) 3 1 c6 l.length (intsC l) ∧ Below w.heap.size w wr ∧ wr.heap[w.heap.size]? = some (.cells (arrX R) 44 (0, 0)) ∧ w.heap.size + 2 ≤ wr.heap.size)) (fun _ c7 _ => R.n - (intOf c7).toNat)
  case atStart =>
    refine ⟨0, [], Nat.zero_le _, rfl, ?_⟩
    have hh : ([] : List Int).length = 0 ∧ kdsF F f 0 (R.n - 0) [] = V ∧ w1.ownsRow (w.heap.size + 1) 3 1 (.slice (some ⟨w.heap.size + 1, 0, none⟩) 0 0) ([] : List Int).length (intsC []) ∧ Below w.heap.size w w1 ∧ w1.heap[w.heap.size]? = some (.cells (arrX R) 44 (0, 0)) ∧ w.heap.size + 2 ≤ w1.heap.size := ⟨rfl, HV.out.1, H1.out.2.2.2, H1.out.1, H1.out.2.2.1, Nat.le_of_eq H1.out.2.1.symm⟩
    exact hh
  case round =>
    clear H1
    obtain ⟨i, l, hi, rfl, hh⟩ := hrel
    obtain ⟨hl, hlo, hown, hB, hbx, hs2⟩ := hh.out
    have x8 : wr.cell? ⟨w.heap.size, 8, none⟩ = some (.slice R.kp R.n R.kc) := cell_of_row wr _ 8 _ _ _ hbx
    by_cases hlt : i < R.n
    · have hlt' : (i : Int) < (R.n : Int) := by omega
      obtain ⟨Kc, hK, hd⟩ := HV.out.2.2.kids
      have hcap := hK.cap
      obtain ⟨g, o, hkp, hSg, hg, hcl⟩ := hK.lies (by omega)
      have hLi := hd i hlt
      obtain ⟨A, hA, h10, hon⟩ := hLi.agg
      have hrg : wr.rangeAt g (o + i * 10) A.toList := fun j u hu => by
        have hj : j < 10 := by have := (List.getElem?_eq_some_iff.1 hu).1; simpa [h10] using this
        have h1 := hcl i hlt j hj
        rw [← cell_later hB hg] at h1
        rw [h1]
        unfold row10 at hA
        injection hA with hA2
        rw [← hA2] at hu
        rcases (by omega : j = 0 ∨ j = 1 ∨ j = 2 ∨ j = 3 ∨ j = 4 ∨ j = 5 ∨ j = 6 ∨ j = 7 ∨ j = 8 ∨ j = 9) with rfl | rfl | rfl | rfl | rfl | rfl | rfl | rfl | rfl | rfl <;> simpa using hu
      rw [hA] at hLi
      have k2 := HV.out.2.2.calls wr i (.agg A) hlt (hLi.since (Since.below hB))
      have HI : Hid ((Tryz.prog.info? 44).map (·.size) = some A.toList.length ∧ wr.rangeAt g (o + i * 10) A.toList) := ⟨by rw [Array.length_toList]; exact i44 h10, hrg⟩
      rw [hkp] at x8
      obtain ⟨r, hr⟩ : ∃ r, R.n - i = r + 1 := ⟨R.n - i - 1, by omega⟩
      rw [hr] at hlo
      unfold kdsF at hlo
      obtain ⟨X, hX⟩ : ∃ X, F (f i) = X := ⟨_, rfl⟩
      rw [hX] at k2 hlo
      have H2 : Hid (wr.ownsRow (w.heap.size + 1) 3 1 u6 l.length (intsC l) ∧ Below w.heap.size w wr ∧ wr.heap[w.heap.size]? = some (.cells (arrX R) 44 (0, 0)) ∧ l.length = i ∧ w.heap.size + 2 ≤ wr.heap.size ∧ R.n - i = r + 1) := ⟨hown, hB, hbx, hl, hs2, hr⟩
      clear hh hown hB hbx hl hrg h10 hon hA hLi hcl hX hkp hSg hg hK hd hr hs2
      by_cases hx2 : X.2 = 0
      · rw [if_pos hx2] at hlo
        have HLO : Hid (kdsF F f (i + 1) r (l ++ [X.1]) = V) := hlo
        rw [hx2] at k2
        clear hlo hx2
        go_wp2_with (first | (refine wpList_load_mid rfl 44 (.tmp 28) rfl g (o + i * 10) rfl A.toList _ HI.out.2 Tryz.underlying44 rfl HI.out.1 ?_; simp only [Act.put, List.setIfInBounds_toArray, List.set_cons_zero, List.set_cons_succ, Array.toArray_toList]) | fail)
        refine k2.mono ?_
        rintro q w3 ⟨rfl, hb3⟩
        have o3 := own_laterN H2.out.1 hb3
        have s3 := hb3.size
        have HB3 : Hid (Below w.heap.size w w3 ∧ w3.heap[w.heap.size]? = some (.cells (arrX R) 44 (0, 0)) ∧ w.heap.size + 2 ≤ w3.heap.size) := ⟨H2.out.2.1.trans (hb3.mono H2.out.2.1.size), (hb3.block _ (by have := H2.out.2.2.2.2.1; omega)).trans H2.out.2.2.1, by have := H2.out.2.2.2.2.1; omega⟩
        have hll := H2.out.2.2.2.1
        have hs3 := HB3.out.2.2
        clear k2 hb3 x8 HI
        go_wp2_with (at_builtin; refine wpList_append_own_at _ rfl _ _ 60 rfl (w.heap.size + 1) 3 i0 (.int .i64 0) 1 8 Tryz.underlying60 hi0 hz0 hz1 hz2 rfl (by decide) _ _ _ rfl (o3.alloc _) ⟨w3.heap.size, 0, none⟩ 1 1 [.int .i64 X.1] rfl rfl ?c1 ?c2 ?c3 ?c4 ?c5 ?_)
        case c1 => exact World.news_of_block (heap_alloc_new w3 _)
        case c2 => exact fun u hu => by rw [List.mem_singleton] at hu; rw [hu]; rfl
        case c3 => unfold maxLen; omega
        case c4 => omega
        case c5 => simp; omega
        intro v' w5 hown5 hgr5 _ hat5
        have HB5 : Hid (w5.ownsRow (w.heap.size + 1) 3 1 v' (l ++ [X.1]).length (intsC (l ++ [X.1])) ∧ Below w.heap.size w w5 ∧ w5.heap[w.heap.size]? = some (.cells (arrX R) 44 (0, 0)) ∧ w.heap.size + 2 ≤ w5.heap.size) := by
          refine ⟨?_, (HB3.out.1.alloc (by omega) _).grown hgr5 (by simp; omega) (fun k hk => by have := (o3.lt k hk).1; omega), ?_, ?_⟩
          · have e1 : (l ++ [X.1]).length = l.length + 1 := by simp
            have e2 : intsC (l ++ [X.1]) = intsC l ++ [.int .i64 X.1] := by simp [intsC]
            rw [e1, e2, hll]
            exact hown5
          · refine (hgr5.block _ (by simp; omega) (fun e => by have := (o3.lt _ e.symm).1; omega)).trans ?_
            rw [Below.heap_alloc _ _ _ (by omega)]
            exact HB3.out.2.1
          · have := hgr5.size
            simp at this
            omega
        clear o3 hown5 hgr5 hat5
        go_wp2_with fail
        go_roundw
        case rel =>
          refine ⟨i + 1, l ++ [X.1], by omega, by go_num, ?_⟩
          have er : R.n - (i + 1) = r := by have := H2.out.2.2.2.2.2; omega
          have hh : (l ++ [X.1]).length = i + 1 ∧ kdsF F f (i + 1) (R.n - (i + 1)) (l ++ [X.1]) = V ∧ w5.ownsRow (w.heap.size + 1) 3 1 v' (l ++ [X.1]).length (intsC (l ++ [X.1])) ∧ Below w.heap.size w w5 ∧ w5.heap[w.heap.size]? = some (.cells (arrX R) 44 (0, 0)) ∧ w.heap.size + 2 ≤ w5.heap.size := ⟨by simp; omega, by rw [er]; exact HLO.out, HB5.out.1, HB5.out.2.1, HB5.out.2.2.1, HB5.out.2.2.2⟩
          exact hh
        case measure => simp [intOf]; omega
      · rw [if_neg hx2] at hlo
        have hZ : Z = (0, X.2) := by
          rw [← HV.out.2.1, ← hlo]
          unfold rK
          rw [if_neg hx2]
        subst hZ
        clear hlo
        go_wp2_with (first | (refine wpList_load_mid rfl 44 (.tmp 28) rfl g (o + i * 10) rfl A.toList _ HI.out.2 Tryz.underlying44 rfl HI.out.1 ?_; simp only [Act.put, List.setIfInBounds_toArray, List.set_cons_zero, List.set_cons_succ, Array.toArray_toList]) | fail)
        refine k2.mono ?_
        rintro q w3 ⟨rfl, hb3⟩
        have HB3 : Hid (Below w.heap.size w w3) := H2.out.2.1.trans (hb3.mono H2.out.2.1.size)
        clear k2 hb3 x8
        go_wp2
        go_ret2
        exact ⟨rfl, HB3.out⟩
    · obtain rfl : i = R.n := by omega
      have hlt' : ¬ ((R.n : Int) < (R.n : Int)) := by omega
      have hV : V = (l, 0) := by
        rw [← hlo, Nat.sub_self]
        rfl
      subst hV
      have HZ : Hid ((fun _ => (1, 0)) l = Z ∧ (∀ x ∈ l, -1 ≤ x) ∧ l.length ≤ 1000 ∧ Below w.heap.size w wr) := by
        have hge : ∀ x ∈ l, -1 ≤ x := by
          have h1 := kdsF_ge HV.out.2.2.ge f R.n 0 [] (fun x hx => by simp at hx)
          rw [HV.out.1] at h1
          exact h1
        exact ⟨HV.out.2.1, hge, by rw [hl]; exact hn, hB⟩
      obtain ⟨q, k, hu6, hKn⟩ := Kn.own hown
      subst hu6
      have HK : Hid (Kn wr q k l) := hKn
      have hcapk := hKn.cap
      have hbx' := hbx
      clear hh hown hKn hlo hl hi hlt HV hs2
      have rb := hbx'
      clear hbx' hbx
      have y0 : wr.cell? ⟨w.heap.size, 0, none⟩ = some (.int .i64 6) := (cell_of_row wr _ 0 _ _ _ rb).trans (by rw [← HKK.out]; rfl)
      have y1 : wr.cell? ⟨w.heap.size, 1, none⟩ = some (.string ⟨#[62]⟩) := (cell_of_row wr _ 1 _ _ _ rb).trans (by
        have e : R.s = ⟨#[62]⟩ := by
          have h1 := congrArg List.toArray HSS.out
          simp only [Array.toArray_toList] at h1
          cases hR : R.s with
          | mk a => rw [hR] at h1; simp only at h1; rw [h1]
        rw [← e]; rfl)
      clear rb
      go_wp2_with fail
      go_loopw [14, 15] (fun c14 c15 wq => ∃ (i : Nat) (o : Int), i ≤ l.length ∧ c15 = .int .i64 (i : Int) ∧ c14 = .int .i64 o ∧ Hid (o = 1) ∧ wq = wr) (fun _ c15 _ => l.length - (intOf c15).toNat)
      case atStart => exact ⟨0, 1, Nat.zero_le _, rfl, rfl, (show (1 : Int) = 1 from rfl), rfl⟩
      case round =>
        obtain ⟨i, o, hi, rfl, rfl, ha, hwq⟩ := hrel
        obtain rfl := hwq
        have hl3 := HZ.out.2.2.1
        by_cases hlt : i < l.length
        · have hlt2 : (i : Int) < (l.length : Int) := by omega
          obtain ⟨x, hx⟩ : ∃ x, l[i]? = some x := ⟨l[i], List.getElem?_eq_getElem hlt⟩
          have hxg := HZ.out.2.1 x (List.mem_of_getElem? hx)
          obtain ⟨g, rfl, c1⟩ := HK.out.less hx
          clear hx
          go_wp2_with fail
          go_roundw
          case rel => exact ⟨i + 1, o, by omega, by go_num, rfl, ha, by first | rfl | trivial⟩
          case measure => simp [intOf]; omega
        · obtain rfl : i = l.length := by omega
          have hlt2 : ¬ ((l.length : Int) < (l.length : Int)) := by omega
          have hZ : Z = (o, 0) := by
            rw [← HZ.out.1, ha.out]
          subst hZ
          have HB : Hid (Below w.heap.size w wr) := HZ.out.2.2.2
          clear HZ HK ha
          go_wp2
          go_ret2
          exact ⟨rfl, HB.out⟩
end Go.Proofs.YtcniebkehekliaaGreatDoor
namespace Go.Proofs.YtcniebkehekliaaGreatDoor
open Go.RowKit Go.Shelf
attribute [local go_sem] Oper.semAt_some
set_option maxRecDepth 100000 in
set_option maxHeartbeats 8000000 in
theorem rkind_sge {w : World} {S : Nat → Prop} {d : Nat} {f : Nat → Et} (b : Bool) {F : Et → Int × Int} {R : XR} (H : Rp w S d f b F R) (hk : R.k = 6) (hs : R.s.data.toList = [62, 61]) :
    Calls Tryz.prog 9 #[rowX R, .bool b] w fun r w' => r = .returned (.tuple #[.int .i64 (rK (fun _ => (1, 0)) (kdsF F f 0 R.n [])).1, .int .i64 (rK (fun _ => (1, 0)) (kdsF F f 0 R.n [])).2]) ∧ Below w.heap.size w w' := by
  have hn := H.few.1
  have hm := H.few.2
  have hmx : maxLen = 9223372036854775807 := rfl
  obtain ⟨V, hV⟩ : ∃ V, kdsF F f 0 R.n [] = V := ⟨_, rfl⟩
  rw [hV]
  obtain ⟨Z, hZ⟩ : ∃ Z, rK (fun _ => (1, 0)) V = Z := ⟨_, rfl⟩
  rw [hZ]
  have HV : Hid (kdsF F f 0 R.n [] = V ∧ rK (fun _ => (1, 0)) V = Z ∧ Rp w S d f b F R) := ⟨hV, hZ, H⟩
  have HKK : Hid (R.k = 6) := hk
  clear hk
  have HSS : Hid (R.s.data.toList = [62, 61]) := hs
  clear hs
  obtain ⟨w1, hw1⟩ : ∃ w1, (w.alloc (.cells #[.int .i64 R.k, .string R.s, .int .i64 R.vk, .bool R.vb, .int .i64 R.vn, .string R.vs, .slice none 0 0, .slice none 0 0, .slice R.kp R.n R.kc, .slice R.np R.m R.nc] 44)).alloc (.cells #[] 3) = w1 := ⟨_, rfl⟩
  have H1 : Hid (Below w.heap.size w w1 ∧ w1.heap.size = w.heap.size + 2 ∧ w1.heap[w.heap.size]? = some (.cells (arrX R) 44 (0, 0)) ∧ w1.ownsRow (w.heap.size + 1) 3 1 (.slice (some ⟨w.heap.size + 1, 0, none⟩) 0 0) 0 []) := by
    have hb1 : Below w.heap.size w w1 := by rw [← hw1]; exact ((Below.refl _ w).alloc (Nat.le_refl _) _).alloc (by simp) _
    have s1 : w1.heap.size = w.heap.size + 2 := by rw [← hw1]; simp
    have r0 : w1.heap[w.heap.size]? = some (.cells (arrX R) 44 (0, 0)) := by
      rw [← hw1, Below.heap_alloc _ _ _ (by simp)]; exact heap_alloc_new _ _
    have r1 : w1.heap[w.heap.size + 1]? = some (.cells #[] 3 (0, 0)) := by
      rw [← hw1]
      have e := heap_alloc_new (w.alloc (.cells #[.int .i64 R.k, .string R.s, .int .i64 R.vk, .bool R.vb, .int .i64 R.vn, .string R.vs, .slice none 0 0, .slice none 0 0, .slice R.kp R.n R.kc, .slice R.np R.m R.nc] 44)) (.cells #[] 3)
      have e2 : (w.alloc (.cells #[.int .i64 R.k, .string R.s, .int .i64 R.vk, .bool R.vb, .int .i64 R.vn, .string R.vs, .slice none 0 0, .slice none 0 0, .slice R.kp R.n R.kc, .slice R.np R.m R.nc] 44)).heap.size = w.heap.size + 1 := by simp
      rw [e2] at e
      exact e
    exact ⟨hb1, s1, r0, rfl, .inr ⟨w.heap.size + 1, 0, #[], rfl, Nat.le_refl _, r1, Nat.le_refl _, Nat.zero_le _, rfl, rfl⟩⟩
  obtain ⟨i0, hi0, hz0, hz1, hz2⟩ := info_parts info3
  clear hV hZ H
  unfold rowX
  go_enter Tryz.func9, Tryz.ntmps9
  go_wp2_with fail
  clear hw1
  go_loopw [6, 7] (fun c6 c7 wr => ∃ (i : Nat) (l : List Int), i ≤ R.n ∧ c7 = .int .i64 (i : Int) ∧ Hid (l.length = i ∧ kdsF F f i (R.n - i) l = V ∧ wr.ownsRow (w.heap.size + 1) 3 1 c6 l.length (intsC l) ∧ Below w.heap.size w wr ∧ wr.heap[w.heap.size]? = some (.cells (arrX R) 44 (0, 0)) ∧ w.heap.size + 2 ≤ wr.heap.size)) (fun _ c7 _ => R.n - (intOf c7).toNat)
  case atStart =>
    refine ⟨0, [], Nat.zero_le _, rfl, ?_⟩
    have hh : ([] : List Int).length = 0 ∧ kdsF F f 0 (R.n - 0) [] = V ∧ w1.ownsRow (w.heap.size + 1) 3 1 (.slice (some ⟨w.heap.size + 1, 0, none⟩) 0 0) ([] : List Int).length (intsC []) ∧ Below w.heap.size w w1 ∧ w1.heap[w.heap.size]? = some (.cells (arrX R) 44 (0, 0)) ∧ w.heap.size + 2 ≤ w1.heap.size := ⟨rfl, HV.out.1, H1.out.2.2.2, H1.out.1, H1.out.2.2.1, Nat.le_of_eq H1.out.2.1.symm⟩
    exact hh
  case round =>
    clear H1
    obtain ⟨i, l, hi, rfl, hh⟩ := hrel
    obtain ⟨hl, hlo, hown, hB, hbx, hs2⟩ := hh.out
    have x8 : wr.cell? ⟨w.heap.size, 8, none⟩ = some (.slice R.kp R.n R.kc) := cell_of_row wr _ 8 _ _ _ hbx
    by_cases hlt : i < R.n
    · have hlt' : (i : Int) < (R.n : Int) := by omega
      obtain ⟨Kc, hK, hd⟩ := HV.out.2.2.kids
      have hcap := hK.cap
      obtain ⟨g, o, hkp, hSg, hg, hcl⟩ := hK.lies (by omega)
      have hLi := hd i hlt
      obtain ⟨A, hA, h10, hon⟩ := hLi.agg
      have hrg : wr.rangeAt g (o + i * 10) A.toList := fun j u hu => by
        have hj : j < 10 := by have := (List.getElem?_eq_some_iff.1 hu).1; simpa [h10] using this
        have h1 := hcl i hlt j hj
        rw [← cell_later hB hg] at h1
        rw [h1]
        unfold row10 at hA
        injection hA with hA2
        rw [← hA2] at hu
        rcases (by omega : j = 0 ∨ j = 1 ∨ j = 2 ∨ j = 3 ∨ j = 4 ∨ j = 5 ∨ j = 6 ∨ j = 7 ∨ j = 8 ∨ j = 9) with rfl | rfl | rfl | rfl | rfl | rfl | rfl | rfl | rfl | rfl <;> simpa using hu
      rw [hA] at hLi
      have k2 := HV.out.2.2.calls wr i (.agg A) hlt (hLi.since (Since.below hB))
      have HI : Hid ((Tryz.prog.info? 44).map (·.size) = some A.toList.length ∧ wr.rangeAt g (o + i * 10) A.toList) := ⟨by rw [Array.length_toList]; exact i44 h10, hrg⟩
      rw [hkp] at x8
      obtain ⟨r, hr⟩ : ∃ r, R.n - i = r + 1 := ⟨R.n - i - 1, by omega⟩
      rw [hr] at hlo
      unfold kdsF at hlo
      obtain ⟨X, hX⟩ : ∃ X, F (f i) = X := ⟨_, rfl⟩
      rw [hX] at k2 hlo
      have H2 : Hid (wr.ownsRow (w.heap.size + 1) 3 1 u6 l.length (intsC l) ∧ Below w.heap.size w wr ∧ wr.heap[w.heap.size]? = some (.cells (arrX R) 44 (0, 0)) ∧ l.length = i ∧ w.heap.size + 2 ≤ wr.heap.size ∧ R.n - i = r + 1) := ⟨hown, hB, hbx, hl, hs2, hr⟩
      clear hh hown hB hbx hl hrg h10 hon hA hLi hcl hX hkp hSg hg hK hd hr hs2
      by_cases hx2 : X.2 = 0
      · rw [if_pos hx2] at hlo
        have HLO : Hid (kdsF F f (i + 1) r (l ++ [X.1]) = V) := hlo
        rw [hx2] at k2
        clear hlo hx2
        go_wp2_with (first | (refine wpList_load_mid rfl 44 (.tmp 28) rfl g (o + i * 10) rfl A.toList _ HI.out.2 Tryz.underlying44 rfl HI.out.1 ?_; simp only [Act.put, List.setIfInBounds_toArray, List.set_cons_zero, List.set_cons_succ, Array.toArray_toList]) | fail)
        refine k2.mono ?_
        rintro q w3 ⟨rfl, hb3⟩
        have o3 := own_laterN H2.out.1 hb3
        have s3 := hb3.size
        have HB3 : Hid (Below w.heap.size w w3 ∧ w3.heap[w.heap.size]? = some (.cells (arrX R) 44 (0, 0)) ∧ w.heap.size + 2 ≤ w3.heap.size) := ⟨H2.out.2.1.trans (hb3.mono H2.out.2.1.size), (hb3.block _ (by have := H2.out.2.2.2.2.1; omega)).trans H2.out.2.2.1, by have := H2.out.2.2.2.2.1; omega⟩
        have hll := H2.out.2.2.2.1
        have hs3 := HB3.out.2.2
        clear k2 hb3 x8 HI
        go_wp2_with (at_builtin; refine wpList_append_own_at _ rfl _ _ 60 rfl (w.heap.size + 1) 3 i0 (.int .i64 0) 1 8 Tryz.underlying60 hi0 hz0 hz1 hz2 rfl (by decide) _ _ _ rfl (o3.alloc _) ⟨w3.heap.size, 0, none⟩ 1 1 [.int .i64 X.1] rfl rfl ?c1 ?c2 ?c3 ?c4 ?c5 ?_)
        case c1 => exact World.news_of_block (heap_alloc_new w3 _)
        case c2 => exact fun u hu => by rw [List.mem_singleton] at hu; rw [hu]; rfl
        case c3 => unfold maxLen; omega
        case c4 => omega
        case c5 => simp; omega
        intro v' w5 hown5 hgr5 _ hat5
        have HB5 : Hid (w5.ownsRow (w.heap.size + 1) 3 1 v' (l ++ [X.1]).length (intsC (l ++ [X.1])) ∧ Below w.heap.size w w5 ∧ w5.heap[w.heap.size]? = some (.cells (arrX R) 44 (0, 0)) ∧ w.heap.size + 2 ≤ w5.heap.size) := by
          refine ⟨?_, (HB3.out.1.alloc (by omega) _).grown hgr5 (by simp; omega) (fun k hk => by have := (o3.lt k hk).1; omega), ?_, ?_⟩
          · have e1 : (l ++ [X.1]).length = l.length + 1 := by simp
            have e2 : intsC (l ++ [X.1]) = intsC l ++ [.int .i64 X.1] := by simp [intsC]
            rw [e1, e2, hll]
            exact hown5
          · refine (hgr5.block _ (by simp; omega) (fun e => by have := (o3.lt _ e.symm).1; omega)).trans ?_
            rw [Below.heap_alloc _ _ _ (by omega)]
            exact HB3.out.2.1
          · have := hgr5.size
            simp at this
            omega
        clear o3 hown5 hgr5 hat5
        go_wp2_with fail
        go_roundw
        case rel =>
          refine ⟨i + 1, l ++ [X.1], by omega, by go_num, ?_⟩
          have er : R.n - (i + 1) = r := by have := H2.out.2.2.2.2.2; omega
          have hh : (l ++ [X.1]).length = i + 1 ∧ kdsF F f (i + 1) (R.n - (i + 1)) (l ++ [X.1]) = V ∧ w5.ownsRow (w.heap.size + 1) 3 1 v' (l ++ [X.1]).length (intsC (l ++ [X.1])) ∧ Below w.heap.size w w5 ∧ w5.heap[w.heap.size]? = some (.cells (arrX R) 44 (0, 0)) ∧ w.heap.size + 2 ≤ w5.heap.size := ⟨by simp; omega, by rw [er]; exact HLO.out, HB5.out.1, HB5.out.2.1, HB5.out.2.2.1, HB5.out.2.2.2⟩
          exact hh
        case measure => simp [intOf]; omega
      · rw [if_neg hx2] at hlo
        have hZ : Z = (0, X.2) := by
          rw [← HV.out.2.1, ← hlo]
          unfold rK
          rw [if_neg hx2]
        subst hZ
        clear hlo
        go_wp2_with (first | (refine wpList_load_mid rfl 44 (.tmp 28) rfl g (o + i * 10) rfl A.toList _ HI.out.2 Tryz.underlying44 rfl HI.out.1 ?_; simp only [Act.put, List.setIfInBounds_toArray, List.set_cons_zero, List.set_cons_succ, Array.toArray_toList]) | fail)
        refine k2.mono ?_
        rintro q w3 ⟨rfl, hb3⟩
        have HB3 : Hid (Below w.heap.size w w3) := H2.out.2.1.trans (hb3.mono H2.out.2.1.size)
        clear k2 hb3 x8
        go_wp2
        go_ret2
        exact ⟨rfl, HB3.out⟩
    · obtain rfl : i = R.n := by omega
      have hlt' : ¬ ((R.n : Int) < (R.n : Int)) := by omega
      have hV : V = (l, 0) := by
        rw [← hlo, Nat.sub_self]
        rfl
      subst hV
      have HZ : Hid ((fun _ => (1, 0)) l = Z ∧ (∀ x ∈ l, -1 ≤ x) ∧ l.length ≤ 1000 ∧ Below w.heap.size w wr) := by
        have hge : ∀ x ∈ l, -1 ≤ x := by
          have h1 := kdsF_ge HV.out.2.2.ge f R.n 0 [] (fun x hx => by simp at hx)
          rw [HV.out.1] at h1
          exact h1
        exact ⟨HV.out.2.1, hge, by rw [hl]; exact hn, hB⟩
      obtain ⟨q, k, hu6, hKn⟩ := Kn.own hown
      subst hu6
      have HK : Hid (Kn wr q k l) := hKn
      have hcapk := hKn.cap
      have hbx' := hbx
      clear hh hown hKn hlo hl hi hlt HV hs2
      have rb := hbx'
      clear hbx' hbx
      have y0 : wr.cell? ⟨w.heap.size, 0, none⟩ = some (.int .i64 6) := (cell_of_row wr _ 0 _ _ _ rb).trans (by rw [← HKK.out]; rfl)
      have y1 : wr.cell? ⟨w.heap.size, 1, none⟩ = some (.string ⟨#[62, 61]⟩) := (cell_of_row wr _ 1 _ _ _ rb).trans (by
        have e : R.s = ⟨#[62, 61]⟩ := by
          have h1 := congrArg List.toArray HSS.out
          simp only [Array.toArray_toList] at h1
          cases hR : R.s with
          | mk a => rw [hR] at h1; simp only at h1; rw [h1]
        rw [← e]; rfl)
      clear rb
      go_wp2_with fail
      go_loopw [14, 15] (fun c14 c15 wq => ∃ (i : Nat) (o : Int), i ≤ l.length ∧ c15 = .int .i64 (i : Int) ∧ c14 = .int .i64 o ∧ Hid (o = 1) ∧ wq = wr) (fun _ c15 _ => l.length - (intOf c15).toNat)
      case atStart => exact ⟨0, 1, Nat.zero_le _, rfl, rfl, (show (1 : Int) = 1 from rfl), rfl⟩
      case round =>
        obtain ⟨i, o, hi, rfl, rfl, ha, hwq⟩ := hrel
        obtain rfl := hwq
        have hl3 := HZ.out.2.2.1
        by_cases hlt : i < l.length
        · have hlt2 : (i : Int) < (l.length : Int) := by omega
          obtain ⟨x, hx⟩ : ∃ x, l[i]? = some x := ⟨l[i], List.getElem?_eq_getElem hlt⟩
          have hxg := HZ.out.2.1 x (List.mem_of_getElem? hx)
          obtain ⟨g, rfl, c1⟩ := HK.out.less hx
          clear hx
          go_wp2_with fail
          go_roundw
          case rel => exact ⟨i + 1, o, by omega, by go_num, rfl, ha, by first | rfl | trivial⟩
          case measure => simp [intOf]; omega
        · obtain rfl : i = l.length := by omega
          have hlt2 : ¬ ((l.length : Int) < (l.length : Int)) := by omega
          have hZ : Z = (o, 0) := by
            rw [← HZ.out.1, ha.out]
          subst hZ
          have HB : Hid (Below w.heap.size w wr) := HZ.out.2.2.2
          clear HZ HK ha
          go_wp2
          go_ret2
          exact ⟨rfl, HB.out⟩
end Go.Proofs.YtcniebkehekliaaGreatDoor
namespace Go.Proofs.YtcniebkehekliaaGreatDoor
open Go.RowKit Go.Shelf
attribute [local go_sem] Oper.semAt_some
set_option maxRecDepth 100000 in
set_option maxHeartbeats 8000000 in
theorem rkind_sadd {w : World} {S : Nat → Prop} {d : Nat} {f : Nat → Et} (b : Bool) {F : Et → Int × Int} {R : XR} (H : Rp w S d f b F R) (hk : R.k = 6) (hs : R.s.data.toList = [43]) :
    Calls Tryz.prog 9 #[rowX R, .bool b] w fun r w' => r = .returned (.tuple #[.int .i64 (rK (nmbF) (kdsF F f 0 R.n [])).1, .int .i64 (rK (nmbF) (kdsF F f 0 R.n [])).2]) ∧ Below w.heap.size w w' := by
  have hn := H.few.1
  have hm := H.few.2
  have hmx : maxLen = 9223372036854775807 := rfl
  obtain ⟨V, hV⟩ : ∃ V, kdsF F f 0 R.n [] = V := ⟨_, rfl⟩
  rw [hV]
  obtain ⟨Z, hZ⟩ : ∃ Z, rK (nmbF) V = Z := ⟨_, rfl⟩
  rw [hZ]
  have HV : Hid (kdsF F f 0 R.n [] = V ∧ rK (nmbF) V = Z ∧ Rp w S d f b F R) := ⟨hV, hZ, H⟩
  have HKK : Hid (R.k = 6) := hk
  clear hk
  have HSS : Hid (R.s.data.toList = [43]) := hs
  clear hs
  obtain ⟨w1, hw1⟩ : ∃ w1, (w.alloc (.cells #[.int .i64 R.k, .string R.s, .int .i64 R.vk, .bool R.vb, .int .i64 R.vn, .string R.vs, .slice none 0 0, .slice none 0 0, .slice R.kp R.n R.kc, .slice R.np R.m R.nc] 44)).alloc (.cells #[] 3) = w1 := ⟨_, rfl⟩
  have H1 : Hid (Below w.heap.size w w1 ∧ w1.heap.size = w.heap.size + 2 ∧ w1.heap[w.heap.size]? = some (.cells (arrX R) 44 (0, 0)) ∧ w1.ownsRow (w.heap.size + 1) 3 1 (.slice (some ⟨w.heap.size + 1, 0, none⟩) 0 0) 0 []) := by
    have hb1 : Below w.heap.size w w1 := by rw [← hw1]; exact ((Below.refl _ w).alloc (Nat.le_refl _) _).alloc (by simp) _
    have s1 : w1.heap.size = w.heap.size + 2 := by rw [← hw1]; simp
    have r0 : w1.heap[w.heap.size]? = some (.cells (arrX R) 44 (0, 0)) := by
      rw [← hw1, Below.heap_alloc _ _ _ (by simp)]; exact heap_alloc_new _ _
    have r1 : w1.heap[w.heap.size + 1]? = some (.cells #[] 3 (0, 0)) := by
      rw [← hw1]
      have e := heap_alloc_new (w.alloc (.cells #[.int .i64 R.k, .string R.s, .int .i64 R.vk, .bool R.vb, .int .i64 R.vn, .string R.vs, .slice none 0 0, .slice none 0 0, .slice R.kp R.n R.kc, .slice R.np R.m R.nc] 44)) (.cells #[] 3)
      have e2 : (w.alloc (.cells #[.int .i64 R.k, .string R.s, .int .i64 R.vk, .bool R.vb, .int .i64 R.vn, .string R.vs, .slice none 0 0, .slice none 0 0, .slice R.kp R.n R.kc, .slice R.np R.m R.nc] 44)).heap.size = w.heap.size + 1 := by simp
      rw [e2] at e
      exact e
    exact ⟨hb1, s1, r0, rfl, .inr ⟨w.heap.size + 1, 0, #[], rfl, Nat.le_refl _, r1, Nat.le_refl _, Nat.zero_le _, rfl, rfl⟩⟩
  obtain ⟨i0, hi0, hz0, hz1, hz2⟩ := info_parts info3
  clear hV hZ H
  unfold rowX
  go_enter Tryz.func9, Tryz.ntmps9
  go_wp2_with fail
  clear hw1
  go_loopw [6, 7] (fun c6 c7 wr => ∃ (i : Nat) (l : List Int), i ≤ R.n ∧ c7 = .int .i64 (i : Int) ∧ Hid (l.length = i ∧ kdsF F f i (R.n - i) l = V ∧ wr.ownsRow (w.heap.size + 1) 3 1 c6 l.length (intsC l) ∧ Below w.heap.size w wr ∧ wr.heap[w.heap.size]? = some (.cells (arrX R) 44 (0, 0)) ∧ w.heap.size + 2 ≤ wr.heap.size)) (fun _ c7 _ => R.n - (intOf c7).toNat)
  case atStart =>
    refine ⟨0, [], Nat.zero_le _, rfl, ?_⟩
    have hh : ([] : List Int).length = 0 ∧ kdsF F f 0 (R.n - 0) [] = V ∧ w1.ownsRow (w.heap.size + 1) 3 1 (.slice (some ⟨w.heap.size + 1, 0, none⟩) 0 0) ([] : List Int).length (intsC []) ∧ Below w.heap.size w w1 ∧ w1.heap[w.heap.size]? = some (.cells (arrX R) 44 (0, 0)) ∧ w.heap.size + 2 ≤ w1.heap.size := ⟨rfl, HV.out.1, H1.out.2.2.2, H1.out.1, H1.out.2.2.1, Nat.le_of_eq H1.out.2.1.symm⟩
    exact hh
  case round =>
    clear H1
    obtain ⟨i, l, hi, rfl, hh⟩ := hrel
    obtain ⟨hl, hlo, hown, hB, hbx, hs2⟩ := hh.out
    have x8 : wr.cell? ⟨w.heap.size, 8, none⟩ = some (.slice R.kp R.n R.kc) := cell_of_row wr _ 8 _ _ _ hbx
    by_cases hlt : i < R.n
    · have hlt' : (i : Int) < (R.n : Int) := by omega
      obtain ⟨Kc, hK, hd⟩ := HV.out.2.2.kids
      have hcap := hK.cap
      obtain ⟨g, o, hkp, hSg, hg, hcl⟩ := hK.lies (by omega)
      have hLi := hd i hlt
      obtain ⟨A, hA, h10, hon⟩ := hLi.agg
      have hrg : wr.rangeAt g (o + i * 10) A.toList := fun j u hu => by
        have hj : j < 10 := by have := (List.getElem?_eq_some_iff.1 hu).1; simpa [h10] using this
        have h1 := hcl i hlt j hj
        rw [← cell_later hB hg] at h1
        rw [h1]
        unfold row10 at hA
        injection hA with hA2
        rw [← hA2] at hu
        rcases (by omega : j = 0 ∨ j = 1 ∨ j = 2 ∨ j = 3 ∨ j = 4 ∨ j = 5 ∨ j = 6 ∨ j = 7 ∨ j = 8 ∨ j = 9) with rfl | rfl | rfl | rfl | rfl | rfl | rfl | rfl | rfl | rfl <;> simpa using hu
      rw [hA] at hLi
      have k2 := HV.out.2.2.calls wr i (.agg A) hlt (hLi.since (Since.below hB))
      have HI : Hid ((Tryz.prog.info? 44).map (·.size) = some A.toList.length ∧ wr.rangeAt g (o + i * 10) A.toList) := ⟨by rw [Array.length_toList]; exact i44 h10, hrg⟩
      rw [hkp] at x8
      obtain ⟨r, hr⟩ : ∃ r, R.n - i = r + 1 := ⟨R.n - i - 1, by omega⟩
      rw [hr] at hlo
      unfold kdsF at hlo
      obtain ⟨X, hX⟩ : ∃ X, F (f i) = X := ⟨_, rfl⟩
      rw [hX] at k2 hlo
      have H2 : Hid (wr.ownsRow (w.heap.size + 1) 3 1 u6 l.length (intsC l) ∧ Below w.heap.size w wr ∧ wr.heap[w.heap.size]? = some (.cells (arrX R) 44 (0, 0)) ∧ l.length = i ∧ w.heap.size + 2 ≤ wr.heap.size ∧ R.n - i = r + 1) := ⟨hown, hB, hbx, hl, hs2, hr⟩
      clear hh hown hB hbx hl hrg h10 hon hA hLi hcl hX hkp hSg hg hK hd hr hs2
      by_cases hx2 : X.2 = 0
      · rw [if_pos hx2] at hlo
        have HLO : Hid (kdsF F f (i + 1) r (l ++ [X.1]) = V) := hlo
        rw [hx2] at k2
        clear hlo hx2
        go_wp2_with (first | (refine wpList_load_mid rfl 44 (.tmp 28) rfl g (o + i * 10) rfl A.toList _ HI.out.2 Tryz.underlying44 rfl HI.out.1 ?_; simp only [Act.put, List.setIfInBounds_toArray, List.set_cons_zero, List.set_cons_succ, Array.toArray_toList]) | fail)
        refine k2.mono ?_
        rintro q w3 ⟨rfl, hb3⟩
        have o3 := own_laterN H2.out.1 hb3
        have s3 := hb3.size
        have HB3 : Hid (Below w.heap.size w w3 ∧ w3.heap[w.heap.size]? = some (.cells (arrX R) 44 (0, 0)) ∧ w.heap.size + 2 ≤ w3.heap.size) := ⟨H2.out.2.1.trans (hb3.mono H2.out.2.1.size), (hb3.block _ (by have := H2.out.2.2.2.2.1; omega)).trans H2.out.2.2.1, by have := H2.out.2.2.2.2.1; omega⟩
        have hll := H2.out.2.2.2.1
        have hs3 := HB3.out.2.2
        clear k2 hb3 x8 HI
        go_wp2_with (at_builtin; refine wpList_append_own_at _ rfl _ _ 60 rfl (w.heap.size + 1) 3 i0 (.int .i64 0) 1 8 Tryz.underlying60 hi0 hz0 hz1 hz2 rfl (by decide) _ _ _ rfl (o3.alloc _) ⟨w3.heap.size, 0, none⟩ 1 1 [.int .i64 X.1] rfl rfl ?c1 ?c2 ?c3 ?c4 ?c5 ?_)
        case c1 => exact World.news_of_block (heap_alloc_new w3 _)
        case c2 => exact fun u hu => by rw [List.mem_singleton] at hu; rw [hu]; rfl
        case c3 => unfold maxLen; omega
        case c4 => omega
        case c5 => simp; omega
        intro v' w5 hown5 hgr5 _ hat5
        have HB5 : Hid (w5.ownsRow (w.heap.size + 1) 3 1 v' (l ++ [X.1]).length (intsC (l ++ [X.1])) ∧ Below w.heap.size w w5 ∧ w5.heap[w.heap.size]? = some (.cells (arrX R) 44 (0, 0)) ∧ w.heap.size + 2 ≤ w5.heap.size) := by
          refine ⟨?_, (HB3.out.1.alloc (by omega) _).grown hgr5 (by simp; omega) (fun k hk => by have := (o3.lt k hk).1; omega), ?_, ?_⟩
          · have e1 : (l ++ [X.1]).length = l.length + 1 := by simp
            have e2 : intsC (l ++ [X.1]) = intsC l ++ [.int .i64 X.1] := by simp [intsC]
            rw [e1, e2, hll]
            exact hown5
          · refine (hgr5.block _ (by simp; omega) (fun e => by have := (o3.lt _ e.symm).1; omega)).trans ?_
            rw [Below.heap_alloc _ _ _ (by omega)]
            exact HB3.out.2.1
          · have := hgr5.size
            simp at this
            omega
        clear o3 hown5 hgr5 hat5
        go_wp2_with fail
        go_roundw
        case rel =>
          refine ⟨i + 1, l ++ [X.1], by omega, by go_num, ?_⟩
          have er : R.n - (i + 1) = r := by have := H2.out.2.2.2.2.2; omega
          have hh : (l ++ [X.1]).length = i + 1 ∧ kdsF F f (i + 1) (R.n - (i + 1)) (l ++ [X.1]) = V ∧ w5.ownsRow (w.heap.size + 1) 3 1 v' (l ++ [X.1]).length (intsC (l ++ [X.1])) ∧ Below w.heap.size w w5 ∧ w5.heap[w.heap.size]? = some (.cells (arrX R) 44 (0, 0)) ∧ w.heap.size + 2 ≤ w5.heap.size := ⟨by simp; omega, by rw [er]; exact HLO.out, HB5.out.1, HB5.out.2.1, HB5.out.2.2.1, HB5.out.2.2.2⟩
          exact hh
        case measure => simp [intOf]; omega
      · rw [if_neg hx2] at hlo
        have hZ : Z = (0, X.2) := by
          rw [← HV.out.2.1, ← hlo]
          unfold rK
          rw [if_neg hx2]
        subst hZ
        clear hlo
        go_wp2_with (first | (refine wpList_load_mid rfl 44 (.tmp 28) rfl g (o + i * 10) rfl A.toList _ HI.out.2 Tryz.underlying44 rfl HI.out.1 ?_; simp only [Act.put, List.setIfInBounds_toArray, List.set_cons_zero, List.set_cons_succ, Array.toArray_toList]) | fail)
        refine k2.mono ?_
        rintro q w3 ⟨rfl, hb3⟩
        have HB3 : Hid (Below w.heap.size w w3) := H2.out.2.1.trans (hb3.mono H2.out.2.1.size)
        clear k2 hb3 x8
        go_wp2
        go_ret2
        exact ⟨rfl, HB3.out⟩
    · obtain rfl : i = R.n := by omega
      have hlt' : ¬ ((R.n : Int) < (R.n : Int)) := by omega
      have hV : V = (l, 0) := by
        rw [← hlo, Nat.sub_self]
        rfl
      subst hV
      have HZ : Hid ((nmbF) l = Z ∧ (∀ x ∈ l, -1 ≤ x) ∧ l.length ≤ 1000 ∧ Below w.heap.size w wr) := by
        have hge : ∀ x ∈ l, -1 ≤ x := by
          have h1 := kdsF_ge HV.out.2.2.ge f R.n 0 [] (fun x hx => by simp at hx)
          rw [HV.out.1] at h1
          exact h1
        exact ⟨HV.out.2.1, hge, by rw [hl]; exact hn, hB⟩
      obtain ⟨q, k, hu6, hKn⟩ := Kn.own hown
      subst hu6
      have HK : Hid (Kn wr q k l) := hKn
      have hcapk := hKn.cap
      have hbx' := hbx
      clear hh hown hKn hlo hl hi hlt HV hs2
      have rb := hbx'
      clear hbx' hbx
      have y0 : wr.cell? ⟨w.heap.size, 0, none⟩ = some (.int .i64 6) := (cell_of_row wr _ 0 _ _ _ rb).trans (by rw [← HKK.out]; rfl)
      have y1 : wr.cell? ⟨w.heap.size, 1, none⟩ = some (.string ⟨#[43]⟩) := (cell_of_row wr _ 1 _ _ _ rb).trans (by
        have e : R.s = ⟨#[43]⟩ := by
          have h1 := congrArg List.toArray HSS.out
          simp only [Array.toArray_toList] at h1
          cases hR : R.s with
          | mk a => rw [hR] at h1; simp only at h1; rw [h1]
        rw [← e]; rfl)
      clear rb
      go_wp2_with fail
      go_loopw [14, 15] (fun c14 c15 wq => ∃ (i : Nat) (o : Int), i ≤ l.length ∧ c15 = .int .i64 (i : Int) ∧ c14 = .int .i64 o ∧ Hid ((l.take i).all (tkI 2) = true ∧ o = if (l.take i).all (· == 2) then 2 else -1) ∧ wq = wr) (fun _ c15 _ => l.length - (intOf c15).toNat)
      case atStart => exact ⟨0, 2, Nat.zero_le _, rfl, rfl, (show (l.take 0).all (tkI 2) = true ∧ (2 : Int) = if (l.take 0).all (· == 2) then 2 else -1 from ⟨rfl, rfl⟩), rfl⟩
      case round =>
        obtain ⟨i, o, hi, rfl, rfl, ha, hwq⟩ := hrel
        obtain rfl := hwq
        have hl3 := HZ.out.2.2.1
        by_cases hlt : i < l.length
        · have hlt2 : (i : Int) < (l.length : Int) := by omega
          obtain ⟨x, hx⟩ : ∃ x, l[i]? = some x := ⟨l[i], List.getElem?_eq_getElem hlt⟩
          have hxg := HZ.out.2.1 x (List.mem_of_getElem? hx)
          obtain ⟨g, rfl, c1⟩ := HK.out.less hx
          by_cases h2 : x = 2
          · have hm2 : Hid ((l.take (i + 1)).all (tkI 2) = true ∧ o = if (l.take (i + 1)).all (· == 2) then 2 else -1) := by
              have h3 : (l.take (i + 1)).all (tkI 2) = true := by rw [all_more hx, ha.out.1, h2]; rfl
              have h4 : o = if (l.take (i + 1)).all (· == 2) then 2 else -1 := by
                rw [all_more hx, ha.out.2, h2]
                simp
              exact ⟨h3, h4⟩
            subst h2
            clear hx ha
            go_wp2_with fail
            go_roundw
            case rel => exact ⟨i + 1, o, by omega, by go_num, rfl, hm2, by first | rfl | trivial⟩
            case measure => simp [intOf]; omega
          · have h2b : (x == 2) = false := by simpa using h2
            by_cases h0 : 0 < x
            · have hp : tkI 2 x = false := by
                unfold tkI
                have e0 : (x == 0) = false := by simpa using (by omega : ¬ x = 0)
                have e1 : (x == -1) = false := by simpa using (by omega : ¬ x = -1)
                rw [h2b, e0, e1]
                rfl
              have hnn := not_all hx hp
              clear hp
              have hZ : Z = (0, 131) := by
                rw [← HZ.out.1]
                unfold nmbF
                rw [hnn]
                rfl
              subst hZ
              have HB : Hid (Below w.heap.size w wr) := HZ.out.2.2.2
              clear hx HZ HK
              go_wp2
              go_ret2
              exact ⟨rfl, HB.out⟩
            · have hp : tkI 2 x = true := by
                unfold tkI
                rcases (by omega : x = 0 ∨ x = -1) with e | e <;> rw [e] <;> rfl
              have hm2 : Hid ((l.take (i + 1)).all (tkI 2) = true ∧ (-1 : Int) = if (l.take (i + 1)).all (· == 2) then 2 else -1) := by
                have h3 : (l.take (i + 1)).all (tkI 2) = true := by rw [all_more hx, ha.out.1, hp]; rfl
                have h4 : (-1 : Int) = if (l.take (i + 1)).all (· == 2) then 2 else -1 := by
                  rw [all_more hx, h2b, Bool.and_false]
                  rfl
                exact ⟨h3, h4⟩
              clear hx hp ha
              go_wp2_with fail
              go_roundw
              case rel => exact ⟨i + 1, -1, by omega, by go_num, rfl, hm2, by first | rfl | trivial⟩
              case measure => simp [intOf]; omega
        · obtain rfl : i = l.length := by omega
          have hlt2 : ¬ ((l.length : Int) < (l.length : Int)) := by omega
          have hZ : Z = (o, 0) := by
            rw [← HZ.out.1]
            unfold nmbF
            have h := ha.out
            rw [List.take_of_length_le (Nat.le_refl _)] at h
            rw [h.1, h.2]
            rfl
          subst hZ
          have HB : Hid (Below w.heap.size w wr) := HZ.out.2.2.2
          clear HZ HK ha
          go_wp2
          go_ret2
          exact ⟨rfl, HB.out⟩
end Go.Proofs.YtcniebkehekliaaGreatDoor
namespace Go.Proofs.YtcniebkehekliaaGreatDoor
open Go.RowKit Go.Shelf
attribute [local go_sem] Oper.semAt_some
set_option maxRecDepth 100000 in
set_option maxHeartbeats 8000000 in
theorem rkind_ssub {w : World} {S : Nat → Prop} {d : Nat} {f : Nat → Et} (b : Bool) {F : Et → Int × Int} {R : XR} (H : Rp w S d f b F R) (hk : R.k = 6) (hs : R.s.data.toList = [45]) :
    Calls Tryz.prog 9 #[rowX R, .bool b] w fun r w' => r = .returned (.tuple #[.int .i64 (rK (nmbF) (kdsF F f 0 R.n [])).1, .int .i64 (rK (nmbF) (kdsF F f 0 R.n [])).2]) ∧ Below w.heap.size w w' := by
  have hn := H.few.1
  have hm := H.few.2
  have hmx : maxLen = 9223372036854775807 := rfl
  obtain ⟨V, hV⟩ : ∃ V, kdsF F f 0 R.n [] = V := ⟨_, rfl⟩
  rw [hV]
  obtain ⟨Z, hZ⟩ : ∃ Z, rK (nmbF) V = Z := ⟨_, rfl⟩
  rw [hZ]
  have HV : Hid (kdsF F f 0 R.n [] = V ∧ rK (nmbF) V = Z ∧ Rp w S d f b F R) := ⟨hV, hZ, H⟩
  have HKK : Hid (R.k = 6) := hk
  clear hk
  have HSS : Hid (R.s.data.toList = [45]) := hs
  clear hs
  obtain ⟨w1, hw1⟩ : ∃ w1, (w.alloc (.cells #[.int .i64 R.k, .string R.s, .int .i64 R.vk, .bool R.vb, .int .i64 R.vn, .string R.vs, .slice none 0 0, .slice none 0 0, .slice R.kp R.n R.kc, .slice R.np R.m R.nc] 44)).alloc (.cells #[] 3) = w1 := ⟨_, rfl⟩
  have H1 : Hid (Below w.heap.size w w1 ∧ w1.heap.size = w.heap.size + 2 ∧ w1.heap[w.heap.size]? = some (.cells (arrX R) 44 (0, 0)) ∧ w1.ownsRow (w.heap.size + 1) 3 1 (.slice (some ⟨w.heap.size + 1, 0, none⟩) 0 0) 0 []) := by
    have hb1 : Below w.heap.size w w1 := by rw [← hw1]; exact ((Below.refl _ w).alloc (Nat.le_refl _) _).alloc (by simp) _
    have s1 : w1.heap.size = w.heap.size + 2 := by rw [← hw1]; simp
    have r0 : w1.heap[w.heap.size]? = some (.cells (arrX R) 44 (0, 0)) := by
      rw [← hw1, Below.heap_alloc _ _ _ (by simp)]; exact heap_alloc_new _ _
    have r1 : w1.heap[w.heap.size + 1]? = some (.cells #[] 3 (0, 0)) := by
      rw [← hw1]
      have e := heap_alloc_new (w.alloc (.cells #[.int .i64 R.k, .string R.s, .int .i64 R.vk, .bool R.vb, .int .i64 R.vn, .string R.vs, .slice none 0 0, .slice none 0 0, .slice R.kp R.n R.kc, .slice R.np R.m R.nc] 44)) (.cells #[] 3)
      have e2 : (w.alloc (.cells #[.int .i64 R.k, .string R.s, .int .i64 R.vk, .bool R.vb, .int .i64 R.vn, .string R.vs, .slice none 0 0, .slice none 0 0, .slice R.kp R.n R.kc, .slice R.np R.m R.nc] 44)).heap.size = w.heap.size + 1 := by simp
      rw [e2] at e
      exact e
    exact ⟨hb1, s1, r0, rfl, .inr ⟨w.heap.size + 1, 0, #[], rfl, Nat.le_refl _, r1, Nat.le_refl _, Nat.zero_le _, rfl, rfl⟩⟩
  obtain ⟨i0, hi0, hz0, hz1, hz2⟩ := info_parts info3
  clear hV hZ H
  unfold rowX
  go_enter Tryz.func9, Tryz.ntmps9
  go_wp2_with fail
  clear hw1
  go_loopw [6, 7] (fun c6 c7 wr => ∃ (i : Nat) (l : List Int), i ≤ R.n ∧ c7 = .int .i64 (i : Int) ∧ Hid (l.length = i ∧ kdsF F f i (R.n - i) l = V ∧ wr.ownsRow (w.heap.size + 1) 3 1 c6 l.length (intsC l) ∧ Below w.heap.size w wr ∧ wr.heap[w.heap.size]? = some (.cells (arrX R) 44 (0, 0)) ∧ w.heap.size + 2 ≤ wr.heap.size)) (fun _ c7 _ => R.n - (intOf c7).toNat)
  case atStart =>
    refine ⟨0, [], Nat.zero_le _, rfl, ?_⟩
    have hh : ([] : List Int).length = 0 ∧ kdsF F f 0 (R.n - 0) [] = V ∧ w1.ownsRow (w.heap.size + 1) 3 1 (.slice (some ⟨w.heap.size + 1, 0, none⟩) 0 0) ([] : List Int).length (intsC []) ∧ Below w.heap.size w w1 ∧ w1.heap[w.heap.size]? = some (.cells (arrX R) 44 (0, 0)) ∧ w.heap.size + 2 ≤ w1.heap.size := ⟨rfl, HV.out.1, H1.out.2.2.2, H1.out.1, H1.out.2.2.1, Nat.le_of_eq H1.out.2.1.symm⟩
    exact hh
  case round =>
    clear H1
    obtain ⟨i, l, hi, rfl, hh⟩ := hrel
    obtain ⟨hl, hlo, hown, hB, hbx, hs2⟩ := hh.out
    have x8 : wr.cell? ⟨w.heap.size, 8, none⟩ = some (.slice R.kp R.n R.kc) := cell_of_row wr _ 8 _ _ _ hbx
    by_cases hlt : i < R.n
    · have hlt' : (i : Int) < (R.n : Int) := by omega
      obtain ⟨Kc, hK, hd⟩ := HV.out.2.2.kids
      have hcap := hK.cap
      obtain ⟨g, o, hkp, hSg, hg, hcl⟩ := hK.lies (by omega)
      have hLi := hd i hlt
      obtain ⟨A, hA, h10, hon⟩ := hLi.agg
      have hrg : wr.rangeAt g (o + i * 10) A.toList := fun j u hu => by
        have hj : j < 10 := by have := (List.getElem?_eq_some_iff.1 hu).1; simpa [h10] using this
        have h1 := hcl i hlt j hj
        rw [← cell_later hB hg] at h1
        rw [h1]
        unfold row10 at hA
        injection hA with hA2
        rw [← hA2] at hu
        rcases (by omega : j = 0 ∨ j = 1 ∨ j = 2 ∨ j = 3 ∨ j = 4 ∨ j = 5 ∨ j = 6 ∨ j = 7 ∨ j = 8 ∨ j = 9) with rfl | rfl | rfl | rfl | rfl | rfl | rfl | rfl | rfl | rfl <;> simpa using hu
      rw [hA] at hLi
      have k2 := HV.out.2.2.calls wr i (.agg A) hlt (hLi.since (Since.below hB))
      have HI : Hid ((Tryz.prog.info? 44).map (·.size) = some A.toList.length ∧ wr.rangeAt g (o + i * 10) A.toList) := ⟨by rw [Array.length_toList]; exact i44 h10, hrg⟩
      rw [hkp] at x8
      obtain ⟨r, hr⟩ : ∃ r, R.n - i = r + 1 := ⟨R.n - i - 1, by omega⟩
      rw [hr] at hlo
      unfold kdsF at hlo
      obtain ⟨X, hX⟩ : ∃ X, F (f i) = X := ⟨_, rfl⟩
      rw [hX] at k2 hlo
      have H2 : Hid (wr.ownsRow (w.heap.size + 1) 3 1 u6 l.length (intsC l) ∧ Below w.heap.size w wr ∧ wr.heap[w.heap.size]? = some (.cells (arrX R) 44 (0, 0)) ∧ l.length = i ∧ w.heap.size + 2 ≤ wr.heap.size ∧ R.n - i = r + 1) := ⟨hown, hB, hbx, hl, hs2, hr⟩
      clear hh hown hB hbx hl hrg h10 hon hA hLi hcl hX hkp hSg hg hK hd hr hs2
      by_cases hx2 : X.2 = 0
      · rw [if_pos hx2] at hlo
        have HLO : Hid (kdsF F f (i + 1) r (l ++ [X.1]) = V) := hlo
        rw [hx2] at k2
        clear hlo hx2
        go_wp2_with (first | (refine wpList_load_mid rfl 44 (.tmp 28) rfl g (o + i * 10) rfl A.toList _ HI.out.2 Tryz.underlying44 rfl HI.out.1 ?_; simp only [Act.put, List.setIfInBounds_toArray, List.set_cons_zero, List.set_cons_succ, Array.toArray_toList]) | fail)
        refine k2.mono ?_
        rintro q w3 ⟨rfl, hb3⟩
        have o3 := own_laterN H2.out.1 hb3
        have s3 := hb3.size
        have HB3 : Hid (Below w.heap.size w w3 ∧ w3.heap[w.heap.size]? = some (.cells (arrX R) 44 (0, 0)) ∧ w.heap.size + 2 ≤ w3.heap.size) := ⟨H2.out.2.1.trans (hb3.mono H2.out.2.1.size), (hb3.block _ (by have := H2.out.2.2.2.2.1; omega)).trans H2.out.2.2.1, by have := H2.out.2.2.2.2.1; omega⟩
        have hll := H2.out.2.2.2.1
        have hs3 := HB3.out.2.2
        clear k2 hb3 x8 HI
        go_wp2_with (at_builtin; refine wpList_append_own_at _ rfl _ _ 60 rfl (w.heap.size + 1) 3 i0 (.int .i64 0) 1 8 Tryz.underlying60 hi0 hz0 hz1 hz2 rfl (by decide) _ _ _ rfl (o3.alloc _) ⟨w3.heap.size, 0, none⟩ 1 1 [.int .i64 X.1] rfl rfl ?c1 ?c2 ?c3 ?c4 ?c5 ?_)
        case c1 => exact World.news_of_block (heap_alloc_new w3 _)
        case c2 => exact fun u hu => by rw [List.mem_singleton] at hu; rw [hu]; rfl
        case c3 => unfold maxLen; omega
        case c4 => omega
        case c5 => simp; omega
        intro v' w5 hown5 hgr5 _ hat5
        have HB5 : Hid (w5.ownsRow (w.heap.size + 1) 3 1 v' (l ++ [X.1]).length (intsC (l ++ [X.1])) ∧ Below w.heap.size w w5 ∧ w5.heap[w.heap.size]? = some (.cells (arrX R) 44 (0, 0)) ∧ w.heap.size + 2 ≤ w5.heap.size) := by
          refine ⟨?_, (HB3.out.1.alloc (by omega) _).grown hgr5 (by simp; omega) (fun k hk => by have := (o3.lt k hk).1; omega), ?_, ?_⟩
          · have e1 : (l ++ [X.1]).length = l.length + 1 := by simp
            have e2 : intsC (l ++ [X.1]) = intsC l ++ [.int .i64 X.1] := by simp [intsC]
            rw [e1, e2, hll]
            exact hown5
          · refine (hgr5.block _ (by simp; omega) (fun e => by have := (o3.lt _ e.symm).1; omega)).trans ?_
            rw [Below.heap_alloc _ _ _ (by omega)]
            exact HB3.out.2.1
          · have := hgr5.size
            simp at this
            omega
        clear o3 hown5 hgr5 hat5
        go_wp2_with fail
        go_roundw
        case rel =>
          refine ⟨i + 1, l ++ [X.1], by omega, by go_num, ?_⟩
          have er : R.n - (i + 1) = r := by have := H2.out.2.2.2.2.2; omega
          have hh : (l ++ [X.1]).length = i + 1 ∧ kdsF F f (i + 1) (R.n - (i + 1)) (l ++ [X.1]) = V ∧ w5.ownsRow (w.heap.size + 1) 3 1 v' (l ++ [X.1]).length (intsC (l ++ [X.1])) ∧ Below w.heap.size w w5 ∧ w5.heap[w.heap.size]? = some (.cells (arrX R) 44 (0, 0)) ∧ w.heap.size + 2 ≤ w5.heap.size := ⟨by simp; omega, by rw [er]; exact HLO.out, HB5.out.1, HB5.out.2.1, HB5.out.2.2.1, HB5.out.2.2.2⟩
          exact hh
        case measure => simp [intOf]; omega
      · rw [if_neg hx2] at hlo
        have hZ : Z = (0, X.2) := by
          rw [← HV.out.2.1, ← hlo]
          unfold rK
          rw [if_neg hx2]
        subst hZ
        clear hlo
        go_wp2_with (first | (refine wpList_load_mid rfl 44 (.tmp 28) rfl g (o + i * 10) rfl A.toList _ HI.out.2 Tryz.underlying44 rfl HI.out.1 ?_; simp only [Act.put, List.setIfInBounds_toArray, List.set_cons_zero, List.set_cons_succ, Array.toArray_toList]) | fail)
        refine k2.mono ?_
        rintro q w3 ⟨rfl, hb3⟩
        have HB3 : Hid (Below w.heap.size w w3) := H2.out.2.1.trans (hb3.mono H2.out.2.1.size)
        clear k2 hb3 x8
        go_wp2
        go_ret2
        exact ⟨rfl, HB3.out⟩
    · obtain rfl : i = R.n := by omega
      have hlt' : ¬ ((R.n : Int) < (R.n : Int)) := by omega
      have hV : V = (l, 0) := by
        rw [← hlo, Nat.sub_self]
        rfl
      subst hV
      have HZ : Hid ((nmbF) l = Z ∧ (∀ x ∈ l, -1 ≤ x) ∧ l.length ≤ 1000 ∧ Below w.heap.size w wr) := by
        have hge : ∀ x ∈ l, -1 ≤ x := by
          have h1 := kdsF_ge HV.out.2.2.ge f R.n 0 [] (fun x hx => by simp at hx)
          rw [HV.out.1] at h1
          exact h1
        exact ⟨HV.out.2.1, hge, by rw [hl]; exact hn, hB⟩
      obtain ⟨q, k, hu6, hKn⟩ := Kn.own hown
      subst hu6
      have HK : Hid (Kn wr q k l) := hKn
      have hcapk := hKn.cap
      have hbx' := hbx
      clear hh hown hKn hlo hl hi hlt HV hs2
      have rb := hbx'
      clear hbx' hbx
      have y0 : wr.cell? ⟨w.heap.size, 0, none⟩ = some (.int .i64 6) := (cell_of_row wr _ 0 _ _ _ rb).trans (by rw [← HKK.out]; rfl)
      have y1 : wr.cell? ⟨w.heap.size, 1, none⟩ = some (.string ⟨#[45]⟩) := (cell_of_row wr _ 1 _ _ _ rb).trans (by
        have e : R.s = ⟨#[45]⟩ := by
          have h1 := congrArg List.toArray HSS.out
          simp only [Array.toArray_toList] at h1
          cases hR : R.s with
          | mk a => rw [hR] at h1; simp only at h1; rw [h1]
        rw [← e]; rfl)
      clear rb
      go_wp2_with fail
      go_loopw [14, 15] (fun c14 c15 wq => ∃ (i : Nat) (o : Int), i ≤ l.length ∧ c15 = .int .i64 (i : Int) ∧ c14 = .int .i64 o ∧ Hid ((l.take i).all (tkI 2) = true ∧ o = if (l.take i).all (· == 2) then 2 else -1) ∧ wq = wr) (fun _ c15 _ => l.length - (intOf c15).toNat)
      case atStart => exact ⟨0, 2, Nat.zero_le _, rfl, rfl, (show (l.take 0).all (tkI 2) = true ∧ (2 : Int) = if (l.take 0).all (· == 2) then 2 else -1 from ⟨rfl, rfl⟩), rfl⟩
      case round =>
        obtain ⟨i, o, hi, rfl, rfl, ha, hwq⟩ := hrel
        obtain rfl := hwq
        have hl3 := HZ.out.2.2.1
        by_cases hlt : i < l.length
        · have hlt2 : (i : Int) < (l.length : Int) := by omega
          obtain ⟨x, hx⟩ : ∃ x, l[i]? = some x := ⟨l[i], List.getElem?_eq_getElem hlt⟩
          have hxg := HZ.out.2.1 x (List.mem_of_getElem? hx)
          obtain ⟨g, rfl, c1⟩ := HK.out.less hx
          by_cases h2 : x = 2
          · have hm2 : Hid ((l.take (i + 1)).all (tkI 2) = true ∧ o = if (l.take (i + 1)).all (· == 2) then 2 else -1) := by
              have h3 : (l.take (i + 1)).all (tkI 2) = true := by rw [all_more hx, ha.out.1, h2]; rfl
              have h4 : o = if (l.take (i + 1)).all (· == 2) then 2 else -1 := by
                rw [all_more hx, ha.out.2, h2]
                simp
              exact ⟨h3, h4⟩
            subst h2
            clear hx ha
            go_wp2_with fail
            go_roundw
            case rel => exact ⟨i + 1, o, by omega, by go_num, rfl, hm2, by first | rfl | trivial⟩
            case measure => simp [intOf]; omega
          · have h2b : (x == 2) = false := by simpa using h2
            by_cases h0 : 0 < x
            · have hp : tkI 2 x = false := by
                unfold tkI
                have e0 : (x == 0) = false := by simpa using (by omega : ¬ x = 0)
                have e1 : (x == -1) = false := by simpa using (by omega : ¬ x = -1)
                rw [h2b, e0, e1]
                rfl
              have hnn := not_all hx hp
              clear hp
              have hZ : Z = (0, 131) := by
                rw [← HZ.out.1]
                unfold nmbF
                rw [hnn]
                rfl
              subst hZ
              have HB : Hid (Below w.heap.size w wr) := HZ.out.2.2.2
              clear hx HZ HK
              go_wp2
              go_ret2
              exact ⟨rfl, HB.out⟩
            · have hp : tkI 2 x = true := by
                unfold tkI
                rcases (by omega : x = 0 ∨ x = -1) with e | e <;> rw [e] <;> rfl
              have hm2 : Hid ((l.take (i + 1)).all (tkI 2) = true ∧ (-1 : Int) = if (l.take (i + 1)).all (· == 2) then 2 else -1) := by
                have h3 : (l.take (i + 1)).all (tkI 2) = true := by rw [all_more hx, ha.out.1, hp]; rfl
                have h4 : (-1 : Int) = if (l.take (i + 1)).all (· == 2) then 2 else -1 := by
                  rw [all_more hx, h2b, Bool.and_false]
                  rfl
                exact ⟨h3, h4⟩
              clear hx hp ha
              go_wp2_with fail
              go_roundw
              case rel => exact ⟨i + 1, -1, by omega, by go_num, rfl, hm2, by first | rfl | trivial⟩
              case measure => simp [intOf]; omega
        · obtain rfl : i = l.length := by omega
          have hlt2 : ¬ ((l.length : Int) < (l.length : Int)) := by omega
          have hZ : Z = (o, 0) := by
            rw [← HZ.out.1]
            unfold nmbF
            have h := ha.out
            rw [List.take_of_length_le (Nat.le_refl _)] at h
            rw [h.1, h.2]
            rfl
          subst hZ
          have HB : Hid (Below w.heap.size w wr) := HZ.out.2.2.2
          clear HZ HK ha
          go_wp2
          go_ret2
          exact ⟨rfl, HB.out⟩
end Go.Proofs.YtcniebkehekliaaGreatDoor
namespace Go.Proofs.YtcniebkehekliaaGreatDoor
open Go.RowKit Go.Shelf
attribute [local go_sem] Oper.semAt_some
set_option maxRecDepth 100000 in
set_option maxHeartbeats 8000000 in
theorem rkind_smul {w : World} {S : Nat → Prop} {d : Nat} {f : Nat → Et} (b : Bool) {F : Et → Int × Int} {R : XR} (H : Rp w S d f b F R) (hk : R.k = 6) (hs : R.s.data.toList = [42]) :
    Calls Tryz.prog 9 #[rowX R, .bool b] w fun r w' => r = .returned (.tuple #[.int .i64 (rK (nmbF) (kdsF F f 0 R.n [])).1, .int .i64 (rK (nmbF) (kdsF F f 0 R.n [])).2]) ∧ Below w.heap.size w w' := by
  have hn := H.few.1
  have hm := H.few.2
  have hmx : maxLen = 9223372036854775807 := rfl
  obtain ⟨V, hV⟩ : ∃ V, kdsF F f 0 R.n [] = V := ⟨_, rfl⟩
  rw [hV]
  obtain ⟨Z, hZ⟩ : ∃ Z, rK (nmbF) V = Z := ⟨_, rfl⟩
  rw [hZ]
  have HV : Hid (kdsF F f 0 R.n [] = V ∧ rK (nmbF) V = Z ∧ Rp w S d f b F R) := ⟨hV, hZ, H⟩
  have HKK : Hid (R.k = 6) := hk
  clear hk
  have HSS : Hid (R.s.data.toList = [42]) := hs
  clear hs
  obtain ⟨w1, hw1⟩ : ∃ w1, (w.alloc (.cells #[.int .i64 R.k, .string R.s, .int .i64 R.vk, .bool R.vb, .int .i64 R.vn, .string R.vs, .slice none 0 0, .slice none 0 0, .slice R.kp R.n R.kc, .slice R.np R.m R.nc] 44)).alloc (.cells #[] 3) = w1 := ⟨_, rfl⟩
  have H1 : Hid (Below w.heap.size w w1 ∧ w1.heap.size = w.heap.size + 2 ∧ w1.heap[w.heap.size]? = some (.cells (arrX R) 44 (0, 0)) ∧ w1.ownsRow (w.heap.size + 1) 3 1 (.slice (some ⟨w.heap.size + 1, 0, none⟩) 0 0) 0 []) := by
    have hb1 : Below w.heap.size w w1 := by rw [← hw1]; exact ((Below.refl _ w).alloc (Nat.le_refl _) _).alloc (by simp) _
    have s1 : w1.heap.size = w.heap.size + 2 := by rw [← hw1]; simp
    have r0 : w1.heap[w.heap.size]? = some (.cells (arrX R) 44 (0, 0)) := by
      rw [← hw1, Below.heap_alloc _ _ _ (by simp)]; exact heap_alloc_new _ _
    have r1 : w1.heap[w.heap.size + 1]? = some (.cells #[] 3 (0, 0)) := by
      rw [← hw1]
      have e := heap_alloc_new (w.alloc (.cells #[.int .i64 R.k, .string R.s, .int .i64 R.vk, .bool R.vb, .int .i64 R.vn, .string R.vs, .slice none 0 0, .slice none 0 0, .slice R.kp R.n R.kc, .slice R.np R.m R.nc] 44)) (.cells #[] 3)
      have e2 : (w.alloc (.cells #[.int .i64 R.k, .string R.s, .int .i64 R.vk, .bool R.vb, .int .i64 R.vn, .string R.vs, .slice none 0 0, .slice none 0 0, .slice R.kp R.n R.kc, .slice R.np R.m R.nc] 44)).heap.size = w.heap.size + 1 := by simp
      rw [e2] at e
      exact e
    exact ⟨hb1, s1, r0, rfl, .inr ⟨w.heap.size + 1, 0, #[], rfl, Nat.le_refl _, r1, Nat.le_refl _, Nat.zero_le _, rfl, rfl⟩⟩
  obtain ⟨i0, hi0, hz0, hz1, hz2⟩ := info_parts info3
  clear hV hZ H
  unfold rowX
  go_enter Tryz.func9, Tryz.ntmps9
  go_wp2_with fail
  clear hw1
  go_loopw [6, 7] (fun c6 c7 wr => ∃ (i : Nat) (l : List Int), i ≤ R.n ∧ c7 = .int .i64 (i : Int) ∧ Hid (l.length = i ∧ kdsF F f i (R.n - i) l = V ∧ wr.ownsRow (w.heap.size + 1) 3 1 c6 l.length (intsC l) ∧ Below w.heap.size w wr ∧ wr.heap[w.heap.size]? = some (.cells (arrX R) 44 (0, 0)) ∧ w.heap.size + 2 ≤ wr.heap.size)) (fun _ c7 _ => R.n - (intOf c7).toNat)
  case atStart =>
    refine ⟨0, [], Nat.zero_le _, rfl, ?_⟩
    have hh : ([] : List Int).length = 0 ∧ kdsF F f 0 (R.n - 0) [] = V ∧ w1.ownsRow (w.heap.size + 1) 3 1 (.slice (some ⟨w.heap.size + 1, 0, none⟩) 0 0) ([] : List Int).length (intsC []) ∧ Below w.heap.size w w1 ∧ w1.heap[w.heap.size]? = some (.cells (arrX R) 44 (0, 0)) ∧ w.heap.size + 2 ≤ w1.heap.size := ⟨rfl, HV.out.1, H1.out.2.2.2, H1.out.1, H1.out.2.2.1, Nat.le_of_eq H1.out.2.1.symm⟩
    exact hh
  case round =>
    clear H1
    obtain ⟨i, l, hi, rfl, hh⟩ := hrel
    obtain ⟨hl, hlo, hown, hB, hbx, hs2⟩ := hh.out
    have x8 : wr.cell? ⟨w.heap.size, 8, none⟩ = some (.slice R.kp R.n R.kc) := cell_of_row wr _ 8 _ _ _ hbx
    by_cases hlt : i < R.n
    · have hlt' : (i : Int) < (R.n : Int) := by omega
      obtain ⟨Kc, hK, hd⟩ := HV.out.2.2.kids
      have hcap := hK.cap
      obtain ⟨g, o, hkp, hSg, hg, hcl⟩ := hK.lies (by omega)
      have hLi := hd i hlt
      obtain ⟨A, hA, h10, hon⟩ := hLi.agg
      have hrg : wr.rangeAt g (o + i * 10) A.toList := fun j u hu => by
        have hj : j < 10 := by have := (List.getElem?_eq_some_iff.1 hu).1; simpa [h10] using this
        have h1 := hcl i hlt j hj
        rw [← cell_later hB hg] at h1
        rw [h1]
        unfold row10 at hA
        injection hA with hA2
        rw [← hA2] at hu
        rcases (by omega : j = 0 ∨ j = 1 ∨ j = 2 ∨ j = 3 ∨ j = 4 ∨ j = 5 ∨ j = 6 ∨ j = 7 ∨ j = 8 ∨ j = 9) with rfl | rfl | rfl | rfl | rfl | rfl | rfl | rfl | rfl | rfl <;> simpa using hu
      rw [hA] at hLi
      have k2 := HV.out.2.2.calls wr i (.agg A) hlt (hLi.since (Since.below hB))
      have HI : Hid ((Tryz.prog.info? 44).map (·.size) = some A.toList.length ∧ wr.rangeAt g (o + i * 10) A.toList) := ⟨by rw [Array.length_toList]; exact i44 h10, hrg⟩
      rw [hkp] at x8
      obtain ⟨r, hr⟩ : ∃ r, R.n - i = r + 1 := ⟨R.n - i - 1, by omega⟩
      rw [hr] at hlo
      unfold kdsF at hlo
      obtain ⟨X, hX⟩ : ∃ X, F (f i) = X := ⟨_, rfl⟩
      rw [hX] at k2 hlo
      have H2 : Hid (wr.ownsRow (w.heap.size + 1) 3 1 u6 l.length (intsC l) ∧ Below w.heap.size w wr ∧ wr.heap[w.heap.size]? = some (.cells (arrX R) 44 (0, 0)) ∧ l.length = i ∧ w.heap.size + 2 ≤ wr.heap.size ∧ R.n - i = r + 1) := ⟨hown, hB, hbx, hl, hs2, hr⟩
      clear hh hown hB hbx hl hrg h10 hon hA hLi hcl hX hkp hSg hg hK hd hr hs2
      by_cases hx2 : X.2 = 0
      · rw [if_pos hx2] at hlo
        have HLO : Hid (kdsF F f (i + 1) r (l ++ [X.1]) = V) := hlo
        rw [hx2] at k2
        clear hlo hx2
        go_wp2_with (first | (refine wpList_load_mid rfl 44 (.tmp 28) rfl g (o + i * 10) rfl A.toList _ HI.out.2 Tryz.underlying44 rfl HI.out.1 ?_; simp only [Act.put, List.setIfInBounds_toArray, List.set_cons_zero, List.set_cons_succ, Array.toArray_toList]) | fail)
        refine k2.mono ?_
        rintro q w3 ⟨rfl, hb3⟩
        have o3 := own_laterN H2.out.1 hb3
        have s3 := hb3.size
        have HB3 : Hid (Below w.heap.size w w3 ∧ w3.heap[w.heap.size]? = some (.cells (arrX R) 44 (0, 0)) ∧ w.heap.size + 2 ≤ w3.heap.size) := ⟨H2.out.2.1.trans (hb3.mono H2.out.2.1.size), (hb3.block _ (by have := H2.out.2.2.2.2.1; omega)).trans H2.out.2.2.1, by have := H2.out.2.2.2.2.1; omega⟩
        have hll := H2.out.2.2.2.1
        have hs3 := HB3.out.2.2
        clear k2 hb3 x8 HI
        go_wp2_with (at_builtin; refine wpList_append_own_at _ rfl _ _ 60 rfl (w.heap.size + 1) 3 i0 (.int .i64 0) 1 8 Tryz.underlying60 hi0 hz0 hz1 hz2 rfl (by decide) _ _ _ rfl (o3.alloc _) ⟨w3.heap.size, 0, none⟩ 1 1 [.int .i64 X.1] rfl rfl ?c1 ?c2 ?c3 ?c4 ?c5 ?_)
        case c1 => exact World.news_of_block (heap_alloc_new w3 _)
        case c2 => exact fun u hu => by rw [List.mem_singleton] at hu; rw [hu]; rfl
        case c3 => unfold maxLen; omega
        case c4 => omega
        case c5 => simp; omega
        intro v' w5 hown5 hgr5 _ hat5
        have HB5 : Hid (w5.ownsRow (w.heap.size + 1) 3 1 v' (l ++ [X.1]).length (intsC (l ++ [X.1])) ∧ Below w.heap.size w w5 ∧ w5.heap[w.heap.size]? = some (.cells (arrX R) 44 (0, 0)) ∧ w.heap.size + 2 ≤ w5.heap.size) := by
          refine ⟨?_, (HB3.out.1.alloc (by omega) _).grown hgr5 (by simp; omega) (fun k hk => by have := (o3.lt k hk).1; omega), ?_, ?_⟩
          · have e1 : (l ++ [X.1]).length = l.length + 1 := by simp
            have e2 : intsC (l ++ [X.1]) = intsC l ++ [.int .i64 X.1] := by simp [intsC]
            rw [e1, e2, hll]
            exact hown5
          · refine (hgr5.block _ (by simp; omega) (fun e => by have := (o3.lt _ e.symm).1; omega)).trans ?_
            rw [Below.heap_alloc _ _ _ (by omega)]
            exact HB3.out.2.1
          · have := hgr5.size
            simp at this
            omega
        clear o3 hown5 hgr5 hat5
        go_wp2_with fail
        go_roundw
        case rel =>
          refine ⟨i + 1, l ++ [X.1], by omega, by go_num, ?_⟩
          have er : R.n - (i + 1) = r := by have := H2.out.2.2.2.2.2; omega
          have hh : (l ++ [X.1]).length = i + 1 ∧ kdsF F f (i + 1) (R.n - (i + 1)) (l ++ [X.1]) = V ∧ w5.ownsRow (w.heap.size + 1) 3 1 v' (l ++ [X.1]).length (intsC (l ++ [X.1])) ∧ Below w.heap.size w w5 ∧ w5.heap[w.heap.size]? = some (.cells (arrX R) 44 (0, 0)) ∧ w.heap.size + 2 ≤ w5.heap.size := ⟨by simp; omega, by rw [er]; exact HLO.out, HB5.out.1, HB5.out.2.1, HB5.out.2.2.1, HB5.out.2.2.2⟩
          exact hh
        case measure => simp [intOf]; omega
      · rw [if_neg hx2] at hlo
        have hZ : Z = (0, X.2) := by
          rw [← HV.out.2.1, ← hlo]
          unfold rK
          rw [if_neg hx2]
        subst hZ
        clear hlo
        go_wp2_with (first | (refine wpList_load_mid rfl 44 (.tmp 28) rfl g (o + i * 10) rfl A.toList _ HI.out.2 Tryz.underlying44 rfl HI.out.1 ?_; simp only [Act.put, List.setIfInBounds_toArray, List.set_cons_zero, List.set_cons_succ, Array.toArray_toList]) | fail)
        refine k2.mono ?_
        rintro q w3 ⟨rfl, hb3⟩
        have HB3 : Hid (Below w.heap.size w w3) := H2.out.2.1.trans (hb3.mono H2.out.2.1.size)
        clear k2 hb3 x8
        go_wp2
        go_ret2
        exact ⟨rfl, HB3.out⟩
    · obtain rfl : i = R.n := by omega
      have hlt' : ¬ ((R.n : Int) < (R.n : Int)) := by omega
      have hV : V = (l, 0) := by
        rw [← hlo, Nat.sub_self]
        rfl
      subst hV
      have HZ : Hid ((nmbF) l = Z ∧ (∀ x ∈ l, -1 ≤ x) ∧ l.length ≤ 1000 ∧ Below w.heap.size w wr) := by
        have hge : ∀ x ∈ l, -1 ≤ x := by
          have h1 := kdsF_ge HV.out.2.2.ge f R.n 0 [] (fun x hx => by simp at hx)
          rw [HV.out.1] at h1
          exact h1
        exact ⟨HV.out.2.1, hge, by rw [hl]; exact hn, hB⟩
      obtain ⟨q, k, hu6, hKn⟩ := Kn.own hown
      subst hu6
      have HK : Hid (Kn wr q k l) := hKn
      have hcapk := hKn.cap
      have hbx' := hbx
      clear hh hown hKn hlo hl hi hlt HV hs2
      have rb := hbx'
      clear hbx' hbx
      have y0 : wr.cell? ⟨w.heap.size, 0, none⟩ = some (.int .i64 6) := (cell_of_row wr _ 0 _ _ _ rb).trans (by rw [← HKK.out]; rfl)
      have y1 : wr.cell? ⟨w.heap.size, 1, none⟩ = some (.string ⟨#[42]⟩) := (cell_of_row wr _ 1 _ _ _ rb).trans (by
        have e : R.s = ⟨#[42]⟩ := by
          have h1 := congrArg List.toArray HSS.out
          simp only [Array.toArray_toList] at h1
          cases hR : R.s with
          | mk a => rw [hR] at h1; simp only at h1; rw [h1]
        rw [← e]; rfl)
      clear rb
      go_wp2_with fail
      go_loopw [14, 15] (fun c14 c15 wq => ∃ (i : Nat) (o : Int), i ≤ l.length ∧ c15 = .int .i64 (i : Int) ∧ c14 = .int .i64 o ∧ Hid ((l.take i).all (tkI 2) = true ∧ o = if (l.take i).all (· == 2) then 2 else -1) ∧ wq = wr) (fun _ c15 _ => l.length - (intOf c15).toNat)
      case atStart => exact ⟨0, 2, Nat.zero_le _, rfl, rfl, (show (l.take 0).all (tkI 2) = true ∧ (2 : Int) = if (l.take 0).all (· == 2) then 2 else -1 from ⟨rfl, rfl⟩), rfl⟩
      case round =>
        obtain ⟨i, o, hi, rfl, rfl, ha, hwq⟩ := hrel
        obtain rfl := hwq
        have hl3 := HZ.out.2.2.1
        by_cases hlt : i < l.length
        · have hlt2 : (i : Int) < (l.length : Int) := by omega
          obtain ⟨x, hx⟩ : ∃ x, l[i]? = some x := ⟨l[i], List.getElem?_eq_getElem hlt⟩
          have hxg := HZ.out.2.1 x (List.mem_of_getElem? hx)
          obtain ⟨g, rfl, c1⟩ := HK.out.less hx
          by_cases h2 : x = 2
          · have hm2 : Hid ((l.take (i + 1)).all (tkI 2) = true ∧ o = if (l.take (i + 1)).all (· == 2) then 2 else -1) := by
              have h3 : (l.take (i + 1)).all (tkI 2) = true := by rw [all_more hx, ha.out.1, h2]; rfl
              have h4 : o = if (l.take (i + 1)).all (· == 2) then 2 else -1 := by
                rw [all_more hx, ha.out.2, h2]
                simp
              exact ⟨h3, h4⟩
            subst h2
            clear hx ha
            go_wp2_with fail
            go_roundw
            case rel => exact ⟨i + 1, o, by omega, by go_num, rfl, hm2, by first | rfl | trivial⟩
            case measure => simp [intOf]; omega
          · have h2b : (x == 2) = false := by simpa using h2
            by_cases h0 : 0 < x
            · have hp : tkI 2 x = false := by
                unfold tkI
                have e0 : (x == 0) = false := by simpa using (by omega : ¬ x = 0)
                have e1 : (x == -1) = false := by simpa using (by omega : ¬ x = -1)
                rw [h2b, e0, e1]
                rfl
              have hnn := not_all hx hp
              clear hp
              have hZ : Z = (0, 131) := by
                rw [← HZ.out.1]
                unfold nmbF
                rw [hnn]
                rfl
              subst hZ
              have HB : Hid (Below w.heap.size w wr) := HZ.out.2.2.2
              clear hx HZ HK
              go_wp2
              go_ret2
              exact ⟨rfl, HB.out⟩
            · have hp : tkI 2 x = true := by
                unfold tkI
                rcases (by omega : x = 0 ∨ x = -1) with e | e <;> rw [e] <;> rfl
              have hm2 : Hid ((l.take (i + 1)).all (tkI 2) = true ∧ (-1 : Int) = if (l.take (i + 1)).all (· == 2) then 2 else -1) := by
                have h3 : (l.take (i + 1)).all (tkI 2) = true := by rw [all_more hx, ha.out.1, hp]; rfl
                have h4 : (-1 : Int) = if (l.take (i + 1)).all (· == 2) then 2 else -1 := by
                  rw [all_more hx, h2b, Bool.and_false]
                  rfl
                exact ⟨h3, h4⟩
              clear hx hp ha
              go_wp2_with fail
              go_roundw
              case rel => exact ⟨i + 1, -1, by omega, by go_num, rfl, hm2, by first | rfl | trivial⟩
              case measure => simp [intOf]; omega
        · obtain rfl : i = l.length := by omega
          have hlt2 : ¬ ((l.length : Int) < (l.length : Int)) := by omega
          have hZ : Z = (o, 0) := by
            rw [← HZ.out.1]
            unfold nmbF
            have h := ha.out
            rw [List.take_of_length_le (Nat.le_refl _)] at h
            rw [h.1, h.2]
            rfl
          subst hZ
          have HB : Hid (Below w.heap.size w wr) := HZ.out.2.2.2
          clear HZ HK ha
          go_wp2
          go_ret2
          exact ⟨rfl, HB.out⟩
end Go.Proofs.YtcniebkehekliaaGreatDoor
