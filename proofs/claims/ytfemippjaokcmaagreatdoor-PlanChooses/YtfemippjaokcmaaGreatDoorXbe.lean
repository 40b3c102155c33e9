/- The laws' Choose, its walk. plan.Choose: of any expression and any names of indexes: its walk. -/
import Derived.Test.YtfemippjaokcmaaGreatDoorXbd
import Derived.Test.YtfemippjaokcmaaGreatDoorXba
import Derived.Deep.CutRange
import Derived.Deep.CutBlock
namespace Go.Proofs.YtfemippjaokcmaaGreatDoor
open Go.RowKit Go.Shelf
attribute [local go_sem] Oper.semAt_some fw0 fw1 fw2
def foldL (l : List ByteArray) (T : List Et) : P3 := (T.map lsE).foldl (lawStep l) noP
theorem foldL_snoc (l : List ByteArray) (T : List Et) (t : Et) : foldL l (T ++ [t]) = lawStep l (foldL l T) (lsE t) := by
  unfold foldL
  rw [List.map_append, List.foldl_append]
  rfl
theorem any_contains (l : List ByteArray) (f : ByteArray) : l.any (fun y => y.toList == f.toList) = Lib.containsS l f := by
  apply Bool.eq_iff_iff.2
  rw [Lib.containsS_iff, List.any_eq_true]
  constructor
  · rintro ⟨x, hx, he⟩
    have e : x = f := text_eq (by simpa using he)
    rw [← e]
    exact hx
  · intro h
    exact ⟨f, h, by simp⟩
theorem lower_eq (a b : ByteArray) : V.lowerB a b = if b.toList.isEmpty = true then a else if a.toList.isEmpty = true then b else if Op.bytesLess b.toList a.toList = true then b else a := by
  have cat : ∀ x y : ByteArray, x ++ y = ⟨(x.data.toList ++ y.data.toList).toArray⟩ := fun x y => by
    refine ByteArray.ext ?_
    rw [ByteArray.data_append]
    apply Array.ext'
    simp
  have emp : ∀ x : ByteArray, x.toList.isEmpty = true → x.data.toList = [] := fun x h => by rw [Lib.toList_data] at h; simpa using h
  unfold V.lowerB
  by_cases hb : b.toList.isEmpty = true
  · rw [if_pos (by rw [hb]; simp), if_pos hb, cat, emp b hb, List.append_nil]
  · rw [if_neg hb]
    by_cases ha : a.toList.isEmpty = true
    · rw [if_pos (by rw [ha]; rfl), if_pos ha, cat, emp a ha, List.nil_append]
    · rw [if_neg (by simp only [Bool.or_eq_true]; exact fun h => h.elim ha hb), if_neg ha]
      rcases V.lt8_total a.toList b.toList with h | h | h
      · have h1 : Op.bytesLess a.toList b.toList = true := h
        have h2 : Op.bytesLess b.toList a.toList = false := V.lt8_asymm h
        rw [if_pos (by rw [h1]; rfl), if_neg (by rw [h2]; decide)]
      · have h2 : Op.bytesLess b.toList a.toList = false := by rw [h]; exact V.lt8_irrefl _
        rw [if_pos (by rw [h]; simp), if_neg (by rw [h2]; decide)]
      · have h1 : Op.bytesLess b.toList a.toList = true := h
        have h2 : Op.bytesLess a.toList b.toList = false := V.lt8_asymm h
        rw [if_neg (by simp only [Bool.or_eq_true, beq_iff_eq, h2]; exact fun hh => hh.elim (fun q => by cases q) (fun q => V.lt8_ne h q.symm)), if_pos h1]
theorem max_three {a b : ByteArray} {xa xb : Bool} (ha : Op.bytesLess b.toList a.toList = xa) (hb : (b.toList == a.toList) = xb) : V.maxS a b = if xa = true then a else if xb = true then a else b := by
  unfold V.maxS
  rcases V.lt8_total a.toList b.toList with h | h | h
  · have h1 : Op.bytesLess a.toList b.toList = true := h
    have h2 : Op.bytesLess b.toList a.toList = false := V.lt8_asymm h
    have h3 : (b.toList == a.toList) = false := by
      rw [beq_eq_false_iff_ne]
      exact fun q => V.lt8_ne h q.symm
    rw [h1, ← ha, h2, ← hb, h3]
    rfl
  · have h2 : Op.bytesLess a.toList b.toList = false := by rw [h]; exact V.lt8_irrefl _
    have h3 : (b.toList == a.toList) = true := by rw [h]; simp
    rw [h2, ← hb, h3]
    cases xa <;> rfl
  · have h1 : Op.bytesLess b.toList a.toList = true := h
    have h2 : Op.bytesLess a.toList b.toList = false := V.lt8_asymm h
    rw [h2, ← ha, h1]
    rfl
theorem lsC_five {sg : ByteArray} {f l : En} (hok : (lsC sg f l).ok = true) : five (lsC sg f l).sg.data.toList = true := by
  unfold lsC at hok ⊢
  split at hok
  · next hd =>
    rw [if_pos hd]
    simp only [Bool.and_eq_true] at hok
    exact hok.2.2
  · exact absurd hok (by decide)
theorem lsE_five {t : Et} (hok : (lsE t).ok = true) : five (lsE t).sg.data.toList = true := by
  unfold lsE lsF at hok ⊢
  split at hok
  · next h1 =>
    rw [if_pos h1]
    split at hok
    · next h2 =>
      rw [if_pos h2]
      exact lsC_five hok
    · next h2 =>
      rw [if_neg h2]
      exact lsC_five hok
  · exact absurd hok (by decide)
theorem five_cases {sg : ByteArray} (h : five sg.data.toList = true) : sg = ⟨#[61]⟩ ∨ sg = ⟨#[60]⟩ ∨ sg = ⟨#[60, 61]⟩ ∨ sg = ⟨#[62]⟩ ∨ sg = ⟨#[62, 61]⟩ := by
  have ex : ∀ (l : List UInt8), sg.data.toList = l → sg = ⟨l.toArray⟩ := fun l h => ByteArray.ext (Array.ext' h)
  unfold five at h
  simp only [Bool.or_eq_true, beq_iff_eq] at h
  rcases h with h | h | h | h | h
  · exact .inl (ex _ h)
  · exact .inr (.inl (ex _ h))
  · exact .inr (.inr (.inl (ex _ h)))
  · exact .inr (.inr (.inr (.inl (ex _ h))))
  · exact .inr (.inr (.inr (.inr (ex _ h))))
set_option maxRecDepth 100000 in
set_option maxHeartbeats 8000000 in
theorem lchoose_any {d : Nat} {t : Et} {k : Int} {s : ByteArray} {vk : Int} {vb : Bool} {vn : Int} {vs : ByteArray} {kp : Option Addr} {nk kc : Nat} {np : Option Addr} {nm nc : Nat} {w : World} (hx : LiesE w (fun k => k < w.heap.size) d t (rowX ⟨k, s, vk, vb, vn, vs, kp, nk, kc, np, nm, nc⟩)) (ha : AllE t) (hlen : (partsE d t).length ≤ 100000)
    (p : Option Addr) (c : Nat) (l : List ByteArray) (hI : Ixs w p l) : Calls Tryz.prog 10 #[.agg #[.int .i64 k, .string s, .int .i64 vk, .bool vb, .int .i64 vn, .string vs, .slice none 0 0, .slice none 0 0, .slice kp nk kc, .slice np nm nc], .slice p l.length c] w (GivesP3 w (foldL l (partsE d t))) := by
  obtain ⟨w1, hw1⟩ : ∃ u, ((w.alloc (.cells #[.int .i64 k, .string s, .int .i64 vk, .bool vb, .int .i64 vn, .string vs, .slice none 0 0, .slice none 0 0, .slice kp nk kc, .slice np nm nc] 28)).alloc (.cells #[.string ⟨#[]⟩, .string ⟨#[]⟩, .string ⟨#[]⟩] 35)).alloc (.cells #[.string ⟨#[]⟩, .string ⟨#[]⟩, .string ⟨#[]⟩] 35) = u := ⟨_, rfl⟩
  obtain ⟨r0, r1, r2, bw⟩ := alloc3 hw1
  have hz1 : w1.heap.size = w.heap.size + 1 + 1 + 1 := by rw [← hw1]; simp
  have hx1 : LiesE w1 (fun k => k < w.heap.size) d t (rowX ⟨k, s, vk, vb, vn, vs, kp, nk, kc, np, nm, nc⟩) := hx.since (Since.below bw)
  have kj := lparts_any d t ⟨k, s, vk, vb, vn, vs, kp, nk, kc, np, nm, nc⟩ w.heap.size w1 hx1 bw.size hlen
  have HAT : ∀ x ∈ partsE d t, AllE x := ha.parts d
  obtain ⟨T, hT⟩ : ∃ T, partsE d t = T := ⟨_, rfl⟩
  rw [hT] at kj hlen HAT ⊢
  have HW := mkHid hw1
  obtain ⟨n, hn⟩ : ∃ n, l.length = n := ⟨_, rfl⟩
  have HH : Hid (Below w.heap.size w w1 ∧ w1.heap[w.heap.size + 1]? = some (.cells #[.string ⟨#[]⟩, .string ⟨#[]⟩, .string ⟨#[]⟩] 35 (0, 0)) ∧ w1.heap[w.heap.size + 1 + 1]? = some (.cells #[.string ⟨#[]⟩, .string ⟨#[]⟩, .string ⟨#[]⟩] 35 (0, 0)) ∧ T.length ≤ 100000 ∧ (∀ x ∈ T, AllE x) ∧ Ixs w p l ∧ l.length = n ∧ w1.heap.size = w.heap.size + 1 + 1 + 1) := ⟨bw, r1, r2, hlen, HAT, hI, hn, hz1⟩
  have cx0 := cell_of_row w1 _ 0 _ _ _ r0
  have cx1 := cell_of_row w1 _ 1 _ _ _ r0
  have cx2 := cell_of_row w1 _ 2 _ _ _ r0
  have cx3 := cell_of_row w1 _ 3 _ _ _ r0
  have cx4 := cell_of_row w1 _ 4 _ _ _ r0
  have cx5 := cell_of_row w1 _ 5 _ _ _ r0
  have cx6 := cell_of_row w1 _ 6 _ _ _ r0
  have cx7 := cell_of_row w1 _ 7 _ _ _ r0
  have cx8 := cell_of_row w1 _ 8 _ _ _ r0
  have cx9 := cell_of_row w1 _ 9 _ _ _ r0
  have z0 := cell_of_row w1 _ 0 _ _ _ r2
  have y0 := frozen_of_row w1 _ 0 _ _ r2
  have z1 := cell_of_row w1 _ 1 _ _ _ r2
  have y1 := frozen_of_row w1 _ 1 _ _ r2
  have z2 := cell_of_row w1 _ 2 _ _ _ r2
  have y2 := frozen_of_row w1 _ 2 _ _ r2
  have hsame : ((w1.setCell ⟨w.heap.size + 1 + 1, 0, none⟩ (.string ⟨#[]⟩)).setCell ⟨w.heap.size + 1 + 1, 1, none⟩ (.string ⟨#[]⟩)).setCell ⟨w.heap.size + 1 + 1, 2, none⟩ (.string ⟨#[]⟩) = w1 := by
    rw [setCell_same (v := .string ⟨#[]⟩) r2 (i := 0) rfl, setCell_same (v := .string ⟨#[]⟩) r2 (i := 1) rfl, setCell_same (v := .string ⟨#[]⟩) r2 (i := 2) rfl]
  have HS := mkHid hsame
  rw [hn]
  clear hsame hw1 r0 r1 r2 bw hx hx1 ha hlen HAT hI hn hT hz1
  obtain ⟨A, hA⟩ : ∃ A, foldL l T = A := ⟨_, rfl⟩
  rw [hA]
  have HA := mkHid hA
  clear hA
  go_enter Tryz.func10, Tryz.ntmps10
  go_wp2_with (first | rw [HW.out] | fail)
  rw [HS.out]
  clear z0 z1 z2 y0 y1 y2
  go_wp2_with fail
  unfold rowX at kj
  refine kj.mono ?_
  rintro e w2 ⟨u2, rfl, ho2, hb2, hu2, -⟩
  have HB2 : Hid (LcW w w2 (w.heap.size + 1 + 1) (w.heap.size + 1) u2 T noP) := ⟨HH.out.1.trans (hb2.mono HH.out.1.size), Below.row hb2 HH.out.2.1, Below.row hb2 HH.out.2.2.1, ho2, fun k hk => by have := hu2 k hk; have := HH.out.2.2.2.2.2.2.2; omega, by omega, by omega⟩
  obtain ⟨z, hzz⟩ : ∃ z, w.heap.size + 1 = z := ⟨_, rfl⟩
  obtain ⟨q, c2, hv2⟩ : ∃ q c2, u2 = .slice q T.length c2 := by
    obtain ⟨L, h1, -⟩ := ho2.own
    exact own_len h1
  subst hv2
  obtain ⟨m, hm⟩ : ∃ m, T.length = m := ⟨_, rfl⟩
  have HM := mkHid hm
  have HBZ := mkHid hzz
  have hm1 : m ≤ 100000 := by rw [← hm]; exact HH.out.2.2.2.1
  rw [hm] at HB2 ⊢
  rw [hzz] at HB2
  clear kj ho2 hb2 hu2 hm cx0 cx1 cx2 cx3 cx4 cx5 cx6 cx7 cx8 cx9
  go_wp2_with fail
  clear hzz
  go_loopw [7] (fun c7 wr => ∃ i : Nat, i ≤ m ∧ c7 = .int .i64 (i : Int) ∧ Hid (LcW w wr (z + 1) z (.slice q m c2) T (foldL l (T.take i)))) (fun c7 _ => m - (intOf c7).toNat)
  case atStart =>
    refine ⟨0, Nat.zero_le _, rfl, ?_⟩
    exact HB2
  case round =>
    obtain ⟨i, hi, rfl, hh⟩ := hrel
    by_cases hiq : i < m
    · have hil : i < T.length := by rw [HM.out]; exact hiq
      obtain ⟨x, hx⟩ : ∃ x, T[i]? = some x := ⟨_, List.getElem?_eq_getElem hil⟩
      obtain ⟨g, c', R, d', hv', -, -, -, hlt, hcs, hL⟩ := ow_at hh.out.ow hx
      obtain rfl : q = some ⟨g, 0, none⟩ := by injection hv'
      clear hv'
      have hiq' : (i : Int) < (m : Int) := by omega
      have hAx := HH.out.2.2.2.2.1 x (List.mem_of_getElem? hx)
      have ks := lsd_any hL (hAx []).sz (fun j _ _ => (hAx.sub j []).sz)
      have hkf : (lsE x).ok = true → KeyF (lsE x) ∧ five (lsE x).sg.data.toList = true := fun h => ⟨lsE_key hAx h, lsE_five h⟩
      have hst := foldL_snoc l (T.take i) x
      have htk : T.take (i + 1) = T.take i ++ [x] := by rw [List.take_add_one, hx]; rfl
      rw [← htk] at hst
      obtain ⟨P, hP⟩ : ∃ P, foldL l (T.take i) = P := ⟨_, rfl⟩
      rw [hP] at hh hst
      obtain ⟨r, hr⟩ : ∃ r, lsE x = r := ⟨_, rfl⟩
      rw [hr] at ks hst hkf
      obtain ⟨rf, rsg, rvk, rvb, rvn, rvs, rok⟩ := r
      obtain ⟨pf, plo, phi⟩ := P
      obtain ⟨k2, s2, vk2, vb2, vn2, vs2, kp2, n2, kc2, np2, m2, nc2⟩ := R
      have HST := mkHid hst
      have HKF := mkHid hkf
      have a0 : wr.cell? ⟨g, i * 10, none⟩ = some (.int .i64 k2) := hcs 0 (by decide)
      have a1 : wr.cell? ⟨g, i * 10 + 1, none⟩ = some (.string s2) := hcs 1 (by decide)
      have a2 : wr.cell? ⟨g, i * 10 + 2, none⟩ = some (.int .i64 vk2) := hcs 2 (by decide)
      have a3 : wr.cell? ⟨g, i * 10 + 3, none⟩ = some (.bool vb2) := hcs 3 (by decide)
      have a4 : wr.cell? ⟨g, i * 10 + 4, none⟩ = some (.int .i64 vn2) := hcs 4 (by decide)
      have a5 : wr.cell? ⟨g, i * 10 + 5, none⟩ = some (.string vs2) := hcs 5 (by decide)
      have a6 : wr.cell? ⟨g, i * 10 + 6, none⟩ = some (.slice none 0 0) := hcs 6 (by decide)
      have a7 : wr.cell? ⟨g, i * 10 + 7, none⟩ = some (.slice none 0 0) := hcs 7 (by decide)
      have a8 : wr.cell? ⟨g, i * 10 + 8, none⟩ = some (.slice kp2 n2 kc2) := hcs 8 (by decide)
      have a9 : wr.cell? ⟨g, i * 10 + 9, none⟩ = some (.slice np2 m2 nc2) := hcs 9 (by decide)
      have HLT := mkHid hlt
      clear hP hr hx hil hcs hL hAx hst hkf htk hlt
      unfold rowX GivesQ GivesS4 at ks
      go_wp2_with fail
      refine ks.mono ?_
      rintro e W ⟨rfl, hbW⟩
      have H3 := hh.out.later hbW
      obtain ⟨W1, hW1⟩ : ∃ u, W.alloc (.cells #[.int .i64 0, .bool false, .int .i64 0, .string ⟨#[]⟩, .slice none 0 0, .slice none 0 0] 25) = u := ⟨_, rfl⟩
      obtain ⟨r1, bw1⟩ := alloc1 hW1
      have r2 := put_row #[.int .i64 rvk, .bool rvb, .int .i64 rvn, .string rvs, .slice none 0 0, .slice none 0 0] r1 rfl
      have b2 : Below W.heap.size W (put W1 W.heap.size #[.int .i64 rvk, .bool rvb, .int .i64 rvn, .string rvs, .slice none 0 0, .slice none 0 0]) := put_below bw1 W.heap.size (Nat.le_refl _) _
      obtain ⟨W2, hW2⟩ : ∃ u, put W1 W.heap.size #[.int .i64 rvk, .bool rvb, .int .i64 rvn, .string rvs, .slice none 0 0, .slice none 0 0] = u := ⟨_, rfl⟩
      rw [hW2] at r2 b2
      have HW1 := mkHid hW1
      have HW2 := mkHid hW2
      have HR1 := mkHid r1
      have H4 : Hid (LcW w W2 (z + 1) z (.slice (some ⟨g, 0, none⟩) m c2) T (pf, plo, phi) ∧ W2.heap[W.heap.size]? = some (.cells #[.int .i64 rvk, .bool rvb, .int .i64 rvn, .string rvs, .slice none 0 0, .slice none 0 0] 25 (0, 0)) ∧ z + 1 < W.heap.size) := ⟨H3.later b2, r2, lt_of_row H3.br⟩
      clear ks hbW hh H3 hW1 r1 bw1 r2 b2 hW2 a0 a1 a2 a3 a4 a5 a6 a7 a8 a9 HLT
      go_wp2_with (first | rw [HW1.out] | (refine wpList_put rfl 25 (.tmp 10) (.tmp 34) rfl rfl rfl rfl HR1.out rfl info25s (by simp [Value.oneCell']) ?_; rw [HW2.out]) | fail)
      go_loopw [12, 13] (fun c12 c13 wq => ∃ j : Nat, j ≤ n ∧ c12 = .bool ((l.take j).any (fun y => y.toList == rf.toList)) ∧ c13 = .int .i64 (j : Int) ∧ wq = W2) (fun _ c13 _ => n - (intOf c13).toNat)
      case atStart => exact ⟨0, Nat.zero_le _, rfl, rfl, rfl⟩
      case round =>
        obtain ⟨j, hj, rfl, rfl, hwq⟩ := hrel
        have hwq' := hwq.symm
        subst hwq'
        clear hwq
        by_cases hjn : j < n
        · have hjl : j < l.length := by rw [HH.out.2.2.2.2.2.2.1]; exact hjn
          have hjn' : (j : Int) < (n : Int) := by omega
          have hI2 := HH.out.2.2.2.2.2.1
          obtain ⟨bi, oi, hp, hbi, hci⟩ := hI2.2.resolve_left (fun e => by rw [e] at hjl; exact absurd hjl (Nat.not_lt_zero _))
          have cj := (H4.out.1.bel.cell (p := ⟨bi, oi + j, none⟩) hbi).trans (hci j hjl)
          obtain ⟨y, hy⟩ : ∃ y, l[j]? = some y := ⟨_, List.getElem?_eq_getElem hjl⟩
          have hyD : l.getD j ByteArray.empty = y := by rw [List.getD_eq_getElem?_getD, hy]; rfl
          rw [hyD] at cj
          have hstep : (l.take (j + 1)).any (fun y => y.toList == rf.toList) = ((l.take j).any (fun y => y.toList == rf.toList) || (y.toList == rf.toList)) := by
            rw [List.take_add_one, hy, List.any_append]
            simp
          obtain ⟨kn, hkn⟩ : ∃ kn, (l.take j).any (fun y => y.toList == rf.toList) = kn := ⟨_, rfl⟩
          rw [hkn] at hstep ⊢
          have HE := mkHid hstep
          subst hp
          clear hyD hy hkn hstep hbi hci hI2 hjl
          have hn1 : n ≤ 100000 := by have h1 := HH.out.2.2.2.2.2.1.1; have h2 := HH.out.2.2.2.2.2.2.1; omega
          cases kn with
          | true =>
            clear cj
            go_wp2
            go_roundw
            case rel => exact ⟨j + 1, by omega, by rw [HE.out]; rfl, by go_num, by first | rfl | trivial⟩
            case measure => simp [intOf]; omega
          | false =>
            go_wp2
            go_roundw
            case rel => exact ⟨j + 1, by omega, by rw [HE.out]; rfl, by go_num, by first | rfl | trivial⟩
            case measure => simp [intOf]; omega
        · obtain rfl : j = n := by omega
          have hct : (l.take j).any (fun y => y.toList == rf.toList) = Lib.containsS l rf := by
            rw [← HH.out.2.2.2.2.2.2.1, List.take_length]
            exact any_contains l rf
          rw [hct]
          obtain ⟨th, hth⟩ : ∃ th, Lib.containsS l rf = th := ⟨_, rfl⟩
          rw [hth]
          have HTH := mkHid hth
          have q0 := cell_of_row W2 _ 0 _ _ _ H4.out.1.br
          obtain ⟨pe, hpe⟩ : ∃ pe, pf.toList.isEmpty = pe := ⟨_, rfl⟩
          obtain ⟨pq, hpq⟩ : ∃ pq, (pf.toList == rf.toList) = pq := ⟨_, rfl⟩
          have hpe2 : (pf.toList == []) = pe := by rw [← hpe]; cases pf.toList <;> rfl
          have HPE := mkHid (And.intro hpe hpq)
          clear hct hth hpe hjn hiq'
          go_upto_region 12 with fail
          go_cut [67] from 51 to 67 (fun c67 wx => c67 = .bool (!(rok && (th && (pe || pq)))) ∧ wx = W2)
          case first =>
            cases rok with
            | false =>
              go_wp2_with fail
              go_meet
              case rel => exact ⟨rfl, rfl⟩
            | true =>
              cases th with
              | false =>
                go_wp2_with fail
                go_meet
                case rel => exact ⟨rfl, rfl⟩
              | true =>
                cases pe with
                | true =>
                  go_wp2_with fail
                  go_meet
                  case rel => exact ⟨rfl, rfl⟩
                | false =>
                  cases pq with
                  | true =>
                    go_wp2_with fail
                    go_meet
                    case rel => exact ⟨rfl, rfl⟩
                  | false =>
                    go_wp2_with fail
                    go_meet
                    case rel => exact ⟨rfl, rfl⟩
          case rest =>
            obtain ⟨rfl, hwx⟩ := hcut
            have hwy := hwx.symm
            subst hwy
            clear hwx q0 hpe2 hpq
            obtain ⟨G, hG⟩ : ∃ G, (rok && (th && (pe || pq))) = G := ⟨_, rfl⟩
            rw [hG]
            have HG := mkHid hG
            have HL4 : Hid (LcW w W2 (z + 1) z (.slice (some ⟨g, 0, none⟩) m c2) T (pf, plo, phi)) := H4.out.1
            cases G with
            | false =>
              have hstep : foldL l (T.take (i + 1)) = (pf, plo, phi) := by
                rw [HST.out]
                unfold lawStep
                rw [if_neg]
                show ¬ (rok && (Lib.containsS l rf && (pf.toList.isEmpty || pf.toList == rf.toList))) = true
                rw [HTH.out, HPE.out.1, HPE.out.2, HG.out]
                exact Bool.false_ne_true
              have HSTEP := mkHid hstep
              clear hstep hG
              go_wp2
              go_roundw
              case rel =>
                refine ⟨i + 1, by omega, by go_num, ?_⟩
                rw [HSTEP.out]
                exact HL4
              case measure => simp [intOf]; omega
            | true =>
              have hrok : rok = true := by
                cases rok with
                | true => rfl
                | false => exact absurd hG Bool.false_ne_true
              subst hrok
              have hK := HKF.out rfl
              obtain ⟨K, hKK⟩ : ∃ K, keyS ⟨rf, rsg, rvk, rvb, rvn, rvs, true⟩ = K := ⟨_, rfl⟩
              have kplus := plus_any K (by rw [← hKK]; exact keyS_size hK.1)
              obtain ⟨lo, hlo⟩ : ∃ lo, (spanF rsg.data.toList K).1 = lo := ⟨_, rfl⟩
              obtain ⟨hi', hhi⟩ : ∃ hi', (spanF rsg.data.toList K).2.1 = hi' := ⟨_, rfl⟩
              have hstep : foldL l (T.take (i + 1)) = (rf, V.maxS plo lo, V.lowerB phi hi') := by
                rw [HST.out]
                unfold lawStep
                rw [if_pos]
                · show (rf, V.maxS plo (spanF rsg.data.toList (keyS ⟨rf, rsg, rvk, rvb, rvn, rvs, true⟩)).1, V.lowerB phi (spanF rsg.data.toList (keyS ⟨rf, rsg, rvk, rvb, rvn, rvs, true⟩)).2.1) = _
                  rw [hKK, hlo, hhi]
                · show (true && (Lib.containsS l rf && (pf.toList.isEmpty || pf.toList == rf.toList))) = true
                  rw [HTH.out, HPE.out.1, HPE.out.2, HG.out]
              have HSTEP := mkHid hstep
              have HLO := mkHid (And.intro hlo hhi)
              have kref := law_ref hK.1
              have HKY : Hid (∀ (v : Value) (V2 : World), RfU (V.leafT rvk rvb rvn rvs) v V2 → Calls Tryz.prog 18 #[v] V2 fun e w' => e = .returned (.string K) ∧ Below V2.heap.size V2 w') := fun v V2 hv => by
                have h := law_key hK.1 hv
                rw [hKK] at h
                exact h
              have HFC := mkHid (five_cases hK.2)
              clear hstep hG hK hKK hlo hhi
              have b0 := cell_of_row W2 _ 0 _ _ _ HL4.out.br
              have d0 := frozen_of_row W2 _ 0 _ _ HL4.out.br
              obtain ⟨W3, hW3⟩ : ∃ u, W2.setCell ⟨z + 1, 0, none⟩ (.string rf) = u := ⟨_, rfl⟩
              have hL5 := HL4.out.set1 rf
              rw [hW3] at hL5
              have hv3 : W3.heap[W.heap.size]? = some (.cells #[.int .i64 rvk, .bool rvb, .int .i64 rvn, .string rvs, .slice none 0 0, .slice none 0 0] 25 (0, 0)) := by
                have := H4.out.2.2
                rw [← hW3, Below.heap_setCell _ _ _ _ (by show W.heap.size ≠ z + 1; omega)]
                exact H4.out.2.1
              have HW3 := mkHid hW3
              have HL5 := mkHid hL5
              have v0 := cell_of_row W3 _ 0 _ _ _ hv3
              have v1 := cell_of_row W3 _ 1 _ _ _ hv3
              have v2 := cell_of_row W3 _ 2 _ _ _ hv3
              have v3 := cell_of_row W3 _ 3 _ _ _ hv3
              have v4 := cell_of_row W3 _ 4 _ _ _ hv3
              have v5 := cell_of_row W3 _ 5 _ _ _ hv3
              clear hW3 hL5 hv3
              go_wp2_with (first | rw [HW3.out] | fail)
              refine (kref _).mono ?_
              rintro e W4 ⟨⟨v, rfl, hv⟩, hb4⟩
              have HL6 := mkHid (HL5.out.later hb4)
              have ky := HKY.out v W4 hv
              clear b0 d0 v0 v1 v2 v3 v4 v5 kref hv hb4 HL5
              go_wp2_with fail
              refine ky.mono ?_
              rintro e W5 ⟨rfl, hb5⟩
              have HL7 := mkHid (HL6.out.later hb5)
              clear ky hb5 HL6
              go_upto_block 4 with fail
              go_cut [15, 16] from 74 to 90 (fun c15 c16 wx => c15 = .string lo ∧ c16 = .string hi' ∧ Hid (LcW w wx (z + 1) z (.slice (some ⟨g, 0, none⟩) m c2) T (rf, plo, phi)))
              case first =>
                have hl := HLO.out
                obtain ⟨N, hN⟩ : ∃ N, V.nextB K = N := ⟨_, rfl⟩
                rw [hN] at kplus
                rcases HFC.out with hs | hs | hs | hs | hs
                · subst hs
                  have hsp : spanF ((⟨#[61]⟩ : ByteArray).data.toList) K = (K, V.nextB K, true) := by
                    unfold spanF
                    simp
                  rw [hsp, hN] at hl
                  obtain ⟨rfl, rfl⟩ := hl
                  clear hsp
                  go_wp2_with fail
                  refine (kplus _).mono ?_
                  rintro e W6 ⟨rfl, hb6⟩
                  have HL8 := mkHid (HL7.out.later hb6)
                  clear hb6 kplus
                  go_wp2_with fail
                  go_meet
                  case rel => exact ⟨rfl, rfl, HL8⟩
                · subst hs
                  have hsp : spanF ((⟨#[60]⟩ : ByteArray).data.toList) K = (⟨#[]⟩, K, true) := by
                    unfold spanF
                    simp
                  rw [hsp] at hl
                  obtain ⟨rfl, rfl⟩ := hl
                  clear hsp
                  have HL8 := HL7
                  clear kplus
                  go_wp2_with fail
                  go_meet
                  case rel => exact ⟨rfl, rfl, HL8⟩
                · subst hs
                  have hsp : spanF ((⟨#[60, 61]⟩ : ByteArray).data.toList) K = (⟨#[]⟩, V.nextB K, true) := by
                    unfold spanF
                    simp
                  rw [hsp, hN] at hl
                  obtain ⟨rfl, rfl⟩ := hl
                  clear hsp
                  go_wp2_with fail
                  refine (kplus _).mono ?_
                  rintro e W6 ⟨rfl, hb6⟩
                  have HL8 := mkHid (HL7.out.later hb6)
                  clear hb6 kplus
                  go_wp2_with fail
                  go_meet
                  case rel => exact ⟨rfl, rfl, HL8⟩
                · subst hs
                  have hsp : spanF ((⟨#[62]⟩ : ByteArray).data.toList) K = (V.nextB K, ⟨#[]⟩, true) := by
                    unfold spanF
                    simp
                  rw [hsp, hN] at hl
                  obtain ⟨rfl, rfl⟩ := hl
                  clear hsp
                  go_wp2_with fail
                  refine (kplus _).mono ?_
                  rintro e W6 ⟨rfl, hb6⟩
                  have HL8 := mkHid (HL7.out.later hb6)
                  clear hb6 kplus
                  go_wp2_with fail
                  go_meet
                  case rel => exact ⟨rfl, rfl, HL8⟩
                · subst hs
                  have hsp : spanF ((⟨#[62, 61]⟩ : ByteArray).data.toList) K = (K, ⟨#[]⟩, true) := by
                    unfold spanF
                    simp
                  rw [hsp] at hl
                  obtain ⟨rfl, rfl⟩ := hl
                  clear hsp
                  have HL8 := HL7
                  clear kplus
                  go_wp2_with fail
                  go_meet
                  case rel => exact ⟨rfl, rfl, HL8⟩
              case rest =>
                obtain ⟨rfl, rfl, hL⟩ := hcut
                rename World => W6
                clear kplus
                have b1 := cell_of_row W6 _ 1 _ _ _ hL.out.br
                have d1 := frozen_of_row W6 _ 1 _ _ hL.out.br
                have b2 := cell_of_row W6 _ 2 _ _ _ hL.out.br
                have d2 := frozen_of_row W6 _ 2 _ _ hL.out.br
                obtain ⟨xa, hxa⟩ : ∃ X, Op.bytesLess lo.toList plo.toList = X := ⟨_, rfl⟩
                obtain ⟨xb, hxb⟩ : ∃ X, (lo.toList == plo.toList) = X := ⟨_, rfl⟩
                obtain ⟨E1, hE1⟩ : ∃ E, (hi'.toList == []) = E := ⟨_, rfl⟩
                obtain ⟨E2, hE2⟩ : ∃ E, (phi.toList == []) = E := ⟨_, rfl⟩
                obtain ⟨Y, hY⟩ : ∃ Y, Op.bytesLess hi'.toList phi.toList = Y := ⟨_, rfl⟩
                have hmx : V.maxS plo lo = if xa = true then plo else if xb = true then plo else lo := max_three hxa hxb
                have hlw : V.lowerB phi hi' = if E1 = true then phi else if E2 = true then hi' else if Y = true then hi' else phi := by
                  rw [lower_eq, hY, ← hE1, ← hE2]
                  congr 1
                  · congr 1
                    cases hi'.toList <;> rfl
                  · congr 1
                    congr 1
                    cases phi.toList <;> rfl
                have HMX := mkHid (And.intro hmx hlw)
                clear hmx hlw
                cases xa with
                | true =>
                  have hL2 := hL.out
                  have HL2 := mkHid hL2
                  clear hL2
                  cases E1 with
                  | true =>
                    have HL3 := HL2
                    go_wp2
                    go_roundw
                    case rel =>
                      refine ⟨i + 1, by omega, by go_num, ?_⟩
                      rw [HSTEP.out, HMX.out.1, HMX.out.2]
                      exact HL3
                    case measure => simp [intOf]; omega
                  | false =>
                    cases E2 with
                    | true =>
                      have HL3 := mkHid (HL2.out.set3 hi')
                      go_wp2
                      go_roundw
                      case rel =>
                        refine ⟨i + 1, by omega, by go_num, ?_⟩
                        rw [HSTEP.out, HMX.out.1, HMX.out.2]
                        exact HL3
                      case measure => simp [intOf]; omega
                    | false =>
                      cases Y with
                      | true =>
                        have HL3 := mkHid (HL2.out.set3 hi')
                        go_wp2
                        go_roundw
                        case rel =>
                          refine ⟨i + 1, by omega, by go_num, ?_⟩
                          rw [HSTEP.out, HMX.out.1, HMX.out.2]
                          exact HL3
                        case measure => simp [intOf]; omega
                      | false =>
                        have HL3 := HL2
                        go_wp2
                        go_roundw
                        case rel =>
                          refine ⟨i + 1, by omega, by go_num, ?_⟩
                          rw [HSTEP.out, HMX.out.1, HMX.out.2]
                          exact HL3
                        case measure => simp [intOf]; omega
                | false =>
                  cases xb with
                  | true =>
                    have hL2 := hL.out
                    have HL2 := mkHid hL2
                    clear hL2
                    cases E1 with
                    | true =>
                      have HL3 := HL2
                      go_wp2
                      go_roundw
                      case rel =>
                        refine ⟨i + 1, by omega, by go_num, ?_⟩
                        rw [HSTEP.out, HMX.out.1, HMX.out.2]
                        exact HL3
                      case measure => simp [intOf]; omega
                    | false =>
                      cases E2 with
                      | true =>
                        have HL3 := mkHid (HL2.out.set3 hi')
                        go_wp2
                        go_roundw
                        case rel =>
                          refine ⟨i + 1, by omega, by go_num, ?_⟩
                          rw [HSTEP.out, HMX.out.1, HMX.out.2]
                          exact HL3
                        case measure => simp [intOf]; omega
                      | false =>
                        cases Y with
                        | true =>
                          have HL3 := mkHid (HL2.out.set3 hi')
                          go_wp2
                          go_roundw
                          case rel =>
                            refine ⟨i + 1, by omega, by go_num, ?_⟩
                            rw [HSTEP.out, HMX.out.1, HMX.out.2]
                            exact HL3
                          case measure => simp [intOf]; omega
                        | false =>
                          have HL3 := HL2
                          go_wp2
                          go_roundw
                          case rel =>
                            refine ⟨i + 1, by omega, by go_num, ?_⟩
                            rw [HSTEP.out, HMX.out.1, HMX.out.2]
                            exact HL3
                          case measure => simp [intOf]; omega
                  | false =>
                    have hL2 := hL.out.set2 lo
                    obtain ⟨W7, hW7⟩ : ∃ u, W6.setCell ⟨z + 1, 1, none⟩ (.string lo) = u := ⟨_, rfl⟩
                    rw [hW7] at hL2
                    have HW7 := mkHid hW7
                    have HL2 := mkHid hL2
                    have c2 := cell_of_row W7 _ 2 _ _ _ hL2.br
                    have e2 := frozen_of_row W7 _ 2 _ _ hL2.br
                    clear hW7
                    clear hL2
                    cases E1 with
                    | true =>
                      have HL3 := HL2
                      go_wp2_with (first | rw [HW7.out] | fail)
                      go_roundw
                      case rel =>
                        refine ⟨i + 1, by omega, by go_num, ?_⟩
                        rw [HSTEP.out, HMX.out.1, HMX.out.2]
                        exact HL3
                      case measure => simp [intOf]; omega
                    | false =>
                      cases E2 with
                      | true =>
                        have HL3 := mkHid (HL2.out.set3 hi')
                        go_wp2_with (first | rw [HW7.out] | fail)
                        go_roundw
                        case rel =>
                          refine ⟨i + 1, by omega, by go_num, ?_⟩
                          rw [HSTEP.out, HMX.out.1, HMX.out.2]
                          exact HL3
                        case measure => simp [intOf]; omega
                      | false =>
                        cases Y with
                        | true =>
                          have HL3 := mkHid (HL2.out.set3 hi')
                          go_wp2_with (first | rw [HW7.out] | fail)
                          go_roundw
                          case rel =>
                            refine ⟨i + 1, by omega, by go_num, ?_⟩
                            rw [HSTEP.out, HMX.out.1, HMX.out.2]
                            exact HL3
                          case measure => simp [intOf]; omega
                        | false =>
                          have HL3 := HL2
                          go_wp2_with (first | rw [HW7.out] | fail)
                          go_roundw
                          case rel =>
                            refine ⟨i + 1, by omega, by go_num, ?_⟩
                            rw [HSTEP.out, HMX.out.1, HMX.out.2]
                            exact HL3
                          case measure => simp [intOf]; omega
    · obtain rfl : i = m := by omega
      rw [← HM.out, List.take_length, HA.out] at hh
      obtain ⟨A0, A1, A2⟩ := A
      have f0 := cell_of_row wr _ 0 _ _ _ hh.out.br
      have f1 := cell_of_row wr _ 1 _ _ _ hh.out.br
      have f2 := cell_of_row wr _ 2 _ _ _ hh.out.br
      have z0 := cell_of_row wr _ 0 _ _ _ hh.out.zr
      have y0 := frozen_of_row wr _ 0 _ _ hh.out.zr
      have z1 := cell_of_row wr _ 1 _ _ _ hh.out.zr
      have y1 := frozen_of_row wr _ 1 _ _ hh.out.zr
      have z2 := cell_of_row wr _ 2 _ _ _ hh.out.zr
      have y2 := frozen_of_row wr _ 2 _ _ hh.out.zr
      go_wp2
      have hwz := hh.out.wz
      have hro : (((wr.setCell ⟨z, 0, none⟩ (.string A0)).setCell ⟨z, 1, none⟩ (.string A1)).setCell ⟨z, 2, none⟩ (.string A2)).heap[z]? = some (.cells #[.string A0, .string A1, .string A2] 35 (0, 0)) := row_setCell (k := 2) (row_setCell (k := 1) (row_setCell (k := 0) hh.out.zr (.string A0)) (.string A1)) (.string A2)
      have hbf : Below w.heap.size w (((wr.setCell ⟨z, 0, none⟩ (.string A0)).setCell ⟨z, 1, none⟩ (.string A1)).setCell ⟨z, 2, none⟩ (.string A2)) := ((hh.out.bel.setCell (p := ⟨z, 0, none⟩) hwz _).setCell (p := ⟨z, 1, none⟩) hwz _).setCell (p := ⟨z, 2, none⟩) hwz _
      obtain ⟨wf, hwf⟩ : ∃ wf, (((wr.setCell ⟨z, 0, none⟩ (.string A0)).setCell ⟨z, 1, none⟩ (.string A1)).setCell ⟨z, 2, none⟩ (.string A2)) = wf := ⟨_, rfl⟩
      rw [hwf] at hro hbf ⊢
      clear hwf
      have o0 := cell_of_row wf _ 0 _ _ _ hro
      have o1 := cell_of_row wf _ 1 _ _ _ hro
      have o2 := cell_of_row wf _ 2 _ _ _ hro
      exact bodyPost_ret (v := .agg #[.string A0, .string A1, .string A2]) (by simp [results, Tryz.results10, go_sem, o0, o1, o2]) rfl ⟨rfl, hbf⟩
end Go.Proofs.YtfemippjaokcmaaGreatDoor
namespace Go.Proofs.YtfemippjaokcmaaGreatDoor
open Go.RowKit Go.Shelf
attribute [local go_sem] Oper.semAt_some fw0 fw1 fw2
def PtZ (B : Nat) (v : Value) (W : World) : Prop := ∃ b, v = .pointer (some ⟨b, 0, none⟩) ∧ B ≤ b ∧ W.heap[b]? = some (.cells #[.string ⟨#[]⟩, .string ⟨#[]⟩, .string ⟨#[]⟩] 35 (0, 0))
theorem PtZ.later {B : Nat} : ∀ v W W', PtZ B v W → Below W.heap.size W W' → PtZ B v W' := fun _ _ _ ⟨b, h1, h2, h3⟩ hb => ⟨b, h1, h2, Below.row hb h3⟩
/- The loop's memory: the plan that grows, and what stays. -/
structure ChW (w wr : World) (b z B : Nat) (u3 : Value) (M : List P3) (f lo hi : ByteArray) : Prop where
  bel : Below w.heap.size w wr
  zr : wr.heap[z]? = some (.cells #[.string ⟨#[]⟩, .string ⟨#[]⟩, .string ⟨#[]⟩] 35 (0, 0))
  br : wr.heap[b]? = some (.cells #[.string f, .string lo, .string hi] 35 (0, 0))
  ow : Ow EPl 35 3 B wr u3 M
  ob : ∀ k, u3.ownBlock = some k → k < b
  zb : z < b
  wz : w.heap.size ≤ z
theorem ChW.later {w wr W : World} {b z B : Nat} {u3 : Value} {M : List P3} {f lo hi : ByteArray} (h : ChW w wr b z B u3 M f lo hi) (hb : Below wr.heap.size wr W) : ChW w W b z B u3 M f lo hi :=
  ⟨h.bel.trans (hb.mono h.bel.size), Below.row hb h.zr, Below.row hb h.br, by
    obtain ⟨L, q1, q2⟩ := h.ow.own
    exact ⟨L, own_lat q1 hb, epl_any _ _ _ _ _ _ q2⟩, h.ob, h.zb, h.wz⟩
theorem ChW.drew {w wr : World} {b z B : Nat} {u3 : Value} {M : List P3} {f lo hi : ByteArray} (h : ChW w wr b z B u3 M f lo hi) : ChW w wr.drew b z B u3 M f lo hi := h.later (Below.refl _ _).drew
theorem ChW.set {w wr : World} {b z B : Nat} {u3 : Value} {M : List P3} {f lo hi : ByteArray} (h : ChW w wr b z B u3 M f lo hi) (x y : ByteArray) : ChW w ((wr.setCell ⟨b, 1, none⟩ (.string x)).setCell ⟨b, 2, none⟩ (.string y)) b z B u3 M f x y := by
  have hz := h.zb
  have hw := h.wz
  have hbr : ((wr.setCell ⟨b, 1, none⟩ (.string x)).setCell ⟨b, 2, none⟩ (.string y)).heap[b]? = some (.cells #[.string f, .string x, .string y] 35 (0, 0)) := row_setCell (k := 2) (row_setCell (k := 1) h.br (.string x)) (.string y)
  have hbel : Below b wr ((wr.setCell ⟨b, 1, none⟩ (.string x)).setCell ⟨b, 2, none⟩ (.string y)) := ((Below.refl b wr).setCell (p := ⟨b, 1, none⟩) (Nat.le_refl b) _).setCell (p := ⟨b, 2, none⟩) (Nat.le_refl b) _
  refine ⟨(h.bel.setCell (p := ⟨b, 1, none⟩) (by show w.heap.size ≤ b; omega) _).setCell (p := ⟨b, 2, none⟩) (by show w.heap.size ≤ b; omega) _, (hbel.block z hz).trans h.zr, hbr, ?_, h.ob, hz, hw⟩
  obtain ⟨L, q1, q2⟩ := h.ow.own
  refine ⟨L, ⟨q1.1, ?_⟩, epl_any _ _ _ _ _ _ q2⟩
  rcases q1.2 with hn | ⟨g, cap, cur, hv, hg, hr, rest⟩
  · exact .inl hn
  · refine .inr ⟨g, cap, cur, hv, hg, (hbel.block g (h.ob g ?_)).trans hr, rest⟩
    rw [hv]; rfl
set_option maxRecDepth 100000 in
set_option maxHeartbeats 8000000 in
theorem choose_any {d : Nat} {t : Et} {k : Int} {s : ByteArray} {vk : Int} {vb : Bool} {vn : Int} {vs : ByteArray} {kp : Option Addr} {nk kc : Nat} {np : Option Addr} {nm nc : Nat} {w : World} (hx : LiesE w (fun k => k < w.heap.size) d t (rowX ⟨k, s, vk, vb, vn, vs, kp, nk, kc, np, nm, nc⟩)) (hg : V.Gm w) (hlen : (partsE d t).length ≤ 100000) (hlit : ∀ x ∈ partsE d t, LitsOk x) (hsh : Short ((partsE d t).map saidE))
    (p : Option Addr) (c : Nat) (l : List ByteArray) (hI : Ixs w p l) : Calls Tryz.prog 9 #[.agg #[.int .i64 k, .string s, .int .i64 vk, .bool vb, .int .i64 vn, .string vs, .slice none 0 0, .slice none 0 0, .slice kp nk kc, .slice np nm nc], .slice p l.length c] w (GivesP3 w (chooseL ((partsE d t).map saidE) l)) := by
  have hlM : ((partsE d t).map saidE).length ≤ 100000 := by rw [List.length_map]; exact hlen
  obtain ⟨M, hM⟩ : ∃ M, (partsE d t).map saidE = M := ⟨_, rfl⟩
  have HM := mkHid hM
  obtain ⟨w1, hw1⟩ : ∃ u, ((w.alloc (.cells #[.int .i64 k, .string s, .int .i64 vk, .bool vb, .int .i64 vn, .string vs, .slice none 0 0, .slice none 0 0, .slice kp nk kc, .slice np nm nc] 28)).alloc (.cells #[.slice p l.length c] 22)).alloc (.cells #[.string ⟨#[]⟩, .string ⟨#[]⟩, .string ⟨#[]⟩] 35) = u := ⟨_, rfl⟩
  obtain ⟨r0, r1, r2, bw⟩ := alloc3 hw1
  have hx1 : LiesE w1 (fun k => k < w.heap.size) d t (rowX ⟨k, s, vk, vb, vn, vs, kp, nk, kc, np, nm, nc⟩) := hx.since (Since.below bw)
  have kj := joined_any d t ⟨k, s, vk, vb, vn, vs, kp, nk, kc, np, nm, nc⟩ w.heap.size w1 (.slice none 0 0) [] hx1 bw.size (Ow.start _ _ _ _ _) (by simpa using hlen)
  rw [List.nil_append] at kj
  have HW := mkHid hw1
  have HH : Hid (Below w.heap.size w w1 ∧ w1.heap[w.heap.size + 1]? = some (.cells #[.slice p l.length c] 22 (0, 0)) ∧ w1.heap[w.heap.size + 1 + 1]? = some (.cells #[.string ⟨#[]⟩, .string ⟨#[]⟩, .string ⟨#[]⟩] 35 (0, 0)) ∧ V.Gm w ∧ (partsE d t).length ≤ 100000 ∧ (∀ x ∈ partsE d t, LitsOk x) ∧ Short M ∧ Ixs w p l ∧ M.length ≤ 100000) := ⟨bw, r1, r2, hg, hlen, hlit, by rw [← hM]; exact hsh, hI, by rw [← hM]; exact hlM⟩
  have cx0 := cell_of_row w1 _ 0 _ _ _ r0
  have cx1 := cell_of_row w1 _ 1 _ _ _ r0
  have cx2 := cell_of_row w1 _ 2 _ _ _ r0
  have cx3 := cell_of_row w1 _ 3 _ _ _ r0
  have cx4 := cell_of_row w1 _ 4 _ _ _ r0
  have cx5 := cell_of_row w1 _ 5 _ _ _ r0
  have cx6 := cell_of_row w1 _ 6 _ _ _ r0
  have cx7 := cell_of_row w1 _ 7 _ _ _ r0
  have cx8 := cell_of_row w1 _ 8 _ _ _ r0
  have cx9 := cell_of_row w1 _ 9 _ _ _ r0
  obtain ⟨n, hn⟩ : ∃ n, l.length = n := ⟨_, rfl⟩
  rw [hn] at HW HH ⊢
  have HN := mkHid hn
  rw [hM]
  clear hw1 r0 r1 r2 bw hx hx1 hg hlen hlit hsh hI hlM hM hn
  obtain ⟨A, hA⟩ : ∃ A, chooseL M l = A := ⟨_, rfl⟩
  rw [hA]
  have HA := mkHid hA
  clear hA
  go_enter Tryz.func9, Tryz.ntmps9
  go_wp2_with (first | rw [HW.out] | fail)
  unfold rowX at kj
  refine kj.mono ?_
  rintro e w2 ⟨u2, rfl, ho2, hu2, hz2⟩
  have hb2 : Below w1.heap.size w1 w2 := hu2.below (Nat.le_refl _) (fun k hk => by cases hk)
  have HB2 : Hid (Below w.heap.size w w2 ∧ w2.heap[w.heap.size + 1]? = some (.cells #[.slice p n c] 22 (0, 0)) ∧ w2.heap[w.heap.size + 1 + 1]? = some (.cells #[.string ⟨#[]⟩, .string ⟨#[]⟩, .string ⟨#[]⟩] 35 (0, 0))) := ⟨HH.out.1.trans (hb2.mono HH.out.1.size), Below.row hb2 HH.out.2.1, Below.row hb2 HH.out.2.2.1⟩
  have ke : Calls Tryz.prog 25 #[u2, .func (.func 27) #[] #[]] w2 (GivesL w2 ((partsE d t).map saidE)) := each_any ho2 HH.out.2.2.2.2.1 saidE (fun x d' R W' hm hbW hL => said_any hL (HH.out.2.2.2.1.later (HB2.out.1.trans (hbW.mono HB2.out.1.size)) HH.out.2.2.2.1.pos) (HH.out.2.2.2.2.2.1 x hm))
  rw [HM.out] at ke
  clear kj ho2 hu2 hz2 hb2 cx0 cx1 cx2 cx3 cx4 cx5 cx6 cx7 cx8 cx9
  go_wp2_with fail
  refine ke.mono ?_
  rintro e w3 ⟨u3, rfl, ho3, hb3⟩
  have HB3 : Hid (Below w.heap.size w w3 ∧ w3.heap[w.heap.size + 1]? = some (.cells #[.slice p n c] 22 (0, 0)) ∧ w3.heap[w.heap.size + 1 + 1]? = some (.cells #[.string ⟨#[]⟩, .string ⟨#[]⟩, .string ⟨#[]⟩] 35 (0, 0)) ∧ Ow EPl 35 3 w2.heap.size w3 u3 M) := ⟨HB2.out.1.trans (hb3.mono HB2.out.1.size), Below.row hb3 HB2.out.2.1, Below.row hb3 HB2.out.2.2, ho3⟩
  have ki := idx_plans ho3 HH.out.2.2.2.2.2.2.2.2 (fun r => servesB r.1 l) (w.heap.size + 1) (fun r W hm hbW => clo_any p c l r.1 r.2.1 r.2.2 (w.heap.size + 1) W (HH.out.2.2.2.2.2.2.2.1.later (HB3.out.1.trans (hbW.mono HB3.out.1.size))) (by rw [HN.out]; exact Below.row hbW HB3.out.2.1))
  clear ke ho3 hb3 HB2
  go_wp2_with fail
  refine ki.mono ?_
  rintro e w4 ⟨rfl, hb4⟩
  have HB4 : Hid (Below w.heap.size w w4 ∧ w4.heap[w.heap.size + 1 + 1]? = some (.cells #[.string ⟨#[]⟩, .string ⟨#[]⟩, .string ⟨#[]⟩] 35 (0, 0)) ∧ Ow EPl 35 3 w2.heap.size w4 u3 M) := ⟨HB3.out.1.trans (hb4.mono HB3.out.1.size), Below.row hb4 HB3.out.2.2.1, by
    obtain ⟨L, q1, q2⟩ := HB3.out.2.2.2.own
    exact ⟨L, own_lat q1 hb4, epl_any _ _ _ _ _ _ q2⟩⟩
  clear ki hb4 HB3
  have z0 := cell_of_row w4 _ 0 _ _ _ HB4.out.2.1
  have y0 := frozen_of_row w4 _ 0 _ _ HB4.out.2.1
  have z1 := cell_of_row w4 _ 1 _ _ _ HB4.out.2.1
  have y1 := frozen_of_row w4 _ 1 _ _ HB4.out.2.1
  have z2 := cell_of_row w4 _ 2 _ _ _ HB4.out.2.1
  have y2 := frozen_of_row w4 _ 2 _ _ HB4.out.2.1
  rcases fidx_find (fun r => servesB r.1 l) M 0 with ⟨h1, h2⟩ | ⟨j, r, h1, h2, h3⟩
  · rw [h1]
    have HP := mkHid h2
    clear h1 h2
    go_wp2
    have hro : (((w4.setCell ⟨w.heap.size + 1 + 1, 0, none⟩ (.string ⟨#[]⟩)).setCell ⟨w.heap.size + 1 + 1, 1, none⟩ (.string ⟨#[]⟩)).setCell ⟨w.heap.size + 1 + 1, 2, none⟩ (.string ⟨#[]⟩)).heap[w.heap.size + 1 + 1]? = some (.cells #[.string ⟨#[]⟩, .string ⟨#[]⟩, .string ⟨#[]⟩] 35 (0, 0)) := row_setCell (k := 2) (row_setCell (k := 1) (row_setCell (k := 0) HB4.out.2.1 (.string ⟨#[]⟩)) (.string ⟨#[]⟩)) (.string ⟨#[]⟩)
    have hbf : Below w.heap.size w (((w4.setCell ⟨w.heap.size + 1 + 1, 0, none⟩ (.string ⟨#[]⟩)).setCell ⟨w.heap.size + 1 + 1, 1, none⟩ (.string ⟨#[]⟩)).setCell ⟨w.heap.size + 1 + 1, 2, none⟩ (.string ⟨#[]⟩)) := ((HB4.out.1.setCell (p := ⟨w.heap.size + 1 + 1, 0, none⟩) (by show w.heap.size ≤ w.heap.size + 1 + 1; omega) _).setCell (p := ⟨w.heap.size + 1 + 1, 1, none⟩) (by show w.heap.size ≤ w.heap.size + 1 + 1; omega) _).setCell (p := ⟨w.heap.size + 1 + 1, 2, none⟩) (by show w.heap.size ≤ w.heap.size + 1 + 1; omega) _
    obtain ⟨wf, hwf⟩ : ∃ wf, (((w4.setCell ⟨w.heap.size + 1 + 1, 0, none⟩ (.string ⟨#[]⟩)).setCell ⟨w.heap.size + 1 + 1, 1, none⟩ (.string ⟨#[]⟩)).setCell ⟨w.heap.size + 1 + 1, 2, none⟩ (.string ⟨#[]⟩)) = wf := ⟨_, rfl⟩
    rw [hwf] at hro hbf ⊢
    clear hwf
    have o0 := cell_of_row wf _ 0 _ _ _ hro
    have o1 := cell_of_row wf _ 1 _ _ _ hro
    have o2 := cell_of_row wf _ 2 _ _ _ hro
    refine bodyPost_ret (v := .agg #[.string ⟨#[]⟩, .string ⟨#[]⟩, .string ⟨#[]⟩]) (by simp [results, Tryz.results9, go_sem, o0, o1, o2]) rfl ?_
    have hAe : A = (⟨#[]⟩, ⟨#[]⟩, ⟨#[]⟩) := by rw [← HA.out]; unfold chooseL; rw [HP.out]; rfl
    rw [hAe]
    exact ⟨rfl, hbf⟩
  · rw [h1]
    have HP : Hid (M[j]? = some r ∧ M.find? (fun r => servesB r.1 l) = some r) := ⟨h2, h3⟩
    have hj := (List.getElem?_eq_some_iff.1 h2).1
    obtain ⟨g, c3, hv3, hlc, hcm, -, hlt, b0, b1, b2⟩ := pl_at HB4.out.2.2 h2
    subst hv3
    obtain ⟨m, hm⟩ : ∃ m, M.length = m := ⟨_, rfl⟩
    rw [hm] at hj hlc HB4 ⊢
    have HM2 := mkHid hm
    have hm1 : m ≤ 100000 := by rw [← hm]; exact HH.out.2.2.2.2.2.2.2.2
    have hj1 : (j : Int) < (m : Int) := by omega
    have hj0 : ¬ (j : Int) < 0 := by omega

    obtain ⟨r0, r1, r2⟩ := r
    have b0' : w4.cell? ⟨g, j * 3, none⟩ = some (.string r0) := b0
    have hz4 := lt_of_row HB4.out.2.1
    have hgz := HB4.out.1.size
    clear h1 h2 h3 hm b0 b1 b2
    rw [Nat.zero_add]
    go_wp2_with fail
    refine any_tail (by kernel_rfl) 8 (by exact Nat.le_of_ble_eq_true rfl) (fun i => if i < 7 then i + 19 else 7) (mixR [(7, PtZ w4.heap.size)] [.slice (some ⟨g, 0, none⟩) m c3, .int .i64 (j : Int), .pointer (some ⟨g, j * 3, none⟩), .pointer (some ⟨g, j * 3, none⟩), .string r0, .agg #[.string ⟨#[]⟩, .string ⟨#[]⟩], .agg #[.string r0, .string ⟨#[]⟩, .string ⟨#[]⟩], undef]) (by kernel_rfl) (by kernel_rfl) (by kernel_rfl) (by kernel_rfl) (mixR_later _ _ (stab_cons (PtZ.later) (stab_nil))) ?step ?post
    case step =>
      intro iq hiq a W hrest hb hk
      have hp5 : a.eval (.tmp 5) = .slice (some ⟨g, 0, none⟩) m c3 := (hrest 5 (by intro iq2 hiq2; (repeat' split) <;> omega)).trans rfl
      have fp5 := ev hp5
      have hp6 : a.eval (.tmp 6) = .int .i64 (j : Int) := (hrest 6 (by intro iq2 hiq2; (repeat' split) <;> omega)).trans rfl
      have fp6 := ev hp6
      clear hrest
      obtain rfl | rfl | rfl | rfl | rfl | rfl | rfl | rfl : iq = 0 ∨ iq = 1 ∨ iq = 2 ∨ iq = 3 ∨ iq = 4 ∨ iq = 5 ∨ iq = 6 ∨ iq = 7 := by omega
      · clear hiq
        clear hk
        refine ⟨_, rfl, rfl, rfl, wp_value (v := .slice (some ⟨g, 0, none⟩) m c3) (w' := W) ?_ ⟨_, rfl, Below.refl _ _, rfl⟩⟩
        go_simp
      · clear hiq
        clear hk
        refine ⟨_, rfl, rfl, rfl, wp_value (v := .int .i64 (j : Int)) (w' := W) ?_ ⟨_, rfl, Below.refl _ _, rfl⟩⟩
        go_simp
      · clear hiq
        have e0 : a.eval (.tmp 19) = .slice (some ⟨g, 0, none⟩) m c3 := hk 0 (mem_of (by kernel_rfl))
        have f0 := ev e0
        have e1 : a.eval (.tmp 20) = .int .i64 (j : Int) := hk 1 (mem_of (by kernel_rfl))
        have f1 := ev e1
        clear hk
        refine ⟨_, rfl, rfl, rfl, wp_value (v := .pointer (some ⟨g, j * 3, none⟩)) (w' := W) ?_ ⟨_, rfl, Below.refl _ _, rfl⟩⟩
        go_simp
      · clear hiq
        have e2 : a.eval (.tmp 21) = .pointer (some ⟨g, j * 3, none⟩) := hk 2 (mem_of (by kernel_rfl))
        have f2 := ev e2
        clear hk
        refine ⟨_, rfl, rfl, rfl, wp_value (v := .pointer (some ⟨g, j * 3, none⟩)) (w' := W) ?_ ⟨_, rfl, Below.refl _ _, rfl⟩⟩
        go_simp
      · clear hiq
        have e3 : a.eval (.tmp 22) = .pointer (some ⟨g, j * 3, none⟩) := hk 3 (mem_of (by kernel_rfl))
        have f3 := ev e3
        have hcj : W.cell? ⟨g, j * 3, none⟩ = some (.string r0) := (hb.cell (p := ⟨g, j * 3, none⟩) hlt).trans b0'
        clear hk
        refine ⟨_, rfl, rfl, rfl, wp_value (v := .string r0) (w' := W) ?_ ⟨_, rfl, Below.refl _ _, rfl⟩⟩
        go_simp
      · clear hiq
        clear hk
        refine ⟨_, rfl, rfl, rfl, wp_enter (f := 31) (args := #[]) ?_ ((V.all_any W).mono ?_)⟩
        · go_simp
        · rintro e w2 ⟨rfl, hb2⟩
          exact ⟨_, rfl, _, rfl, hb2, rfl⟩
      · clear hiq
        have e4 : a.eval (.tmp 23) = .string r0 := hk 4 (mem_of (by kernel_rfl))
        have f4 := ev e4
        have e5 : a.eval (.tmp 24) = .agg #[.string ⟨#[]⟩, .string ⟨#[]⟩] := hk 5 (mem_of (by kernel_rfl))
        have f5 := ev e5
        clear hk
        refine ⟨_, rfl, rfl, rfl, wp_value (v := .agg #[.string r0, .string ⟨#[]⟩, .string ⟨#[]⟩]) (w' := W) ?_ ⟨_, rfl, Below.refl _ _, rfl⟩⟩
        go_simp
      · clear hiq
        clear hk
        refine ⟨_, rfl, rfl, rfl, wp_value (v := .pointer (some ⟨W.heap.size, 0, none⟩)) (w' := W.alloc (.cells #[.string ⟨#[]⟩, .string ⟨#[]⟩, .string ⟨#[]⟩] 35)) ?_ ⟨_, rfl, (Below.refl _ W).alloc (Nat.le_refl _) _, _, rfl, hb.size, heap_alloc_new _ _⟩⟩
        go_simp
    case post =>
      intro V1 W hbW hV
      have v6 : V1 6 = .agg #[.string r0, .string ⟨#[]⟩, .string ⟨#[]⟩] := hV 6 (by omega)
      obtain ⟨b, v7, hbb, hbr⟩ := show PtZ w4.heap.size (V1 7) W from hV 7 (by omega)
      have H5 : Hid (Below w.heap.size w W ∧ W.heap[w.heap.size + 1 + 1]? = some (.cells #[.string ⟨#[]⟩, .string ⟨#[]⟩, .string ⟨#[]⟩] 35 (0, 0)) ∧ Ow EPl 35 3 w2.heap.size W (.slice (some ⟨g, 0, none⟩) m c3) M ∧ W.heap[b]? = some (.cells #[.string ⟨#[]⟩, .string ⟨#[]⟩, .string ⟨#[]⟩] 35 (0, 0))) := ⟨HB4.out.1.trans (hbW.mono HB4.out.1.size), Below.row hbW HB4.out.2.1, by
        obtain ⟨L, q1, q2⟩ := HB4.out.2.2.own
        exact ⟨L, own_lat q1 hbW, epl_any _ _ _ _ _ _ q2⟩, hbr⟩
      have x0 := cell_of_row W _ 0 _ _ _ hbr
      have x1 := cell_of_row W _ 1 _ _ _ hbr
      have x2 := cell_of_row W _ 2 _ _ _ hbr
      have g0 := frozen_of_row W _ 0 _ _ hbr
      have g1 := frozen_of_row W _ 1 _ _ hbr
      have g2 := frozen_of_row W _ 2 _ _ hbr
      clear hV hbW hbr HB4 z0 z1 z2 y0 y1 y2 b0'
      simp only [putAll, reduceIte, Nat.reduceLT, Nat.reduceAdd]
      rw [v6, v7]
      simp only [Act.put, List.setIfInBounds_toArray, List.set_cons_zero, List.set_cons_succ]
      go_wp2_with fail
      have hob : ∀ k, (Value.slice (some ⟨g, 0, none⟩) m c3).ownBlock = some k → k < b := fun k hk => by
        have e : some g = some k := hk
        injection e with e
        omega
      have HC0 : ChW w (((W.setCell ⟨b, 0, none⟩ (.string r0)).setCell ⟨b, 1, none⟩ (.string ⟨#[]⟩)).setCell ⟨b, 2, none⟩ (.string ⟨#[]⟩)) b (w.heap.size + 1 + 1) w2.heap.size (.slice (some ⟨g, 0, none⟩) m c3) M r0 ⟨#[]⟩ ⟨#[]⟩ := by
        have hbel : Below b W (((W.setCell ⟨b, 0, none⟩ (.string r0)).setCell ⟨b, 1, none⟩ (.string ⟨#[]⟩)).setCell ⟨b, 2, none⟩ (.string ⟨#[]⟩)) := (((Below.refl b W).setCell (p := ⟨b, 0, none⟩) (Nat.le_refl b) _).setCell (p := ⟨b, 1, none⟩) (Nat.le_refl b) _).setCell (p := ⟨b, 2, none⟩) (Nat.le_refl b) _
        refine ⟨((H5.out.1.setCell (p := ⟨b, 0, none⟩) (by show w.heap.size ≤ b; omega) _).setCell (p := ⟨b, 1, none⟩) (by show w.heap.size ≤ b; omega) _).setCell (p := ⟨b, 2, none⟩) (by show w.heap.size ≤ b; omega) _, (hbel.block _ (by omega)).trans H5.out.2.1, row_setCell (k := 2) (row_setCell (k := 1) (row_setCell (k := 0) H5.out.2.2.2 (.string r0)) (.string ⟨#[]⟩)) (.string ⟨#[]⟩), ?_, hob, by omega, by omega⟩
        obtain ⟨L, q1, q2⟩ := H5.out.2.2.1.own
        refine ⟨L, ⟨q1.1, ?_⟩, epl_any _ _ _ _ _ _ q2⟩
        rcases q1.2 with hn | ⟨g', cap, cur, hv, hg, hr, rest⟩
        · exact .inl hn
        · refine .inr ⟨g', cap, cur, hv, hg, (hbel.block g' (hob g' (by rw [hv]; rfl))).trans hr, rest⟩
      obtain ⟨wq, hwq⟩ : ∃ wq, (((W.setCell ⟨b, 0, none⟩ (.string r0)).setCell ⟨b, 1, none⟩ (.string ⟨#[]⟩)).setCell ⟨b, 2, none⟩ (.string ⟨#[]⟩)) = wq := ⟨_, rfl⟩
      rw [hwq] at HC0 ⊢
      have HCh := mkHid HC0
      clear hwq HC0 H5 x0 x1 x2 g0 g1 g2 hob
      go_loopw [28] (fun c28 wr => ∃ i : Nat, i ≤ m ∧ c28 = .int .i64 (i : Int) ∧ Hid (ChW w wr b (w.heap.size + 1 + 1) w2.heap.size (.slice (some ⟨g, 0, none⟩) m c3) M r0 (meetL r0 (⟨#[]⟩, ⟨#[]⟩) (M.take i)).1 (meetL r0 (⟨#[]⟩, ⟨#[]⟩) (M.take i)).2)) (fun c28 _ => m - (intOf c28).toNat)
      case atStart =>
        refine ⟨0, Nat.zero_le _, rfl, ?_⟩
        exact HCh
      case round =>
        obtain ⟨i, hi, rfl, hh⟩ := hrel
        by_cases hiq : i < m
        · have hil : i < M.length := by rw [HM2.out]; exact hiq
          obtain ⟨r, hr⟩ : ∃ r, M[i]? = some r := ⟨_, List.getElem?_eq_getElem hil⟩
          obtain ⟨g', c', hv', -, -, -, hlt', a0, a1, a2⟩ := pl_at hh.out.ow hr
          have e1 : g = g' := by
            injection hv' with e1 _ _
            injection e1 with e1
            injection e1 with e1 _
          clear hv'
          subst e1
          have hiq' : (i : Int) < (m : Int) := by omega
          have hst := meet_snoc r0 (M.take i) (⟨#[]⟩, ⟨#[]⟩) r
          have htk : M.take (i + 1) = M.take i ++ [r] := by rw [List.take_add_one, hr]; rfl
          rw [← htk] at hst
          have hl2 : (meetL r0 (⟨#[]⟩, ⟨#[]⟩) (M.take i)).2.size ≤ 20000 := meet_len _ _ _ (fun q hq => HH.out.2.2.2.2.2.2.1 q (List.mem_of_mem_take hq)) (Nat.zero_le _)
          have hl3 : r.2.2.size ≤ 20000 := HH.out.2.2.2.2.2.2.1 r (List.mem_of_getElem? hr)
          obtain ⟨s2, hs2⟩ : ∃ s2, meetL r0 (⟨#[]⟩, ⟨#[]⟩) (M.take i) = s2 := ⟨_, rfl⟩
          rw [hs2] at hh hst hl2
          obtain ⟨lo, hi2⟩ := s2
          obtain ⟨q0, q1, q2⟩ := r
          have HS := mkHid hst
          obtain ⟨W1, hW1⟩ : ∃ u, wr.alloc (.cells #[.string q0, .string q1, .string q2] 35) = u := ⟨_, rfl⟩
          obtain ⟨r1', bw1⟩ := alloc1 hW1
          have hC1 := hh.out.later bw1
          have HW1 := mkHid hW1
          have HC1 := mkHid hC1
          have d0 := cell_of_row W1 _ 0 _ _ _ r1'
          have d1 := cell_of_row W1 _ 1 _ _ _ r1'
          have d2 := cell_of_row W1 _ 2 _ _ _ r1'
          have f0 := cell_of_row W1 _ 0 _ _ _ hC1.br
          have f1 := cell_of_row W1 _ 1 _ _ _ hC1.br
          have f2 := cell_of_row W1 _ 2 _ _ _ hC1.br
          have km := fun W => V.meet_any lo hi2 q1 q2 W (by unfold maxLen; show hi2.size ≤ _; have : hi2.size ≤ 20000 := hl2; omega) (by unfold maxLen; show q2.size ≤ _; have : q2.size ≤ 20000 := hl3; omega)
          obtain ⟨eq, heq⟩ : ∃ eq, (q0.toList == r0.toList) = eq := ⟨_, rfl⟩
          have HEQ := mkHid heq
          clear hh hr hil htk hst hl2 hl3 hs2 hW1 r1' bw1 hC1 hlt'
          cases eq with
          | true =>
            go_wp2_with (first | rw [HW1.out] | fail)
            refine (km _).mono ?_
            rintro e W5 ⟨rfl, hb5⟩
            have hC5 := HC1.out.later hb5
            have HC5 := mkHid hC5
            have k1 := cell_of_row W5 _ 1 _ _ _ hC5.br
            have k2 := cell_of_row W5 _ 2 _ _ _ hC5.br
            have l1 := frozen_of_row W5 _ 1 _ _ hC5.br
            have l2 := frozen_of_row W5 _ 2 _ _ hC5.br
            have HR := HC5.out.set (V.maxS lo q1) (V.lowerB hi2 q2)
            have HRR := mkHid HR
            clear hb5 hC5 km HR d0 d1 d2 f0 f1 f2 a0 a1 a2
            go_wp2
            go_roundw
            case rel =>
              refine ⟨i + 1, by omega, by go_num, ?_⟩
              rw [HS.out, if_pos HEQ.out]
              exact HRR
            case measure => simp [intOf]; omega
          | false =>
            go_wp2_with (first | rw [HW1.out] | fail)
            go_roundw
            case rel =>
              refine ⟨i + 1, by omega, by go_num, ?_⟩
              rw [HS.out, if_neg (by rw [HEQ.out]; exact Bool.false_ne_true)]
              exact HC1
            case measure => simp [intOf]; omega
        · obtain rfl : i = m := by omega
          rw [← HM2.out, List.take_length] at hh
          have hAA : A = (r0, (meetL r0 (⟨#[]⟩, ⟨#[]⟩) M).1, (meetL r0 (⟨#[]⟩, ⟨#[]⟩) M).2) := by
            rw [← HA.out]
            unfold chooseL
            rw [HP.out.2]
          obtain ⟨s2, hs2⟩ : ∃ s2, meetL r0 (⟨#[]⟩, ⟨#[]⟩) M = s2 := ⟨_, rfl⟩
          rw [hs2] at hh hAA
          obtain ⟨lo, hi2⟩ := s2
          have HAA : Hid (A = (r0, lo, hi2)) := hAA
          have f0 := cell_of_row wr _ 0 _ _ _ hh.out.br
          have f1 := cell_of_row wr _ 1 _ _ _ hh.out.br
          have f2 := cell_of_row wr _ 2 _ _ _ hh.out.br
          have z0 := cell_of_row wr _ 0 _ _ _ hh.out.zr
          have y0 := frozen_of_row wr _ 0 _ _ hh.out.zr
          have z1 := cell_of_row wr _ 1 _ _ _ hh.out.zr
          have y1 := frozen_of_row wr _ 1 _ _ hh.out.zr
          have z2 := cell_of_row wr _ 2 _ _ _ hh.out.zr
          have y2 := frozen_of_row wr _ 2 _ _ hh.out.zr
          clear hAA hs2
          go_wp2
          have hro : (((wr.setCell ⟨w.heap.size + 1 + 1, 0, none⟩ (.string r0)).setCell ⟨w.heap.size + 1 + 1, 1, none⟩ (.string lo)).setCell ⟨w.heap.size + 1 + 1, 2, none⟩ (.string hi2)).heap[w.heap.size + 1 + 1]? = some (.cells #[.string r0, .string lo, .string hi2] 35 (0, 0)) := row_setCell (k := 2) (row_setCell (k := 1) (row_setCell (k := 0) hh.out.zr (.string r0)) (.string lo)) (.string hi2)
          have hbf : Below w.heap.size w (((wr.setCell ⟨w.heap.size + 1 + 1, 0, none⟩ (.string r0)).setCell ⟨w.heap.size + 1 + 1, 1, none⟩ (.string lo)).setCell ⟨w.heap.size + 1 + 1, 2, none⟩ (.string hi2)) := ((hh.out.bel.setCell (p := ⟨w.heap.size + 1 + 1, 0, none⟩) (by show w.heap.size ≤ w.heap.size + 1 + 1; omega) _).setCell (p := ⟨w.heap.size + 1 + 1, 1, none⟩) (by show w.heap.size ≤ w.heap.size + 1 + 1; omega) _).setCell (p := ⟨w.heap.size + 1 + 1, 2, none⟩) (by show w.heap.size ≤ w.heap.size + 1 + 1; omega) _
          obtain ⟨wf, hwf⟩ : ∃ wf, (((wr.setCell ⟨w.heap.size + 1 + 1, 0, none⟩ (.string r0)).setCell ⟨w.heap.size + 1 + 1, 1, none⟩ (.string lo)).setCell ⟨w.heap.size + 1 + 1, 2, none⟩ (.string hi2)) = wf := ⟨_, rfl⟩
          rw [hwf] at hro hbf ⊢
          clear hwf
          have o0 := cell_of_row wf _ 0 _ _ _ hro
          have o1 := cell_of_row wf _ 1 _ _ _ hro
          have o2 := cell_of_row wf _ 2 _ _ _ hro
          refine bodyPost_ret (v := .agg #[.string r0, .string lo, .string hi2]) (by simp [results, Tryz.results9, go_sem, o0, o1, o2]) rfl ?_
          have hAe : A = (r0, lo, hi2) := HAA.out
          rw [hAe]
          exact ⟨rfl, hbf⟩
end Go.Proofs.YtfemippjaokcmaaGreatDoor
