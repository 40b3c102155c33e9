/- What may be inserted, updated, selected (insertion, update, selection). The laws' has, twice, where. A catalog of some tables and fields (table). What the laws want of a statement (want): its cases. What the laws want of an update. Statements that were parsed: which kinds there are, and how long a table's name is. CheckStmts: what is told of any statement, where there are any tables and indexes, is what the document says. CheckStmts: the law's walk. -/
import Derived.Test.YtcniebkehekliaaGreatDoorStc
import Derived.Test.YtcniebkehekliaaGreatDoorTwp
import Derived.Test.YtcniebkehekliaaGreatDoorRki
import Derived.Test.YtcniebkehekliaaGreatDoorAwa
import Derived.Test.YtcniebkehekliaaGreatDoorSmo
import Derived.Test.YtcniebkehekliaaGreatDoorKda
namespace Go.Proofs.YtcniebkehekliaaGreatDoor
open Go.RowKit Go.Shelf
attribute [local go_sem] Oper.semAt_some
def inX (X : Int × Int) : Int := if X.2 = 0 then (if X.1 = 6 then 0 else 131) else X.2
set_option maxRecDepth 100000 in
set_option maxHeartbeats 8000000 in
theorem insert_1 (R : XR) (w : World) (X : Int × Int) (kb : ∀ W, Below w.heap.size w W → Calls Tryz.prog 8 #[rowX R, .bool false] W fun r w' => r = .returned (.tuple #[.int .i64 X.1, .int .i64 X.2]) ∧ Below W.heap.size W w') : Calls Tryz.prog 27 #[rowX R] w fun r w' => r = .returned (.int .i64 (inX X)) ∧ Below w.heap.size w w' := by
  obtain ⟨Z, hZ⟩ : ∃ Z, inX X = Z := ⟨_, rfl⟩
  rw [hZ]
  obtain ⟨w1, hw1⟩ : ∃ w1, w.alloc (.cells #[.int .i64 R.k, .string R.s, .int .i64 R.vk, .bool R.vb, .int .i64 R.vn, .string R.vs, .slice none 0 0, .slice none 0 0, .slice R.kp R.n R.kc, .slice R.np R.m R.nc] 28) = w1 := ⟨_, rfl⟩
  have hb1 : Below w.heap.size w w1 := by rw [← hw1]; exact (Below.refl _ w).alloc (Nat.le_refl _) _
  have r1 : w1.heap[w.heap.size]? = some (.cells (arrX R) 28 (0, 0)) := by rw [← hw1]; exact heap_alloc_new _ _
  have k1 := kb w1 hb1
  have HB : Hid (Below w.heap.size w w1 ∧ w1.heap[w.heap.size]? = some (.cells (arrX R) 28 (0, 0)) ∧ inX X = Z) := ⟨hb1, r1, hZ⟩
  unfold rowX at k1 ⊢
  clear hb1 r1 kb hZ
  go_enter Tryz.func27, Tryz.ntmps27
  go_wp2_with (first | (refine wpList_get rfl 28 (.tmp 1) rfl rfl HB.out.2.1 Tryz.underlying28 rfl info28 ?_; simp only [Act.put, List.setIfInBounds_toArray, List.set_cons_zero, List.set_cons_succ]; unfold arrX) | fail)
  refine k1.mono ?_
  rintro q w2 ⟨rfl, hb2⟩
  have H2 : Hid (Below w.heap.size w w2) := HB.out.1.trans (hb2.mono HB.out.1.size)
  clear k1 hb2 hw1
  by_cases he : X.2 = 0
  · by_cases h6 : X.1 = 6
    · have hZ : Z = 0 := by
        rw [← HB.out.2.2]
        unfold inX
        rw [if_pos he, if_pos h6]
      subst hZ
      have ke := errorIf_any false 131 w2
      simp only [Bool.false_eq_true, reduceIte] at ke
      go_wp2_with fail
      refine ke.mono ?_
      rintro q w3 ⟨rfl, hw3⟩
      have hw3' := hw3.symm
      clear hw3
      subst hw3'
      clear ke
      go_wp2
      go_ret
      exact ⟨rfl, H2.out⟩
    · have hZ : Z = 131 := by
        rw [← HB.out.2.2]
        unfold inX
        rw [if_pos he, if_neg h6]
      subst hZ
      have h6b : (X.1 != 6) = true := by simpa using h6
      have ke := errorIf_any true 131 w2
      simp only [if_true] at ke
      go_wp2_with fail
      refine ke.mono ?_
      rintro q w3 ⟨rfl, hw3⟩
      have hw3' := hw3.symm
      clear hw3
      subst hw3'
      clear ke
      go_wp2
      go_ret
      exact ⟨rfl, H2.out⟩
  · have hZ : Z = X.2 := by
      rw [← HB.out.2.2]
      unfold inX
      rw [if_neg he]
    subst hZ
    go_wp2
    go_ret
    exact ⟨rfl, H2.out⟩
theorem insertE_any {w : World} {S : Nat → Prop} {d : Nat} {t : Et} {R : XR} (h : LiesE w S d t (rowX R)) (hk : Wfd d t) : Calls Tryz.prog 27 #[rowX R] w fun r w' => r = .returned (.int .i64 (inX (kndF d t false))) ∧ Below w.heap.size w w' :=
  insert_1 R w _ (fun _ hW => kind_any false d (h.since (Since.below hW)) hk)
set_option maxRecDepth 100000 in
set_option maxHeartbeats 8000000 in
theorem select_1 (Q : QR) (w : World) (tw : Bool) (X : Int) (kt : ∀ W, Below w.heap.size w W → Calls Tryz.prog 19 #[.slice Q.clp Q.cll Q.clc] W fun r w' => r = .returned (.bool tw) ∧ Below W.heap.size W w') (kw : ∀ W, Below w.heap.size w W → Calls Tryz.prog 29 #[rowX Q.wh] W fun r w' => r = .returned (.int .i64 X) ∧ Below W.heap.size W w') : Calls Tryz.prog 30 #[.agg (qrA Q)] w fun r w' => r = .returned (.int .i64 (if tw = true then 133 else X)) ∧ Below w.heap.size w w' := by
  obtain ⟨w1, hw1⟩ : ∃ w1, w.alloc (.cells #[.int .i64 Q.k, .string Q.t, .string Q.f, .int .i64 Q.v.k, .string Q.v.s, .int .i64 Q.v.vk, .bool Q.v.vb, .int .i64 Q.v.vn, .string Q.v.vs, .slice none 0 0, .slice none 0 0, .slice Q.v.kp Q.v.n Q.v.kc, .slice Q.v.np Q.v.m Q.v.nc, .slice Q.nmp Q.nml Q.nmc, .slice Q.exp Q.exl Q.exc, .int .i64 Q.wh.k, .string Q.wh.s, .int .i64 Q.wh.vk, .bool Q.wh.vb, .int .i64 Q.wh.vn, .string Q.wh.vs, .slice none 0 0, .slice none 0 0, .slice Q.wh.kp Q.wh.n Q.wh.kc, .slice Q.wh.np Q.wh.m Q.wh.nc, .slice Q.clp Q.cll Q.clc, .bool Q.cn, .bool Q.hi, .string Q.od, .bool Q.de, .int .i64 Q.li] 30) = w1 := ⟨_, rfl⟩
  have hb1 : Below w.heap.size w w1 := by rw [← hw1]; exact (Below.refl _ w).alloc (Nat.le_refl _) _
  have r1 : w1.heap[w.heap.size]? = some (.cells (qrA Q) 30 (0, 0)) := by rw [← hw1]; exact heap_alloc_new _ _
  have l1 := lt_of_row r1
  have x25 : w1.cell? ⟨w.heap.size, 25, none⟩ = some (.slice Q.clp Q.cll Q.clc) := cell_of_row w1 _ 25 _ _ _ r1
  have k1 := kt w1 hb1
  have HB : Hid (Below w.heap.size w w1 ∧ w1.heap[w.heap.size]? = some (.cells (qrA Q) 30 (0, 0))) := ⟨hb1, r1⟩
  unfold qrA
  clear hb1 r1 kt
  cases tw with
  | true =>
    rw [if_pos rfl]
    go_enter Tryz.func30, Tryz.ntmps30
    go_wp2_with fail
    refine k1.mono ?_
    rintro q w2 ⟨rfl, hb2⟩
    have H2 : Hid (Below w.heap.size w w2) := HB.out.1.trans (hb2.mono HB.out.1.size)
    clear k1 hb2
    go_wp2
    go_ret
    exact ⟨rfl, H2.out⟩
  | false =>
    rw [if_neg (by decide)]
    go_enter Tryz.func30, Tryz.ntmps30
    go_wp2_with fail
    refine k1.mono ?_
    rintro q w2 ⟨rfl, hb2⟩
    have hB2 : Below w.heap.size w w2 := HB.out.1.trans (hb2.mono HB.out.1.size)
    have HR : Hid (w2.rangeAt w.heap.size 15 (arrX Q.wh).toList) := rng_wh ((hb2.block _ l1).trans HB.out.2)
    have k2 := kw w2 hB2
    unfold rowX at k2
    have H2 : Hid (Below w.heap.size w w2) := hB2
    clear k1 hb2 kw hB2
    go_wp2_with (first | (refine wpList_load_mid rfl 28 (.tmp 6) rfl w.heap.size 15 rfl (arrX Q.wh).toList _ HR.out Tryz.underlying28 rfl (i28x Q.wh) ?_; simp only [Act.put, List.setIfInBounds_toArray, List.set_cons_zero, List.set_cons_succ, Array.toArray_toList]; unfold arrX) | fail)
    refine k2.mono ?_
    rintro q w3 ⟨rfl, hb3⟩
    have H3 : Hid (Below w.heap.size w w3) := H2.out.trans (hb3.mono H2.out.size)
    clear k2 hb3
    go_wp2
    go_ret
    exact ⟨rfl, H3.out⟩
set_option maxRecDepth 100000 in
set_option maxHeartbeats 8000000 in
theorem update_1 (Q : QR) (w : World) (tw : Bool) (X : Int) (K : List Int × Int) (kk : ∀ W, Below w.heap.size w W → Calls Tryz.prog 18 #[.slice Q.exp Q.exl Q.exc, .bool true] W (GivesK W K)) (kt : ∀ W, Below w.heap.size w W → Calls Tryz.prog 19 #[.slice Q.nmp Q.nml Q.nmc] W fun r w' => r = .returned (.bool tw) ∧ Below W.heap.size W w') (kw : ∀ W, Below w.heap.size w W → Calls Tryz.prog 29 #[rowX Q.wh] W fun r w' => r = .returned (.int .i64 X) ∧ Below W.heap.size W w') : Calls Tryz.prog 28 #[.agg (qrA Q)] w fun r w' => r = .returned (.int .i64 (if K.2 = 0 then (if tw = true then 133 else X) else K.2)) ∧ Below w.heap.size w w' := by
  obtain ⟨Z, hZ⟩ : ∃ Z, (if K.2 = 0 then (if tw = true then 133 else X) else K.2) = Z := ⟨_, rfl⟩
  rw [hZ]
  obtain ⟨w1, hw1⟩ : ∃ w1, w.alloc (.cells #[.int .i64 Q.k, .string Q.t, .string Q.f, .int .i64 Q.v.k, .string Q.v.s, .int .i64 Q.v.vk, .bool Q.v.vb, .int .i64 Q.v.vn, .string Q.v.vs, .slice none 0 0, .slice none 0 0, .slice Q.v.kp Q.v.n Q.v.kc, .slice Q.v.np Q.v.m Q.v.nc, .slice Q.nmp Q.nml Q.nmc, .slice Q.exp Q.exl Q.exc, .int .i64 Q.wh.k, .string Q.wh.s, .int .i64 Q.wh.vk, .bool Q.wh.vb, .int .i64 Q.wh.vn, .string Q.wh.vs, .slice none 0 0, .slice none 0 0, .slice Q.wh.kp Q.wh.n Q.wh.kc, .slice Q.wh.np Q.wh.m Q.wh.nc, .slice Q.clp Q.cll Q.clc, .bool Q.cn, .bool Q.hi, .string Q.od, .bool Q.de, .int .i64 Q.li] 30) = w1 := ⟨_, rfl⟩
  have hb1 : Below w.heap.size w w1 := by rw [← hw1]; exact (Below.refl _ w).alloc (Nat.le_refl _) _
  have r1 : w1.heap[w.heap.size]? = some (.cells (qrA Q) 30 (0, 0)) := by rw [← hw1]; exact heap_alloc_new _ _
  have l1 := lt_of_row r1
  have x14 : w1.cell? ⟨w.heap.size, 14, none⟩ = some (.slice Q.exp Q.exl Q.exc) := cell_of_row w1 _ 14 _ _ _ r1
  have k1 := kk w1 hb1
  have HB : Hid (Below w.heap.size w w1 ∧ w1.heap[w.heap.size]? = some (.cells (qrA Q) 30 (0, 0)) ∧ (if K.2 = 0 then (if tw = true then 133 else X) else K.2) = Z) := ⟨hb1, r1, hZ⟩
  unfold qrA
  clear hb1 r1 kk hZ
  go_enter Tryz.func28, Tryz.ntmps28
  go_wp2_with fail
  refine k1.mono ?_
  rintro q w2 ⟨p, c, rfl, hKn, hb2⟩
  have hB2 : Below w.heap.size w w2 := HB.out.1.trans (hb2.mono HB.out.1.size)
  have r2 := (hb2.block _ l1).trans HB.out.2.1
  have y13 : w2.cell? ⟨w.heap.size, 13, none⟩ = some (.slice Q.nmp Q.nml Q.nmc) := cell_of_row w2 _ 13 _ _ _ r2
  have k2 := kt w2 hB2
  have l2 := lt_of_row r2
  have H2 : Hid (Below w.heap.size w w2 ∧ w2.heap[w.heap.size]? = some (.cells (qrA Q) 30 (0, 0))) := ⟨hB2, r2⟩
  clear k1 hb2 hB2 r2 hKn kt hw1 x14
  by_cases he : K.2 = 0
  · cases tw with
    | true =>
      have hZ : Z = 133 := by rw [← HB.out.2.2, if_pos he, if_pos rfl]
      subst hZ
      go_wp2_with fail
      refine k2.mono ?_
      rintro q w3 ⟨rfl, hb3⟩
      have H3 : Hid (Below w.heap.size w w3) := H2.out.1.trans (hb3.mono H2.out.1.size)
      clear k2 hb3
      go_wp2
      go_ret
      exact ⟨rfl, H3.out⟩
    | false =>
      have hZ : Z = X := by rw [← HB.out.2.2, if_pos he, if_neg (by decide)]
      subst hZ
      go_wp2_with fail
      refine k2.mono ?_
      rintro q w3 ⟨rfl, hb3⟩
      have hB3 : Below w.heap.size w w3 := H2.out.1.trans (hb3.mono H2.out.1.size)
      have HR : Hid (w3.rangeAt w.heap.size 15 (arrX Q.wh).toList) := rng_wh ((hb3.block _ l2).trans H2.out.2)
      have k3 := kw w3 hB3
      unfold rowX at k3
      have H3 : Hid (Below w.heap.size w w3) := hB3
      clear k2 hb3 kw hB3
      go_wp2_with (first | (refine wpList_load_mid rfl 28 (.tmp 17) rfl w.heap.size 15 rfl (arrX Q.wh).toList _ HR.out Tryz.underlying28 rfl (i28x Q.wh) ?_; simp only [Act.put, List.setIfInBounds_toArray, List.set_cons_zero, List.set_cons_succ, Array.toArray_toList]; unfold arrX) | fail)
      refine k3.mono ?_
      rintro q w4 ⟨rfl, hb4⟩
      have H4 : Hid (Below w.heap.size w w4) := H3.out.trans (hb4.mono H3.out.size)
      clear k3 hb4
      go_wp2
      go_ret
      exact ⟨rfl, H4.out⟩
  · have hZ : Z = K.2 := by rw [← HB.out.2.2, if_neg he]
    subst hZ
    clear k2
    go_wp2
    go_ret
    exact ⟨rfl, H2.out.1⟩
set_option maxRecDepth 100000 in
set_option maxHeartbeats 8000000 in
theorem stmt_index (Q : QR) (w : World) (mv : Value) (fp : Option Addr) (fn fc : Nat) (hlk : ∀ W, Below w.heap.size w W → (Instr.lookup 48 mv (.string Q.t) true).run Tryz.prog W = .ok (.tuple #[.slice fp fn fc, .bool true]) W) (hk : Q.k = 2) (b : Bool) (kc : ∀ W, Below w.heap.size w W → Calls Tryz.prog 26 #[.slice fp fn fc, .string Q.f] W fun r w' => r = .returned (.bool b) ∧ w' = W) :
    Calls Tryz.prog 12 #[mv, .agg (qrA Q)] w fun r w' => r = .returned (.int .i64 (if b = true then 133 else 0)) ∧ Below w.heap.size w w' := by
  obtain ⟨w1, hw1⟩ : ∃ w1, w.alloc (.cells #[.int .i64 Q.k, .string Q.t, .string Q.f, .int .i64 Q.v.k, .string Q.v.s, .int .i64 Q.v.vk, .bool Q.v.vb, .int .i64 Q.v.vn, .string Q.v.vs, .slice none 0 0, .slice none 0 0, .slice Q.v.kp Q.v.n Q.v.kc, .slice Q.v.np Q.v.m Q.v.nc, .slice Q.nmp Q.nml Q.nmc, .slice Q.exp Q.exl Q.exc, .int .i64 Q.wh.k, .string Q.wh.s, .int .i64 Q.wh.vk, .bool Q.wh.vb, .int .i64 Q.wh.vn, .string Q.wh.vs, .slice none 0 0, .slice none 0 0, .slice Q.wh.kp Q.wh.n Q.wh.kc, .slice Q.wh.np Q.wh.m Q.wh.nc, .slice Q.clp Q.cll Q.clc, .bool Q.cn, .bool Q.hi, .string Q.od, .bool Q.de, .int .i64 Q.li] 30) = w1 := ⟨_, rfl⟩
  have hb1 : Below w.heap.size w w1 := by rw [← hw1]; exact (Below.refl _ w).alloc (Nat.le_refl _) _
  have r1 : w1.heap[w.heap.size]? = some (.cells (qrA Q) 30 (0, 0)) := by rw [← hw1]; exact heap_alloc_new _ _
  have l1 := lt_of_row r1
  have x0 : w1.cell? ⟨w.heap.size, 0, none⟩ = some (.int .i64 2) := (cell_of_row w1 _ 0 _ _ _ r1).trans (by rw [← hk]; rfl)
  have x1 : w1.cell? ⟨w.heap.size, 1, none⟩ = some (.string Q.t) := cell_of_row w1 _ 1 _ _ _ r1
  have x2 : w1.cell? ⟨w.heap.size, 2, none⟩ = some (.string Q.f) := cell_of_row w1 _ 2 _ _ _ r1
  have hl := hlk w1 hb1
  have k1 := kc w1 hb1
  have ke := errorIf_any b 133 w1
  have HB : Hid (Below w.heap.size w w1) := hb1
  unfold qrA
  clear hb1 r1 hlk hk kc l1
  cases b with
  | true =>
    simp only [if_true] at ke ⊢
    go_enter Tryz.func12, Tryz.ntmps12
    go_wp2_with fail
    refine k1.mono ?_
    rintro q w3 ⟨rfl, hw3⟩
    have hw3' := hw3.symm
    clear hw3
    subst hw3'
    clear k1
    go_wp2_with fail
    refine ke.mono ?_
    rintro q w3 ⟨rfl, hw3⟩
    have hw3' := hw3.symm
    clear hw3
    subst hw3'
    clear ke
    go_wp2
    go_ret
    exact ⟨rfl, HB.out⟩
  | false =>
    simp only [Bool.false_eq_true, reduceIte] at ke ⊢
    go_enter Tryz.func12, Tryz.ntmps12
    go_wp2_with fail
    refine k1.mono ?_
    rintro q w3 ⟨rfl, hw3⟩
    have hw3' := hw3.symm
    clear hw3
    subst hw3'
    clear k1
    go_wp2_with fail
    refine ke.mono ?_
    rintro q w3 ⟨rfl, hw3⟩
    have hw3' := hw3.symm
    clear hw3
    subst hw3'
    clear ke
    go_wp2
    go_ret
    exact ⟨rfl, HB.out⟩
end Go.Proofs.YtcniebkehekliaaGreatDoor
namespace Go.Proofs.YtcniebkehekliaaGreatDoor
open Go.RowKit Go.Shelf
attribute [local go_sem] Oper.semAt_some
/- Whether a text is among the first ones of a list. -/
def hasN (n : Nat) (g : Nat → ByteArray) (x : ByteArray) : Prop := ∃ i, i < n ∧ g i = x
set_option maxRecDepth 100000 in
set_option maxHeartbeats 8000000 in
theorem has_any {w : World} {S : Nat → Prop} {p : Option Addr} {n c : Nat} {g : Nat → ByteArray} (h : Nms w S p n c g) (hn : n ≤ 1000) (x : ByteArray) (b : Bool) (hb : b = true ↔ hasN n g x) : Calls Tryz.prog 31 #[.slice p n c, .string x] w fun r w' => r = .returned (.bool b) ∧ w' = w := by
  have hcap := h.cap
  have hmx : maxLen = 9223372036854775807 := rfl
  have HS : Hid (Nms w S p n c g ∧ (b = true ↔ hasN n g x)) := ⟨h, hb⟩
  clear h hb
  go_enter Tryz.func31, Tryz.ntmps31
  go_wp2_with fail
  go_loopw [5] (fun c5 wr => ∃ i : Nat, i ≤ n ∧ c5 = .int .i64 (i : Int) ∧ Hid (∀ j, j < i → ¬ g j = x) ∧ wr = w) (fun c5 _ => n - (intOf c5).toNat)
  case atStart =>
    have h0 : ∀ j, j < 0 → ¬ g j = x := fun j hj => absurd hj (Nat.not_lt_zero _)
    exact ⟨0, Nat.zero_le _, rfl, h0, rfl⟩
  case round =>
    obtain ⟨i, hi, rfl, ha, hwr0⟩ := hrel
    have hwr1 := hwr0.symm
    clear hwr0
    subst hwr1
    by_cases hlt : i < n
    · have hlt' : (i : Int) < (n : Int) := by omega
      obtain ⟨gb, go, rfl, -, hgl, hgc⟩ := HS.out.1.lies (by omega)
      have c1 := hgc i hlt
      clear hgc
      by_cases e : g i = x
      · have hbt : b = true := HS.out.2.2 ⟨i, hlt, e⟩
        subst hbt
        rw [e] at c1
        clear HS ha e
        go_wp2
        go_ret
        exact ⟨rfl, rfl⟩
      · have e2 := ba_ne e
        have ha2 : Hid (∀ j, j < i + 1 → ¬ g j = x) := by
          have h1 : ∀ j, j < i + 1 → ¬ g j = x := fun j hj => by
            rcases (by omega : j < i ∨ j = i) with h | h
            · exact ha.out j h
            · rw [h]; exact e
          exact h1
        clear ha e
        go_wp2_with fail
        go_roundw
        case rel => exact ⟨i + 1, by omega, by go_num, ha2, by first | rfl | trivial⟩
        case measure => simp [intOf]; omega
    · obtain rfl : i = n := by omega
      have hlt' : ¬ ((i : Int) < (i : Int)) := by omega
      have hbf : b = false := by
        cases b with
        | false => rfl
        | true =>
          obtain ⟨j, h1, h2⟩ := HS.out.2.1 rfl
          exact absurd h2 (ha.out j h1)
      subst hbf
      clear HS ha
      go_wp2
      go_ret
      exact ⟨rfl, rfl⟩
theorem Nms.first {w : World} {S : Nat → Prop} {p : Option Addr} {n c : Nat} {g : Nat → ByteArray} (h : Nms w S p n c g) {i : Nat} (hi : i ≤ n) : Nms w S p i c g := by
  refine ⟨⟨Nat.le_trans hi h.cap.1, h.cap.2⟩, fun h0 => ?_⟩
  obtain ⟨b, o, h1, h2, h3, h4⟩ := h.lies (by omega)
  exact ⟨b, o, h1, h2, h3, fun j hj => h4 j (by omega)⟩
set_option maxRecDepth 100000 in
set_option maxHeartbeats 8000000 in
theorem ltwice_any {w : World} {S : Nat → Prop} {p : Option Addr} {n c : Nat} {g : Nat → ByteArray} (h : Nms w S p n c g) (hn : n ≤ 1000) : Calls Tryz.prog 32 #[.slice p n c] w fun r w' => r = .returned (.bool (twB (nmLs n g))) ∧ Below w.heap.size w w' := by
  have hcap := h.cap
  have hmx : maxLen = 9223372036854775807 := rfl
  obtain ⟨tb, htb⟩ : ∃ tb, twB (nmLs n g) = tb := ⟨_, rfl⟩
  rw [htb]
  have HS : Hid (Nms w S p n c g ∧ (tb = true ↔ ∃ a b, a < b ∧ b < n ∧ g b = g a)) := ⟨h, by rw [← htb]; exact twB_iff n g⟩
  clear h htb
  go_enter Tryz.func32, Tryz.ntmps32
  go_wp2_with fail
  go_loopw [3] (fun c3 wr => ∃ i : Nat, i ≤ n ∧ c3 = .int .i64 (i : Int) ∧ Hid (∀ a b, a < b → b < i → ¬ g b = g a) ∧ Hid (Below w.heap.size w wr)) (fun c3 _ => n - (intOf c3).toNat)
  case atStart =>
    have h0 : ∀ a b, a < b → b < 0 → ¬ g b = g a := fun a b _ hj => absurd hj (Nat.not_lt_zero _)
    have h1 : Below w.heap.size w w := Below.refl _ _
    exact ⟨0, Nat.zero_le _, rfl, h0, h1⟩
  case round =>
    obtain ⟨i, hi, rfl, ha, hwb⟩ := hrel
    by_cases hlt : i < n
    · have hlt' : (i : Int) < (n : Int) := by omega
      have hNw := HS.out.1.since (Since.below hwb.out)
      obtain ⟨gb, go, rfl, -, hgl, hgc⟩ := hNw.lies (by omega)
      have c1 := hgc i hlt
      clear hgc
      by_cases e : hasN i g (g i)
      · have kh := fun N => has_any (w := wr.drewN N) ((hNw.first (Nat.le_of_lt hlt)).since ⟨Nat.le_refl _, fun _ _ _ => rfl⟩) (by omega) (g i) true ⟨fun _ => e, fun _ => rfl⟩
        have hbt : tb = true := by
          obtain ⟨j, h1, h2⟩ := e
          exact HS.out.2.2 ⟨j, i, h1, hlt, h2.symm⟩
        subst hbt
        have hic : (i : Int) ≤ (c : Int) := by omega
        clear HS ha e hNw
        go_wp2_with fail
        go_quiet ((go_at_call 31; exact Calls.quiet_of_same (kh _)))
        go_wp2
        go_ret
        exact ⟨rfl, hwb.out.trans ⟨rfl, rfl, rfl, Nat.le_refl _, fun _ _ => rfl⟩⟩
      · have kh := fun N => has_any (w := wr.drewN N) ((hNw.first (Nat.le_of_lt hlt)).since ⟨Nat.le_refl _, fun _ _ _ => rfl⟩) (by omega) (g i) false ⟨fun h => (by cases h), fun h => absurd h e⟩
        have ha2 : Hid (∀ a b, a < b → b < i + 1 → ¬ g b = g a) := by
          have h1 : ∀ a b, a < b → b < i + 1 → ¬ g b = g a := fun a b hab hb => by
            rcases (by omega : b < i ∨ b = i) with h | h
            · exact ha.out a b hab h
            · rw [h]
              exact fun h2 => e ⟨a, by omega, h2.symm⟩
          exact h1
        have hic : (i : Int) ≤ (c : Int) := by omega
        have h1 : ∀ N, Hid (Below w.heap.size w (wr.drewN N)) := fun N => Below.trans hwb.out ⟨rfl, rfl, rfl, Nat.le_refl _, fun _ _ => rfl⟩
        clear ha e hNw
        go_wp2_with fail
        go_quiet ((go_at_call 31; exact Calls.quiet_of_same (kh _)))
        go_wp2_with fail
        refine ⟨⟨i + 1, by omega, by go_num, ha2, h1 _⟩, ?_⟩
        simp [intOf]
        omega
    · obtain rfl : i = n := by omega
      have hlt' : ¬ ((i : Int) < (i : Int)) := by omega
      have hbf : tb = false := by
        cases tb with
        | false => rfl
        | true =>
          obtain ⟨a, b, h1, h2, h3⟩ := HS.out.2.1 rfl
          exact absurd h3 (ha.out a b h1 h2)
      subst hbf
      clear HS ha
      go_wp2
      go_ret
      exact ⟨rfl, hwb.out⟩
set_option maxRecDepth 100000 in
set_option maxHeartbeats 8000000 in
theorem lwhere_0 (R : XR) (w : World) (hk : R.k = 0) : Calls Tryz.prog 33 #[rowX R] w fun r w' => r = .returned (.int .i64 0) ∧ Below w.heap.size w w' := by
  obtain ⟨w1, hw1⟩ : ∃ w1, w.alloc (.cells #[.int .i64 R.k, .string R.s, .int .i64 R.vk, .bool R.vb, .int .i64 R.vn, .string R.vs, .slice none 0 0, .slice none 0 0, .slice R.kp R.n R.kc, .slice R.np R.m R.nc] 28) = w1 := ⟨_, rfl⟩
  have hb1 : Below w.heap.size w w1 := by rw [← hw1]; exact (Below.refl _ w).alloc (Nat.le_refl _) _
  have r1 : w1.heap[w.heap.size]? = some (.cells (arrX R) 28 (0, 0)) := by rw [← hw1]; exact heap_alloc_new _ _
  have x0 : w1.cell? ⟨w.heap.size, 0, none⟩ = some (.int .i64 0) := (cell_of_row w1 _ 0 _ _ _ r1).trans (by rw [← hk]; rfl)
  have HB : Hid (Below w.heap.size w w1) := hb1
  unfold rowX
  clear hb1 r1 hk
  go_enter Tryz.func33, Tryz.ntmps33
  go_wp2
  go_ret
  exact ⟨rfl, HB.out⟩
theorem tk_le {x : Int} (h : -1 ≤ x) : tkI 1 x = decide (x ≤ 1) := by
  unfold tkI
  by_cases h1 : x ≤ 1
  · rw [decide_eq_true h1]
    rcases (by omega : x = 1 ∨ x = 0 ∨ x = -1) with e | e | e <;> rw [e] <;> rfl
  · rw [decide_eq_false h1]
    have e0 : (x == 0) = false := by simpa using (by omega : ¬ x = 0)
    have e1 : (x == -1) = false := by simpa using (by omega : ¬ x = -1)
    have e2 : (x == 1) = false := by simpa using (by omega : ¬ x = 1)
    rw [e2, e0, e1]
    rfl
set_option maxRecDepth 100000 in
set_option maxHeartbeats 8000000 in
theorem lwhere_1 {w : World} {S : Nat → Prop} {d : Nat} {t : Et} {R : XR} (h : LiesE w S d t (rowX R)) (hf : Wfd d t) (hk : ¬ R.k = 0) : Calls Tryz.prog 33 #[rowX R] w fun r w' => r = .returned (.int .i64 (whX (kndF d t true))) ∧ Below w.heap.size w w' := by
  obtain ⟨X, hX⟩ : ∃ X, kndF d t true = X := ⟨_, rfl⟩
  have hge := knd_ge d t true
  rw [hX] at hge ⊢
  obtain ⟨Z, hZ⟩ : ∃ Z, whX X = Z := ⟨_, rfl⟩
  rw [hZ]
  obtain ⟨w1, hw1⟩ : ∃ w1, w.alloc (.cells #[.int .i64 R.k, .string R.s, .int .i64 R.vk, .bool R.vb, .int .i64 R.vn, .string R.vs, .slice none 0 0, .slice none 0 0, .slice R.kp R.n R.kc, .slice R.np R.m R.nc] 28) = w1 := ⟨_, rfl⟩
  have hb1 : Below w.heap.size w w1 := by rw [← hw1]; exact (Below.refl _ w).alloc (Nat.le_refl _) _
  have r1 : w1.heap[w.heap.size]? = some (.cells (arrX R) 28 (0, 0)) := by rw [← hw1]; exact heap_alloc_new _ _
  have x0 : w1.cell? ⟨w.heap.size, 0, none⟩ = some (.int .i64 R.k) := cell_of_row w1 _ 0 _ _ _ r1
  have k1 := conv_any d (h.since (Since.below hb1)) hf
  have HB : Hid (Below w.heap.size w w1 ∧ w1.heap[w.heap.size]? = some (.cells (arrX R) 28 (0, 0)) ∧ whX X = Z ∧ kndF d t true = X ∧ Wfd d t) := ⟨hb1, r1, hZ, hX, hf⟩
  unfold rowX at k1 ⊢
  clear hb1 r1 hZ hX h hf
  go_enter Tryz.func33, Tryz.ntmps33
  go_wp2_with (first | (refine wpList_get rfl 28 (.tmp 1) rfl rfl HB.out.2.1 Tryz.underlying28 rfl info28 ?_; simp only [Act.put, List.setIfInBounds_toArray, List.set_cons_zero, List.set_cons_succ]; unfold arrX) | fail)
  refine k1.mono ?_
  rintro q w2 ⟨A, rfl, hA, hb2⟩
  have k2 := rkind_any true d hA HB.out.2.2.2.2
  rw [HB.out.2.2.2.1] at k2
  have H2 : Hid (Below w.heap.size w w2) := HB.out.1.trans (hb2.mono HB.out.1.size)
  clear k1 hb2 hw1 x0 hA
  go_wp2_with fail
  refine k2.mono ?_
  rintro q w3 ⟨rfl, hb3⟩
  have H3 : Hid (Below w.heap.size w w3) := H2.out.trans (hb3.mono H2.out.size)
  clear k2 hb3
  by_cases he : X.2 = 0
  · by_cases h1 : 1 < X.1
    · have hZ : Z = 131 := by
        rw [← HB.out.2.2.1]
        unfold whX
        rw [if_pos he, tk_le hge, decide_eq_false (by omega)]
        rfl
      subst hZ
      go_wp2
      go_ret
      exact ⟨rfl, H3.out⟩
    · have hZ : Z = 0 := by
        rw [← HB.out.2.2.1]
        unfold whX
        rw [if_pos he, tk_le hge, decide_eq_true (by omega)]
        rfl
      subst hZ
      go_wp2
      go_ret
      exact ⟨rfl, H3.out⟩
  · have hZ : Z = X.2 := by
      rw [← HB.out.2.2.1]
      unfold whX
      rw [if_neg he]
    subst hZ
    go_wp2
    go_ret
    exact ⟨rfl, H3.out⟩
theorem lwhere_any {w : World} {S : Nat → Prop} {d : Nat} {t : Et} {R : XR} (h : LiesE w S d t (rowX R)) (hk : (t []).k = 0 ∨ Wfd d t) : Calls Tryz.prog 33 #[rowX R] w fun r w' => r = .returned (.int .i64 (whE d t)) ∧ Below w.heap.size w w' := by
  have h1 := h.top.1
  unfold whE
  by_cases h0 : (t []).k = 0
  · rw [if_pos h0]
    exact lwhere_0 R w (by rw [h1, h0]; rfl)
  · rw [if_neg h0]
    exact lwhere_1 h (hk.resolve_left h0) (by rw [h1]; omega)
end Go.Proofs.YtcniebkehekliaaGreatDoor
namespace Go.Proofs.YtcniebkehekliaaGreatDoor
open Go.RowKit Go.Shelf
attribute [local go_sem] Oper.semAt_some
def strC (n : Nat) (g : Nat → ByteArray) : List Value := (List.range n).map fun i => .string (g i)
theorem nms_row {w : World} {base n : Nat} {v : Value} {g : Nat → ByteArray} {S : Nat → Prop} (h : w.ownsRow base 9 1 v n (strC n g)) (hS : ∀ k, base ≤ k → S k) : ∃ p c, v = .slice p n c ∧ Nms w S p n c g := by
  rcases h.2 with ⟨hv, hn⟩ | ⟨b, cap, cur, hv, hb, hr, h1, h2, h3, h4⟩
  · refine ⟨none, 0, by rw [hv, hn], ?_⟩
    rw [hn]
    exact Nms.none _ _ _
  · refine ⟨_, _, hv, ⟨h1, h2⟩, fun _ => ⟨b, 0, rfl, hS b hb, lt_of_row hr, fun i hi => ?_⟩⟩
    have e : (strC n g)[i]? = some (.string (g i)) := by simp [strC, hi]
    rw [← h4, List.getElem?_take, if_pos (by omega)] at e
    rw [Nat.zero_add, cell_of_row w b i cur _ _ hr]
    simpa using e
/- What the values of a map of tables are: lists of texts, in blocks other than the map's. -/
def Tv (w : World) (b : Nat) (F : List UInt8 → Option Value) : Prop := ∀ s v, F s = some v → ∃ p m c h, v = .slice p m c ∧ m ≤ 1000 ∧ Nms w (fun k => k ≠ b) p m c h
theorem Tv.since {w w' : World} {b : Nat} {F : List UInt8 → Option Value} (h : Tv w b F) (hS : Since (fun k => k ≠ b) w w') : Tv w' b F := fun s v hv => by
  obtain ⟨p, m, c, g, h1, h2, h3⟩ := h s v hv
  exact ⟨p, m, c, g, h1, h2, h3.since hS⟩
structure Ts (w wr : World) (i : Nat) : Prop where
  hb : Below w.heap.size w wr
  gt : w.heap.size < wr.heap.size
  map : ∃ n F, n ≤ i ∧ Mf wr w.heap.size n F ∧ Tv wr w.heap.size F
def GivesT (w : World) (r : Ending) (w' : World) : Prop := r = .returned (.map (some w.heap.size)) ∧ Below w.heap.size w w' ∧ ∃ n F, Mf w' w.heap.size n F ∧ Tv w' w.heap.size F
theorem info9t : (Tryz.prog.info? 9).map (fun i => (i.zero, i.size, i.bytes)) = some (some (.string ⟨#[]⟩), 1, 16) := by kernel_rfl
set_option maxRecDepth 100000 in
set_option maxHeartbeats 8000000 in
theorem table_any {w : World} {S : Nat → Prop} {p q : Option Addr} {n c m e : Nat} {g h : Nat → ByteArray} (hN : Nms w S p n c g) (hM : Nms w S q m e h) (hs : ∀ i, i < n → (g i).size ≤ maxLen) : Calls Tryz.prog 11 #[.slice p n c, .slice q m e] w (GivesT w) := by
  have hc1 := hN.cap
  have hc2 := hM.cap
  have hmx : maxLen = 9223372036854775807 := rfl
  have HH : Hid (Nms w S p n c g ∧ Nms w S q m e h ∧ (∀ i, i < n → (g i).size ≤ maxLen)) := ⟨hN, hM, hs⟩
  have hmk := make48 w
  obtain ⟨w1, hw1⟩ : ∃ w1, w.alloc (.map #[] 0) = w1 := ⟨_, rfl⟩
  have m1 := Mf.made w
  rw [hw1] at hmk m1
  have H1 : Hid (Ts w w1 0) := by
    have h1 : Ts w w1 0 := ⟨by rw [← hw1]; exact (Below.refl _ w).alloc (Nat.le_refl _) _, by rw [← hw1]; simp, 0, _, Nat.le_refl _, m1, fun s v hv => by cases hv⟩
    exact h1
  obtain ⟨i0, hi0, hz0, hz1, hz2⟩ := info_parts info9t
  clear hN hM hs m1 hw1
  go_enter Tryz.func11, Tryz.ntmps11
  go_wp2_with fail
  go_loopw [6] (fun c6 wr => ∃ (i : Nat), i ≤ n ∧ i ≤ 5 ∧ c6 = .int .i64 (i : Int) ∧ Hid (Ts w wr i)) (fun c6 _ => n - (intOf c6).toNat)
  case atStart => exact ⟨0, Nat.zero_le _, Nat.zero_le _, rfl, H1⟩
  case round =>
    clear H1 hmk
    obtain ⟨i, hi, hi5, rfl, hT⟩ := hrel
    by_cases hlt : i < n
    · have hlt' : (i : Int) < (n : Int) := by omega
      by_cases h5 : i < 5
      · have h5' : (i : Int) < (5 : Int) := by omega
        obtain ⟨w2, hw2⟩ : ∃ w2, wr.alloc (.cells #[] 9) = w2 := ⟨_, rfl⟩
        have H2 : Hid (Below wr.heap.size wr w2 ∧ w2.ownsRow wr.heap.size 9 1 (.slice (some ⟨wr.heap.size, 0, none⟩) 0 0) 0 (strC 0 h) ∧ wr.heap.size < w2.heap.size) := by
          refine ⟨by rw [← hw2]; exact (Below.refl _ wr).alloc (Nat.le_refl _) _, ⟨rfl, .inr ⟨wr.heap.size, 0, #[], rfl, Nat.le_refl _, by rw [← hw2]; exact heap_alloc_new _ _, Nat.le_refl _, Nat.zero_le _, rfl, rfl⟩⟩, by rw [← hw2]; simp⟩
        go_wp2_with fail
        clear hw2
        go_loopw [7, 8] (fun c7 c8 wi => ∃ (k : Nat), k ≤ m ∧ k ≤ 5 ∧ c8 = .int .i64 (k : Int) ∧ Hid (Below wr.heap.size wr wi ∧ wi.ownsRow wr.heap.size 9 1 c7 k (strC k h) ∧ wr.heap.size < wi.heap.size)) (fun _ c8 _ => m - (intOf c8).toNat)
        case atStart => exact ⟨0, Nat.zero_le _, Nat.zero_le _, rfl, H2⟩
        case round =>
          rename World => wi
          clear H2
          obtain ⟨k, hk, hk5, rfl, hI⟩ := hrel
          by_cases hkm : k < m
          · have hkm' : (k : Int) < (m : Int) := by omega
            by_cases hq5 : k < 5
            · have hq5' : (k : Int) < (5 : Int) := by omega
              have hMi := (HH.out.2.1.since (Since.below hT.out.hb)).since (Since.below hI.out.1)
              obtain ⟨gb, go, rfl, -, hgl, hgc⟩ := hMi.lies (by omega)
              have c1 := hgc k hkm
              have o3 := hI.out.2.1
              have hs3 := hI.out.2.2
              clear hgc hMi
              go_wp2_with (at_builtin; refine wpList_append_own_at _ rfl _ _ 23 rfl wr.heap.size 9 i0 (.string ⟨#[]⟩) 1 16 Tryz.underlying23 hi0 hz0 hz1 hz2 rfl (by decide) _ _ _ rfl (o3.alloc _) ⟨wi.heap.size, 0, none⟩ 1 1 [.string (h k)] rfl rfl ?c1 ?c2 ?c3 ?c4 ?c5 ?_)
              case c1 => exact World.news_of_block (heap_alloc_new wi _)
              case c2 => exact fun u hu => by rw [List.mem_singleton] at hu; rw [hu]; rfl
              case c3 => unfold maxLen; omega
              case c4 => omega
              case c5 => simp; omega
              intro v' w5 hown5 hgr5 _ hat5
              have H5 : Hid (Below wr.heap.size wr w5 ∧ w5.ownsRow wr.heap.size 9 1 v' (k + 1) (strC (k + 1) h) ∧ wr.heap.size < w5.heap.size) := by
                refine ⟨(hI.out.1.alloc (by omega) _).grown hgr5 (by simp; omega) (fun j hj => (o3.lt j hj).1), ?_, ?_⟩
                · have e2 : strC (k + 1) h = strC k h ++ [.string (h k)] := by simp [strC, List.range_succ]
                  rw [e2]
                  exact hown5
                · have := hgr5.size
                  simp at this
                  omega
              clear o3 hown5 hgr5 hat5
              go_wp2_with fail
              go_roundw
              case rel => exact ⟨k + 1, by omega, by omega, by go_num, H5⟩
              case measure => simp [intOf]; omega
            · have hq5' : ¬ (k : Int) < (5 : Int) := by omega
              obtain ⟨nn, F, hnn, hMf, hTv⟩ := hT.out.map
              have hMi := hMf.later hI.out.1
              have hTi := hTv.since (Since.below hI.out.1)
              obtain ⟨fp, fc, hu7, hNm⟩ := nms_row (S := fun j => j ≠ w.heap.size) hI.out.2.1 (fun j hj => by have := hT.out.gt; omega)
              subst hu7
              have hNi := (HH.out.1.since (Since.below hT.out.hb)).since (Since.below hI.out.1)
              obtain ⟨gb, go, rfl, -, hgl, hgc⟩ := hNi.lies (by omega)
              have c1 := hgc i hlt
              obtain ⟨w5, hup, m5, hg5⟩ := hMi.put (by unfold maxLen; omega) (s := g i) (HH.out.2.2 i hlt) (.slice fp k fc)
              have H5 : Hid (Ts w w5 (i + 1)) := by
                have a1 := hT.out.hb.trans (hI.out.1.mono hT.out.hb.size)
                have hS : Since (fun j => j ≠ w.heap.size) wi w5 := ⟨hg5.size, fun j hj hl => hg5.block j hl (fun ee => hj (by injection ee))⟩
                have h1 : Ts w w5 (i + 1) := by
                  refine ⟨a1.grown hg5 a1.size (fun j hj => by injection hj with hj; omega), ?_, nn + 1, _, by omega, m5, ?_⟩
                  · have := hg5.size
                    have := hI.out.2.2
                    have := hT.out.gt
                    omega
                  · intro s v hv
                    dsimp only at hv
                    by_cases hks : s = (g i).data.toList
                    · rw [if_pos hks] at hv
                      injection hv with hv
                      subst hv
                      exact ⟨fp, k, fc, h, rfl, by omega, hNm.since hS⟩
                    · rw [if_neg hks] at hv
                      obtain ⟨p1, m1, c3, g1, b1, b2, b3⟩ := hTi s v hv
                      exact ⟨p1, m1, c3, g1, b1, b2, b3.since hS⟩
                exact h1
              clear hgc hNi hMi hTi hNm hMf hTv m5 hg5 hI
              go_wp2_with fail
              go_roundw
              case rel => exact ⟨i + 1, by omega, by omega, by go_num, H5⟩
              case measure => simp [intOf]; omega
          · have hkm' : ¬ (k : Int) < (m : Int) := by omega
            obtain ⟨nn, F, hnn, hMf, hTv⟩ := hT.out.map
            have hMi := hMf.later hI.out.1
            have hTi := hTv.since (Since.below hI.out.1)
            obtain ⟨fp, fc, hu7, hNm⟩ := nms_row (S := fun j => j ≠ w.heap.size) hI.out.2.1 (fun j hj => by have := hT.out.gt; omega)
            subst hu7
            have hNi := (HH.out.1.since (Since.below hT.out.hb)).since (Since.below hI.out.1)
            obtain ⟨gb, go, rfl, -, hgl, hgc⟩ := hNi.lies (by omega)
            have c1 := hgc i hlt
            obtain ⟨w5, hup, m5, hg5⟩ := hMi.put (by unfold maxLen; omega) (s := g i) (HH.out.2.2 i hlt) (.slice fp k fc)
            have H5 : Hid (Ts w w5 (i + 1)) := by
              have a1 := hT.out.hb.trans (hI.out.1.mono hT.out.hb.size)
              have hS : Since (fun j => j ≠ w.heap.size) wi w5 := ⟨hg5.size, fun j hj hl => hg5.block j hl (fun ee => hj (by injection ee))⟩
              have h1 : Ts w w5 (i + 1) := by
                refine ⟨a1.grown hg5 a1.size (fun j hj => by injection hj with hj; omega), ?_, nn + 1, _, by omega, m5, ?_⟩
                · have := hg5.size
                  have := hI.out.2.2
                  have := hT.out.gt
                  omega
                · intro s v hv
                  dsimp only at hv
                  by_cases hks : s = (g i).data.toList
                  · rw [if_pos hks] at hv
                    injection hv with hv
                    subst hv
                    exact ⟨fp, k, fc, h, rfl, by omega, hNm.since hS⟩
                  · rw [if_neg hks] at hv
                    obtain ⟨p1, m1, c3, g1, b1, b2, b3⟩ := hTi s v hv
                    exact ⟨p1, m1, c3, g1, b1, b2, b3.since hS⟩
              exact h1
            clear hgc hNi hMi hTi hNm hMf hTv m5 hg5 hI
            go_wp2_with fail
            go_roundw
            case rel => exact ⟨i + 1, by omega, by omega, by go_num, H5⟩
            case measure => simp [intOf]; omega
      · have h5' : ¬ (i : Int) < (5 : Int) := by omega
        go_wp2
        go_ret
        obtain ⟨nn, F, hnn, hMf, hTv⟩ := hT.out.map
        exact ⟨rfl, hT.out.hb, nn, F, hMf, hTv⟩
    · have hlt' : ¬ (i : Int) < (n : Int) := by omega
      go_wp2
      go_ret
      obtain ⟨nn, F, hnn, hMf, hTv⟩ := hT.out.map
      exact ⟨rfl, hT.out.hb, nn, F, hMf, hTv⟩
end Go.Proofs.YtcniebkehekliaaGreatDoor
namespace Go.Proofs.YtcniebkehekliaaGreatDoor
open Go.RowKit Go.Shelf
attribute [local go_sem] Oper.semAt_some
set_option maxRecDepth 100000 in
set_option maxHeartbeats 8000000 in
theorem want_table_true (Q : QR) (w : World) (mv : Value) (fp : Option Addr) (fn fc : Nat) (hlk : ∀ W, Below w.heap.size w W → (Instr.lookup 48 mv (.string Q.t) true).run Tryz.prog W = .ok (.tuple #[.slice fp fn fc, .bool true]) W) (hk : Q.k = 1) :
    Calls Tryz.prog 13 #[mv, .agg (qrA Q)] w fun r w' => r = .returned (.int .i64 (133)) ∧ Below w.heap.size w w' := by
  obtain ⟨w1, hw1⟩ : ∃ w1, w.alloc (.cells #[.int .i64 Q.k, .string Q.t, .string Q.f, .int .i64 Q.v.k, .string Q.v.s, .int .i64 Q.v.vk, .bool Q.v.vb, .int .i64 Q.v.vn, .string Q.v.vs, .slice none 0 0, .slice none 0 0, .slice Q.v.kp Q.v.n Q.v.kc, .slice Q.v.np Q.v.m Q.v.nc, .slice Q.nmp Q.nml Q.nmc, .slice Q.exp Q.exl Q.exc, .int .i64 Q.wh.k, .string Q.wh.s, .int .i64 Q.wh.vk, .bool Q.wh.vb, .int .i64 Q.wh.vn, .string Q.wh.vs, .slice none 0 0, .slice none 0 0, .slice Q.wh.kp Q.wh.n Q.wh.kc, .slice Q.wh.np Q.wh.m Q.wh.nc, .slice Q.clp Q.cll Q.clc, .bool Q.cn, .bool Q.hi, .string Q.od, .bool Q.de, .int .i64 Q.li] 30) = w1 := ⟨_, rfl⟩
  have hb1 : Below w.heap.size w w1 := by rw [← hw1]; exact (Below.refl _ w).alloc (Nat.le_refl _) _
  have r1 : w1.heap[w.heap.size]? = some (.cells (qrA Q) 30 (0, 0)) := by rw [← hw1]; exact heap_alloc_new _ _
  have l1 := lt_of_row r1
  have x0 : w1.cell? ⟨w.heap.size, 0, none⟩ = some (.int .i64 1) := (cell_of_row w1 _ 0 _ _ _ r1).trans (by rw [← hk]; rfl)
  have x1 : w1.cell? ⟨w.heap.size, 1, none⟩ = some (.string Q.t) := cell_of_row w1 _ 1 _ _ _ r1
  have x2 : w1.cell? ⟨w.heap.size, 2, none⟩ = some (.string Q.f) := cell_of_row w1 _ 2 _ _ _ r1
  have hl := hlk w1 hb1
  have HB : Hid (Below w.heap.size w w1 ∧ w1.heap[w.heap.size]? = some (.cells (qrA Q) 30 (0, 0))) := ⟨hb1, r1⟩
  unfold qrA
  clear hb1 r1 hlk hk
  go_enter Tryz.func13, Tryz.ntmps13
  go_wp2
  go_ret
  exact ⟨rfl, HB.out.1⟩
set_option maxRecDepth 100000 in
set_option maxHeartbeats 8000000 in
theorem want_table_false (Q : QR) (w : World) (mv : Value) (fp : Option Addr) (fn fc : Nat) (hlk : ∀ W, Below w.heap.size w W → (Instr.lookup 48 mv (.string Q.t) true).run Tryz.prog W = .ok (.tuple #[.slice fp fn fc, .bool false]) W) (hk : Q.k = 1) :
    Calls Tryz.prog 13 #[mv, .agg (qrA Q)] w fun r w' => r = .returned (.int .i64 (0)) ∧ Below w.heap.size w w' := by
  obtain ⟨w1, hw1⟩ : ∃ w1, w.alloc (.cells #[.int .i64 Q.k, .string Q.t, .string Q.f, .int .i64 Q.v.k, .string Q.v.s, .int .i64 Q.v.vk, .bool Q.v.vb, .int .i64 Q.v.vn, .string Q.v.vs, .slice none 0 0, .slice none 0 0, .slice Q.v.kp Q.v.n Q.v.kc, .slice Q.v.np Q.v.m Q.v.nc, .slice Q.nmp Q.nml Q.nmc, .slice Q.exp Q.exl Q.exc, .int .i64 Q.wh.k, .string Q.wh.s, .int .i64 Q.wh.vk, .bool Q.wh.vb, .int .i64 Q.wh.vn, .string Q.wh.vs, .slice none 0 0, .slice none 0 0, .slice Q.wh.kp Q.wh.n Q.wh.kc, .slice Q.wh.np Q.wh.m Q.wh.nc, .slice Q.clp Q.cll Q.clc, .bool Q.cn, .bool Q.hi, .string Q.od, .bool Q.de, .int .i64 Q.li] 30) = w1 := ⟨_, rfl⟩
  have hb1 : Below w.heap.size w w1 := by rw [← hw1]; exact (Below.refl _ w).alloc (Nat.le_refl _) _
  have r1 : w1.heap[w.heap.size]? = some (.cells (qrA Q) 30 (0, 0)) := by rw [← hw1]; exact heap_alloc_new _ _
  have l1 := lt_of_row r1
  have x0 : w1.cell? ⟨w.heap.size, 0, none⟩ = some (.int .i64 1) := (cell_of_row w1 _ 0 _ _ _ r1).trans (by rw [← hk]; rfl)
  have x1 : w1.cell? ⟨w.heap.size, 1, none⟩ = some (.string Q.t) := cell_of_row w1 _ 1 _ _ _ r1
  have x2 : w1.cell? ⟨w.heap.size, 2, none⟩ = some (.string Q.f) := cell_of_row w1 _ 2 _ _ _ r1
  have hl := hlk w1 hb1
  have HB : Hid (Below w.heap.size w w1 ∧ w1.heap[w.heap.size]? = some (.cells (qrA Q) 30 (0, 0))) := ⟨hb1, r1⟩
  unfold qrA
  clear hb1 r1 hlk hk
  go_enter Tryz.func13, Tryz.ntmps13
  go_wp2
  go_ret
  exact ⟨rfl, HB.out.1⟩
set_option maxRecDepth 100000 in
set_option maxHeartbeats 8000000 in
theorem want_none (Q : QR) (w : World) (mv : Value) (fp : Option Addr) (fn fc : Nat) (hlk : ∀ W, Below w.heap.size w W → (Instr.lookup 48 mv (.string Q.t) true).run Tryz.prog W = .ok (.tuple #[.slice fp fn fc, .bool false]) W) (hk : ¬ Q.k = 1) :
    Calls Tryz.prog 13 #[mv, .agg (qrA Q)] w fun r w' => r = .returned (.int .i64 (130)) ∧ Below w.heap.size w w' := by
  obtain ⟨w1, hw1⟩ : ∃ w1, w.alloc (.cells #[.int .i64 Q.k, .string Q.t, .string Q.f, .int .i64 Q.v.k, .string Q.v.s, .int .i64 Q.v.vk, .bool Q.v.vb, .int .i64 Q.v.vn, .string Q.v.vs, .slice none 0 0, .slice none 0 0, .slice Q.v.kp Q.v.n Q.v.kc, .slice Q.v.np Q.v.m Q.v.nc, .slice Q.nmp Q.nml Q.nmc, .slice Q.exp Q.exl Q.exc, .int .i64 Q.wh.k, .string Q.wh.s, .int .i64 Q.wh.vk, .bool Q.wh.vb, .int .i64 Q.wh.vn, .string Q.wh.vs, .slice none 0 0, .slice none 0 0, .slice Q.wh.kp Q.wh.n Q.wh.kc, .slice Q.wh.np Q.wh.m Q.wh.nc, .slice Q.clp Q.cll Q.clc, .bool Q.cn, .bool Q.hi, .string Q.od, .bool Q.de, .int .i64 Q.li] 30) = w1 := ⟨_, rfl⟩
  have hb1 : Below w.heap.size w w1 := by rw [← hw1]; exact (Below.refl _ w).alloc (Nat.le_refl _) _
  have r1 : w1.heap[w.heap.size]? = some (.cells (qrA Q) 30 (0, 0)) := by rw [← hw1]; exact heap_alloc_new _ _
  have l1 := lt_of_row r1
  have x0 : w1.cell? ⟨w.heap.size, 0, none⟩ = some (.int .i64 Q.k) := (cell_of_row w1 _ 0 _ _ _ r1).trans (rfl)
  have x1 : w1.cell? ⟨w.heap.size, 1, none⟩ = some (.string Q.t) := cell_of_row w1 _ 1 _ _ _ r1
  have x2 : w1.cell? ⟨w.heap.size, 2, none⟩ = some (.string Q.f) := cell_of_row w1 _ 2 _ _ _ r1
  have hl := hlk w1 hb1
  have HB : Hid (Below w.heap.size w w1 ∧ w1.heap[w.heap.size]? = some (.cells (qrA Q) 30 (0, 0))) := ⟨hb1, r1⟩
  unfold qrA
  clear hb1 r1 hlk
  go_enter Tryz.func13, Tryz.ntmps13
  go_wp2
  go_ret
  exact ⟨rfl, HB.out.1⟩
set_option maxRecDepth 100000 in
set_option maxHeartbeats 8000000 in
theorem want_delete (Q : QR) (w : World) (mv : Value) (fp : Option Addr) (fn fc : Nat) (hlk : ∀ W, Below w.heap.size w W → (Instr.lookup 48 mv (.string Q.t) true).run Tryz.prog W = .ok (.tuple #[.slice fp fn fc, .bool true]) W) (hk : Q.k = 5) {X : Int} (kw : ∀ W, Below w.heap.size w W → Calls Tryz.prog 33 #[rowX Q.wh] W fun r w' => r = .returned (.int .i64 X) ∧ Below W.heap.size W w') :
    Calls Tryz.prog 13 #[mv, .agg (qrA Q)] w fun r w' => r = .returned (.int .i64 (X)) ∧ Below w.heap.size w w' := by
  obtain ⟨w1, hw1⟩ : ∃ w1, w.alloc (.cells #[.int .i64 Q.k, .string Q.t, .string Q.f, .int .i64 Q.v.k, .string Q.v.s, .int .i64 Q.v.vk, .bool Q.v.vb, .int .i64 Q.v.vn, .string Q.v.vs, .slice none 0 0, .slice none 0 0, .slice Q.v.kp Q.v.n Q.v.kc, .slice Q.v.np Q.v.m Q.v.nc, .slice Q.nmp Q.nml Q.nmc, .slice Q.exp Q.exl Q.exc, .int .i64 Q.wh.k, .string Q.wh.s, .int .i64 Q.wh.vk, .bool Q.wh.vb, .int .i64 Q.wh.vn, .string Q.wh.vs, .slice none 0 0, .slice none 0 0, .slice Q.wh.kp Q.wh.n Q.wh.kc, .slice Q.wh.np Q.wh.m Q.wh.nc, .slice Q.clp Q.cll Q.clc, .bool Q.cn, .bool Q.hi, .string Q.od, .bool Q.de, .int .i64 Q.li] 30) = w1 := ⟨_, rfl⟩
  have hb1 : Below w.heap.size w w1 := by rw [← hw1]; exact (Below.refl _ w).alloc (Nat.le_refl _) _
  have r1 : w1.heap[w.heap.size]? = some (.cells (qrA Q) 30 (0, 0)) := by rw [← hw1]; exact heap_alloc_new _ _
  have l1 := lt_of_row r1
  have x0 : w1.cell? ⟨w.heap.size, 0, none⟩ = some (.int .i64 5) := (cell_of_row w1 _ 0 _ _ _ r1).trans (by rw [← hk]; rfl)
  have x1 : w1.cell? ⟨w.heap.size, 1, none⟩ = some (.string Q.t) := cell_of_row w1 _ 1 _ _ _ r1
  have x2 : w1.cell? ⟨w.heap.size, 2, none⟩ = some (.string Q.f) := cell_of_row w1 _ 2 _ _ _ r1
  have hl := hlk w1 hb1
  have HB : Hid (Below w.heap.size w w1 ∧ w1.heap[w.heap.size]? = some (.cells (qrA Q) 30 (0, 0))) := ⟨hb1, r1⟩
  unfold qrA
  clear hb1 r1 hlk hk
  go_enter Tryz.func13, Tryz.ntmps13
  have hBx : Below w.heap.size w w1 := HB.out.1
  have HR : Hid (w1.rangeAt w.heap.size 15 (arrX Q.wh).toList) := rng_wh HB.out.2
  have k9 := kw w1 hBx
  unfold rowX at k9
  clear kw hBx
  go_wp2_with (first | (refine wpList_load_mid rfl 28 (.tmp 95) rfl w.heap.size 15 rfl (arrX Q.wh).toList _ HR.out Tryz.underlying28 rfl (i28x Q.wh) ?_; simp only [Act.put, List.setIfInBounds_toArray, List.set_cons_zero, List.set_cons_succ, Array.toArray_toList]; unfold arrX) | fail)
  refine k9.mono ?_
  rintro q w9 ⟨rfl, hb9⟩
  have H9 : Hid (Below w.heap.size w w9) := HB.out.1.trans (hb9.mono HB.out.1.size)
  clear k9 hb9
  go_wp2
  go_ret
  exact ⟨rfl, H9.out⟩
set_option maxRecDepth 100000 in
set_option maxHeartbeats 8000000 in
theorem want_index (Q : QR) (w : World) (mv : Value) (fp : Option Addr) (fn fc : Nat) (hlk : ∀ W, Below w.heap.size w W → (Instr.lookup 48 mv (.string Q.t) true).run Tryz.prog W = .ok (.tuple #[.slice fp fn fc, .bool true]) W) (hk : Q.k = 2) (b : Bool) (kc : ∀ W, Below w.heap.size w W → Calls Tryz.prog 31 #[.slice fp fn fc, .string Q.f] W fun r w' => r = .returned (.bool b) ∧ w' = W) :
    Calls Tryz.prog 13 #[mv, .agg (qrA Q)] w fun r w' => r = .returned (.int .i64 (if b = true then 133 else 0)) ∧ Below w.heap.size w w' := by
  obtain ⟨w1, hw1⟩ : ∃ w1, w.alloc (.cells #[.int .i64 Q.k, .string Q.t, .string Q.f, .int .i64 Q.v.k, .string Q.v.s, .int .i64 Q.v.vk, .bool Q.v.vb, .int .i64 Q.v.vn, .string Q.v.vs, .slice none 0 0, .slice none 0 0, .slice Q.v.kp Q.v.n Q.v.kc, .slice Q.v.np Q.v.m Q.v.nc, .slice Q.nmp Q.nml Q.nmc, .slice Q.exp Q.exl Q.exc, .int .i64 Q.wh.k, .string Q.wh.s, .int .i64 Q.wh.vk, .bool Q.wh.vb, .int .i64 Q.wh.vn, .string Q.wh.vs, .slice none 0 0, .slice none 0 0, .slice Q.wh.kp Q.wh.n Q.wh.kc, .slice Q.wh.np Q.wh.m Q.wh.nc, .slice Q.clp Q.cll Q.clc, .bool Q.cn, .bool Q.hi, .string Q.od, .bool Q.de, .int .i64 Q.li] 30) = w1 := ⟨_, rfl⟩
  have hb1 : Below w.heap.size w w1 := by rw [← hw1]; exact (Below.refl _ w).alloc (Nat.le_refl _) _
  have r1 : w1.heap[w.heap.size]? = some (.cells (qrA Q) 30 (0, 0)) := by rw [← hw1]; exact heap_alloc_new _ _
  have l1 := lt_of_row r1
  have x0 : w1.cell? ⟨w.heap.size, 0, none⟩ = some (.int .i64 2) := (cell_of_row w1 _ 0 _ _ _ r1).trans (by rw [← hk]; rfl)
  have x1 : w1.cell? ⟨w.heap.size, 1, none⟩ = some (.string Q.t) := cell_of_row w1 _ 1 _ _ _ r1
  have x2 : w1.cell? ⟨w.heap.size, 2, none⟩ = some (.string Q.f) := cell_of_row w1 _ 2 _ _ _ r1
  have hl := hlk w1 hb1
  have k1 := kc w1 hb1
  have HB : Hid (Below w.heap.size w w1 ∧ w1.heap[w.heap.size]? = some (.cells (qrA Q) 30 (0, 0))) := ⟨hb1, r1⟩
  unfold qrA
  clear hb1 r1 hlk hk
  clear kc l1
  cases b with
  | true =>
    rw [if_pos rfl]
    go_enter Tryz.func13, Tryz.ntmps13
    go_wp2_with fail
    refine k1.mono ?_
    rintro q w3 ⟨rfl, hw3⟩
    have hw3' := hw3.symm
    clear hw3
    subst hw3'
    clear k1
    go_wp2
    go_ret
    exact ⟨rfl, HB.out.1⟩
  | false =>
    rw [if_neg (by decide)]
    go_enter Tryz.func13, Tryz.ntmps13
    go_wp2_with fail
    refine k1.mono ?_
    rintro q w3 ⟨rfl, hw3⟩
    have hw3' := hw3.symm
    clear hw3
    subst hw3'
    clear k1
    go_wp2
    go_ret
    exact ⟨rfl, HB.out.1⟩
set_option maxRecDepth 100000 in
set_option maxHeartbeats 8000000 in
theorem want_insert (Q : QR) (w : World) (mv : Value) (fp : Option Addr) (fn fc : Nat) (hlk : ∀ W, Below w.heap.size w W → (Instr.lookup 48 mv (.string Q.t) true).run Tryz.prog W = .ok (.tuple #[.slice fp fn fc, .bool true]) W) (hk : Q.k = 3) {S : Nat → Prop} {d : Nat} {t : Et} (hv : LiesE w S d t (rowX Q.v)) (hf : Wfd d t) :
    Calls Tryz.prog 13 #[mv, .agg (qrA Q)] w fun r w' => r = .returned (.int .i64 (inX (kndF d t false))) ∧ Below w.heap.size w w' := by
  obtain ⟨w1, hw1⟩ : ∃ w1, w.alloc (.cells #[.int .i64 Q.k, .string Q.t, .string Q.f, .int .i64 Q.v.k, .string Q.v.s, .int .i64 Q.v.vk, .bool Q.v.vb, .int .i64 Q.v.vn, .string Q.v.vs, .slice none 0 0, .slice none 0 0, .slice Q.v.kp Q.v.n Q.v.kc, .slice Q.v.np Q.v.m Q.v.nc, .slice Q.nmp Q.nml Q.nmc, .slice Q.exp Q.exl Q.exc, .int .i64 Q.wh.k, .string Q.wh.s, .int .i64 Q.wh.vk, .bool Q.wh.vb, .int .i64 Q.wh.vn, .string Q.wh.vs, .slice none 0 0, .slice none 0 0, .slice Q.wh.kp Q.wh.n Q.wh.kc, .slice Q.wh.np Q.wh.m Q.wh.nc, .slice Q.clp Q.cll Q.clc, .bool Q.cn, .bool Q.hi, .string Q.od, .bool Q.de, .int .i64 Q.li] 30) = w1 := ⟨_, rfl⟩
  have hb1 : Below w.heap.size w w1 := by rw [← hw1]; exact (Below.refl _ w).alloc (Nat.le_refl _) _
  have r1 : w1.heap[w.heap.size]? = some (.cells (qrA Q) 30 (0, 0)) := by rw [← hw1]; exact heap_alloc_new _ _
  have l1 := lt_of_row r1
  have x0 : w1.cell? ⟨w.heap.size, 0, none⟩ = some (.int .i64 3) := (cell_of_row w1 _ 0 _ _ _ r1).trans (by rw [← hk]; rfl)
  have x1 : w1.cell? ⟨w.heap.size, 1, none⟩ = some (.string Q.t) := cell_of_row w1 _ 1 _ _ _ r1
  have x2 : w1.cell? ⟨w.heap.size, 2, none⟩ = some (.string Q.f) := cell_of_row w1 _ 2 _ _ _ r1
  have hl := hlk w1 hb1
  have k1 := conv_any d (hv.since (Since.below hb1)) hf
  obtain ⟨X, hX⟩ : ∃ X, kndF d t false = X := ⟨_, rfl⟩
  rw [hX]
  obtain ⟨Z, hZ⟩ : ∃ Z, inX X = Z := ⟨_, rfl⟩
  rw [hZ]
  have HX : Hid (kndF d t false = X ∧ inX X = Z ∧ Wfd d t) := ⟨hX, hZ, hf⟩
  unfold rowX at k1
  have HR : Hid (w1.rangeAt w.heap.size 3 (arrX Q.v).toList) := rng_v r1
  clear hX hZ hv hf
  have HB : Hid (Below w.heap.size w w1 ∧ w1.heap[w.heap.size]? = some (.cells (qrA Q) 30 (0, 0))) := ⟨hb1, r1⟩
  unfold qrA
  clear hb1 r1 hlk hk
  go_enter Tryz.func13, Tryz.ntmps13
  go_wp2_with (first | (refine wpList_load_mid rfl 28 (.tmp 46) rfl w.heap.size 3 rfl (arrX Q.v).toList _ HR.out Tryz.underlying28 rfl (i28x Q.v) ?_; simp only [Act.put, List.setIfInBounds_toArray, List.set_cons_zero, List.set_cons_succ, Array.toArray_toList]; unfold arrX) | fail)
  refine k1.mono ?_
  rintro q w2 ⟨A, rfl, hA, hb2⟩
  have k2 := rkind_any false d hA HX.out.2.2
  rw [HX.out.1] at k2
  have H2 : Hid (Below w.heap.size w w2) := HB.out.1.trans (hb2.mono HB.out.1.size)
  clear k1 hb2 hA
  go_wp2_with fail
  refine k2.mono ?_
  rintro q w3 ⟨rfl, hb3⟩
  have H3 : Hid (Below w.heap.size w w3) := H2.out.trans (hb3.mono H2.out.size)
  clear k2 hb3
  by_cases he : X.2 = 0
  · by_cases h6 : X.1 = 6
    · have hZ : Z = 0 := by
        rw [← HX.out.2.1]
        unfold inX
        rw [if_pos he, if_pos h6]
      subst hZ
      go_wp2
      go_ret
      exact ⟨rfl, H3.out⟩
    · have hZ : Z = 131 := by
        rw [← HX.out.2.1]
        unfold inX
        rw [if_pos he, if_neg h6]
      subst hZ
      have h6b : (X.1 != 6) = true := by simpa using h6
      go_wp2
      go_ret
      exact ⟨rfl, H3.out⟩
  · have hZ : Z = X.2 := by
      rw [← HX.out.2.1]
      unfold inX
      rw [if_neg he]
    subst hZ
    go_wp2
    go_ret
    exact ⟨rfl, H3.out⟩
set_option maxRecDepth 100000 in
set_option maxHeartbeats 8000000 in
theorem want_select (Q : QR) (w : World) (mv : Value) (fp : Option Addr) (fn fc : Nat) (hlk : ∀ W, Below w.heap.size w W → (Instr.lookup 48 mv (.string Q.t) true).run Tryz.prog W = .ok (.tuple #[.slice fp fn fc, .bool true]) W) (hk : Q.k = 6) (tw : Bool) (kt : ∀ W, Below w.heap.size w W → Calls Tryz.prog 32 #[.slice Q.clp Q.cll Q.clc] W fun r w' => r = .returned (.bool tw) ∧ Below W.heap.size W w') {X : Int} (kw : ∀ W, Below w.heap.size w W → Calls Tryz.prog 33 #[rowX Q.wh] W fun r w' => r = .returned (.int .i64 X) ∧ Below W.heap.size W w') :
    Calls Tryz.prog 13 #[mv, .agg (qrA Q)] w fun r w' => r = .returned (.int .i64 (if tw = true then 133 else X)) ∧ Below w.heap.size w w' := by
  obtain ⟨w1, hw1⟩ : ∃ w1, w.alloc (.cells #[.int .i64 Q.k, .string Q.t, .string Q.f, .int .i64 Q.v.k, .string Q.v.s, .int .i64 Q.v.vk, .bool Q.v.vb, .int .i64 Q.v.vn, .string Q.v.vs, .slice none 0 0, .slice none 0 0, .slice Q.v.kp Q.v.n Q.v.kc, .slice Q.v.np Q.v.m Q.v.nc, .slice Q.nmp Q.nml Q.nmc, .slice Q.exp Q.exl Q.exc, .int .i64 Q.wh.k, .string Q.wh.s, .int .i64 Q.wh.vk, .bool Q.wh.vb, .int .i64 Q.wh.vn, .string Q.wh.vs, .slice none 0 0, .slice none 0 0, .slice Q.wh.kp Q.wh.n Q.wh.kc, .slice Q.wh.np Q.wh.m Q.wh.nc, .slice Q.clp Q.cll Q.clc, .bool Q.cn, .bool Q.hi, .string Q.od, .bool Q.de, .int .i64 Q.li] 30) = w1 := ⟨_, rfl⟩
  have hb1 : Below w.heap.size w w1 := by rw [← hw1]; exact (Below.refl _ w).alloc (Nat.le_refl _) _
  have r1 : w1.heap[w.heap.size]? = some (.cells (qrA Q) 30 (0, 0)) := by rw [← hw1]; exact heap_alloc_new _ _
  have l1 := lt_of_row r1
  have x0 : w1.cell? ⟨w.heap.size, 0, none⟩ = some (.int .i64 6) := (cell_of_row w1 _ 0 _ _ _ r1).trans (by rw [← hk]; rfl)
  have x1 : w1.cell? ⟨w.heap.size, 1, none⟩ = some (.string Q.t) := cell_of_row w1 _ 1 _ _ _ r1
  have x2 : w1.cell? ⟨w.heap.size, 2, none⟩ = some (.string Q.f) := cell_of_row w1 _ 2 _ _ _ r1
  have hl := hlk w1 hb1
  have x25 : w1.cell? ⟨w.heap.size, 25, none⟩ = some (.slice Q.clp Q.cll Q.clc) := cell_of_row w1 _ 25 _ _ _ r1
  have k1 := kt w1 hb1
  clear kt
  have HB : Hid (Below w.heap.size w w1 ∧ w1.heap[w.heap.size]? = some (.cells (qrA Q) 30 (0, 0))) := ⟨hb1, r1⟩
  unfold qrA
  clear hb1 r1 hlk hk
  cases tw with
  | true =>
    rw [if_pos rfl]
    go_enter Tryz.func13, Tryz.ntmps13
    go_wp2_with fail
    refine k1.mono ?_
    rintro q w2 ⟨rfl, hb2⟩
    have H2 : Hid (Below w.heap.size w w2 ∧ w2.heap[w.heap.size]? = some (.cells (qrA Q) 30 (0, 0))) := ⟨HB.out.1.trans (hb2.mono HB.out.1.size), (hb2.block _ l1).trans HB.out.2⟩
    clear k1 hb2
    go_wp2
    go_ret
    exact ⟨rfl, H2.out.1⟩
  | false =>
    rw [if_neg (by decide)]
    go_enter Tryz.func13, Tryz.ntmps13
    go_wp2_with fail
    refine k1.mono ?_
    rintro q w2 ⟨rfl, hb2⟩
    have H2 : Hid (Below w.heap.size w w2 ∧ w2.heap[w.heap.size]? = some (.cells (qrA Q) 30 (0, 0))) := ⟨HB.out.1.trans (hb2.mono HB.out.1.size), (hb2.block _ l1).trans HB.out.2⟩
    clear k1 hb2
    have hBx : Below w.heap.size w w2 := H2.out.1
    have HR : Hid (w2.rangeAt w.heap.size 15 (arrX Q.wh).toList) := rng_wh H2.out.2
    have k9 := kw w2 hBx
    unfold rowX at k9
    clear kw hBx
    go_wp2_with (first | (refine wpList_load_mid rfl 28 (.tmp 95) rfl w.heap.size 15 rfl (arrX Q.wh).toList _ HR.out Tryz.underlying28 rfl (i28x Q.wh) ?_; simp only [Act.put, List.setIfInBounds_toArray, List.set_cons_zero, List.set_cons_succ, Array.toArray_toList]; unfold arrX) | fail)
    refine k9.mono ?_
    rintro q w9 ⟨rfl, hb9⟩
    have H9 : Hid (Below w.heap.size w w9) := H2.out.1.trans (hb9.mono H2.out.1.size)
    clear k9 hb9
    go_wp2
    go_ret
    exact ⟨rfl, H9.out⟩
end Go.Proofs.YtcniebkehekliaaGreatDoor
namespace Go.Proofs.YtcniebkehekliaaGreatDoor
open Go.RowKit Go.Shelf
attribute [local go_sem] Oper.semAt_some
set_option maxRecDepth 100000 in
set_option maxHeartbeats 8000000 in
theorem want_update (Q : QR) (w : World) (mv : Value) (fp : Option Addr) (fn fc : Nat) (hlk : ∀ W, Below w.heap.size w W → (Instr.lookup 48 mv (.string Q.t) true).run Tryz.prog W = .ok (.tuple #[.slice fp fn fc, .bool true]) W) (hk : Q.k = 4) {S : Nat → Prop} {d : Nat} {f : Nat → Et} (hex : Q.exl ≤ 1000 ∧ ∃ K, Kds w S Q.exp Q.exl Q.exc K ∧ ∀ i, i < Q.exl → LiesE w S d (f i) (row10 (K i))) (hf : ∀ i, i < Q.exl → Wfd d (f i)) (tw : Bool) (kt : ∀ W, Below w.heap.size w W → Calls Tryz.prog 32 #[.slice Q.nmp Q.nml Q.nmc] W fun r w' => r = .returned (.bool tw) ∧ Below W.heap.size W w') {X : Int} (kw : ∀ W, Below w.heap.size w W → Calls Tryz.prog 33 #[rowX Q.wh] W fun r w' => r = .returned (.int .i64 X) ∧ Below W.heap.size W w') :
    Calls Tryz.prog 13 #[mv, .agg (qrA Q)] w fun r w' => r = .returned (.int .i64 (if (kdsF (fun u => kndF d u true) f 0 Q.exl []).2 = 0 then (if tw = true then 133 else X) else (kdsF (fun u => kndF d u true) f 0 Q.exl []).2)) ∧ Below w.heap.size w w' := by
  obtain ⟨w1, hw1⟩ : ∃ w1, w.alloc (.cells #[.int .i64 Q.k, .string Q.t, .string Q.f, .int .i64 Q.v.k, .string Q.v.s, .int .i64 Q.v.vk, .bool Q.v.vb, .int .i64 Q.v.vn, .string Q.v.vs, .slice none 0 0, .slice none 0 0, .slice Q.v.kp Q.v.n Q.v.kc, .slice Q.v.np Q.v.m Q.v.nc, .slice Q.nmp Q.nml Q.nmc, .slice Q.exp Q.exl Q.exc, .int .i64 Q.wh.k, .string Q.wh.s, .int .i64 Q.wh.vk, .bool Q.wh.vb, .int .i64 Q.wh.vn, .string Q.wh.vs, .slice none 0 0, .slice none 0 0, .slice Q.wh.kp Q.wh.n Q.wh.kc, .slice Q.wh.np Q.wh.m Q.wh.nc, .slice Q.clp Q.cll Q.clc, .bool Q.cn, .bool Q.hi, .string Q.od, .bool Q.de, .int .i64 Q.li] 30) = w1 := ⟨_, rfl⟩
  have hb1 : Below w.heap.size w w1 := by rw [← hw1]; exact (Below.refl _ w).alloc (Nat.le_refl _) _
  have r1 : w1.heap[w.heap.size]? = some (.cells (qrA Q) 30 (0, 0)) := by rw [← hw1]; exact heap_alloc_new _ _
  have l1 := lt_of_row r1
  have x0 : w1.cell? ⟨w.heap.size, 0, none⟩ = some (.int .i64 4) := (cell_of_row w1 _ 0 _ _ _ r1).trans (by rw [← hk]; rfl)
  have x1 : w1.cell? ⟨w.heap.size, 1, none⟩ = some (.string Q.t) := cell_of_row w1 _ 1 _ _ _ r1
  have x2 : w1.cell? ⟨w.heap.size, 2, none⟩ = some (.string Q.f) := cell_of_row w1 _ 2 _ _ _ r1
  have hl := hlk w1 hb1
  obtain ⟨V, hV⟩ : ∃ V, kdsF (fun u => kndF d u true) f 0 Q.exl [] = V := ⟨_, rfl⟩
  rw [hV]
  obtain ⟨Z, hZ⟩ : ∃ Z, (if V.2 = 0 then (if tw = true then 133 else X) else V.2) = Z := ⟨_, rfl⟩
  rw [hZ]
  have hex1 := hex.1
  have HV : Hid (kdsF (fun u => kndF d u true) f 0 Q.exl [] = V ∧ (if V.2 = 0 then (if tw = true then 133 else X) else V.2) = Z ∧ (Q.exl ≤ 1000 ∧ ∃ K, Kds w S Q.exp Q.exl Q.exc K ∧ ∀ i, i < Q.exl → LiesE w S d (f i) (row10 (K i))) ∧ (∀ i, i < Q.exl → Wfd d (f i))) := ⟨hV, hZ, hex, hf⟩
  clear hV hZ hex hf
  have HB : Hid (Below w.heap.size w w1 ∧ w1.heap[w.heap.size]? = some (.cells (qrA Q) 30 (0, 0))) := ⟨hb1, r1⟩
  unfold qrA
  clear hb1 r1 hlk hk
  go_enter Tryz.func13, Tryz.ntmps13
  go_wp2_with fail
  clear x0 x1 x2 hl hw1
  go_loopw [9] (fun c9 wr => ∃ (i : Nat) (l : List Int), i ≤ Q.exl ∧ c9 = .int .i64 (i : Int) ∧ Hid (kdsF (fun u => kndF d u true) f i (Q.exl - i) l = V ∧ Below w.heap.size w wr ∧ wr.heap[w.heap.size]? = some (.cells (qrA Q) 30 (0, 0)))) (fun c9 _ => Q.exl - (intOf c9).toNat)
  case atStart =>
    have hh : kdsF (fun u => kndF d u true) f 0 (Q.exl - 0) [] = V ∧ Below w.heap.size w w1 ∧ w1.heap[w.heap.size]? = some (.cells (qrA Q) 30 (0, 0)) := ⟨HV.out.1, HB.out.1, HB.out.2⟩
    exact ⟨0, [], Nat.zero_le _, rfl, hh⟩
  case round =>
    obtain ⟨i, l, hi, rfl, hh⟩ := hrel
    obtain ⟨hlo, hB, hbx⟩ := hh.out
    have x14 : wr.cell? ⟨w.heap.size, 14, none⟩ = some (.slice Q.exp Q.exl Q.exc) := cell_of_row wr _ 14 _ _ _ hbx
    by_cases hlt : i < Q.exl
    · have hlt' : (i : Int) < (Q.exl : Int) := by omega
      obtain ⟨Kc, hK, hd⟩ := HV.out.2.2.1.2
      have hcap := hK.cap
      obtain ⟨g, o, hkp, hSg, hg, hcl⟩ := hK.lies (by omega)
      have hLi := hd i hlt
      obtain ⟨A, hA, h10, hon⟩ := hLi.agg
      have hrg : wr.rangeAt g (o + i * 10) A.toList := fun j u hu => by
        have hj : j < 10 := by have := (List.getElem?_eq_some_iff.1 hu).1; simpa [h10] using this
        have h1 := hcl i hlt j hj
        rw [← cell_later hB hg] at h1
        rw [h1]
        unfold row10 at hA
        injection hA with hA2
        rw [← hA2] at hu
        rcases (by omega : j = 0 ∨ j = 1 ∨ j = 2 ∨ j = 3 ∨ j = 4 ∨ j = 5 ∨ j = 6 ∨ j = 7 ∨ j = 8 ∨ j = 9) with rfl | rfl | rfl | rfl | rfl | rfl | rfl | rfl | rfl | rfl <;> simpa using hu
      rw [hA] at hLi
      have k2 := conv_any d (hLi.since (Since.below hB)) (HV.out.2.2.2 i hlt)
      have HI : Hid ((Tryz.prog.info? 28).map (·.size) = some A.toList.length ∧ wr.rangeAt g (o + i * 10) A.toList) := ⟨by rw [Array.length_toList]; exact i28 h10, hrg⟩
      rw [hkp] at x14
      obtain ⟨r, hr⟩ : ∃ r, Q.exl - i = r + 1 := ⟨Q.exl - i - 1, by omega⟩
      rw [hr] at hlo
      unfold kdsF at hlo
      obtain ⟨Y, hY⟩ : ∃ Y, kndF d (f i) true = Y := ⟨_, rfl⟩
      rw [hY] at hlo
      have lx := lt_of_row hbx
      have H2 : Hid (Below w.heap.size w wr ∧ wr.heap[w.heap.size]? = some (.cells (qrA Q) 30 (0, 0)) ∧ kndF d (f i) true = Y ∧ Q.exl - i = r + 1 ∧ Wfd d (f i)) := ⟨hB, hbx, hY, hr, HV.out.2.2.2 i hlt⟩
      clear hh hB hbx hrg h10 hon hA hLi hcl hkp hSg hg hK hd hr hY
      go_wp2_with (first | (refine wpList_load_mid rfl 28 (.tmp 74) rfl g (o + i * 10) rfl A.toList _ HI.out.2 Tryz.underlying28 rfl HI.out.1 ?_; simp only [Act.put, List.setIfInBounds_toArray, List.set_cons_zero, List.set_cons_succ, Array.toArray_toList]) | fail)
      refine k2.mono ?_
      rintro q w3 ⟨A3, rfl, hA3, hb3⟩
      have k3 := rkind_any true d hA3 H2.out.2.2.2.2
      rw [H2.out.2.2.1] at k3
      have H3 : Hid (Below w.heap.size w w3 ∧ w3.heap[w.heap.size]? = some (.cells (qrA Q) 30 (0, 0))) := ⟨H2.out.1.trans (hb3.mono H2.out.1.size), (hb3.block _ lx).trans H2.out.2.1⟩
      clear k2 hb3 hA3 x14 HI
      go_wp2_with fail
      refine k3.mono ?_
      rintro q w4 ⟨rfl, hb4⟩
      have H4 : Hid (Below w.heap.size w w4 ∧ w4.heap[w.heap.size]? = some (.cells (qrA Q) 30 (0, 0))) := ⟨H3.out.1.trans (hb4.mono H3.out.1.size), (hb4.block _ (lt_of_row H3.out.2)).trans H3.out.2⟩
      clear k3 hb4
      by_cases hy : Y.2 = 0
      · rw [if_pos hy] at hlo
        have HLO : Hid (kdsF (fun u => kndF d u true) f (i + 1) r (l ++ [Y.1]) = V) := hlo
        clear hlo
        go_wp2_with fail
        go_roundw
        case rel =>
          refine ⟨i + 1, l ++ [Y.1], by omega, by go_num, ?_⟩
          have er : Q.exl - (i + 1) = r := by have := H2.out.2.2.2.1; omega
          have hh : kdsF (fun u => kndF d u true) f (i + 1) (Q.exl - (i + 1)) (l ++ [Y.1]) = V ∧ Below w.heap.size w w4 ∧ w4.heap[w.heap.size]? = some (.cells (qrA Q) 30 (0, 0)) := ⟨by rw [er]; exact HLO.out, H4.out.1, H4.out.2⟩
          exact hh
        case measure => simp [intOf]; omega
      · rw [if_neg hy] at hlo
        have hZ : Z = Y.2 := by
          rw [← HV.out.2.1, ← hlo]
          exact if_neg hy
        subst hZ
        clear hlo
        go_wp2
        go_ret
        exact ⟨rfl, H4.out.1⟩
    · obtain rfl : i = Q.exl := by omega
      have hlt' : ¬ ((Q.exl : Int) < (Q.exl : Int)) := by omega
      have hV : V = (l, 0) := by
        rw [← hlo, Nat.sub_self]
        rfl
      subst hV
      have hZ0 := HV.out.2.1
      have x13 : wr.cell? ⟨w.heap.size, 13, none⟩ = some (.slice Q.nmp Q.nml Q.nmc) := cell_of_row wr _ 13 _ _ _ hbx
      have k1 := kt wr hB
      have lx := lt_of_row hbx
      have HBx : Hid (Below w.heap.size w wr ∧ wr.heap[w.heap.size]? = some (.cells (qrA Q) 30 (0, 0))) := ⟨hB, hbx⟩
      clear hh hlo hB hbx kt HV
      cases tw with
      | true =>
        have hZ : Z = 133 := by rw [← hZ0]; rfl
        subst hZ
        clear hZ0
        go_wp2_with fail
        refine k1.mono ?_
        rintro q w2 ⟨rfl, hb2⟩
        have H2 : Hid (Below w.heap.size w w2) := HBx.out.1.trans (hb2.mono HBx.out.1.size)
        clear k1 hb2
        go_wp2
        go_ret
        exact ⟨rfl, H2.out⟩
      | false =>
        have hZ : Z = X := by rw [← hZ0]; rfl
        subst hZ
        clear hZ0
        go_wp2_with fail
        refine k1.mono ?_
        rintro q w2 ⟨rfl, hb2⟩
        have H2 : Hid (Below w.heap.size w w2 ∧ w2.heap[w.heap.size]? = some (.cells (qrA Q) 30 (0, 0))) := ⟨HBx.out.1.trans (hb2.mono HBx.out.1.size), (hb2.block _ lx).trans HBx.out.2⟩
        clear k1 hb2
        have hBx : Below w.heap.size w w2 := H2.out.1
        have HR : Hid (w2.rangeAt w.heap.size 15 (arrX Q.wh).toList) := rng_wh H2.out.2
        have k9 := kw w2 hBx
        unfold rowX at k9
        clear kw hBx
        go_wp2_with (first | (refine wpList_load_mid rfl 28 (.tmp 95) rfl w.heap.size 15 rfl (arrX Q.wh).toList _ HR.out Tryz.underlying28 rfl (i28x Q.wh) ?_; simp only [Act.put, List.setIfInBounds_toArray, List.set_cons_zero, List.set_cons_succ, Array.toArray_toList]; unfold arrX) | fail)
        refine k9.mono ?_
        rintro q w9 ⟨rfl, hb9⟩
        have H9 : Hid (Below w.heap.size w w9) := H2.out.1.trans (hb9.mono H2.out.1.size)
        clear k9 hb9
        go_wp2
        go_ret
        exact ⟨rfl, H9.out⟩
end Go.Proofs.YtcniebkehekliaaGreatDoor
namespace Go.Proofs.YtcniebkehekliaaGreatDoor
open Go.RowKit Go.Shelf
structure SmK (M : Sm) : Prop where
  k : 1 ≤ M.k ∧ M.k ≤ 6
  t : M.t.size ≤ 10000
theorem name_len {ws : List Wd} (hl : Wl ws) (s : PS) : (nameS ws s).size ≤ 10000 := by
  unfold nameS
  split
  · have h := hl s.at'
    have e : (wdS (wAt ws s.at')).size = (wAt ws s.at').s.length := by simp [wdS, ByteArray.size]
    omega
  · exact Nat.zero_le _
theorem whr_k {ws : List Wd} {M : Sm} {s : PS} (h : SmK M) : SmK (whrF ws M s).1 := by
  unfold whrF
  split
  · exact ⟨h.k, h.t⟩
  · exact h
theorem col_k {ws : List Wd} {M : Sm} {s : PS} : (colF ws M s).1.k = M.k := by
  unfold colF
  split
  · rfl
  split <;> rfl
theorem src_k {ws : List Wd} {M : Sm} {s : PS} (hl : Wl ws) (h : 1 ≤ M.k ∧ M.k ≤ 6) : SmK (srcF ws M s).1 := by
  unfold srcF
  split
  · exact ⟨h, name_len hl _⟩
  · exact ⟨h, name_len hl _⟩
theorem ord_k {ws : List Wd} {M : Sm} {s : PS} (h : SmK M) : SmK (ordF ws M s).1 := by
  unfold ordF
  split
  · exact ⟨h.k, h.t⟩
  · exact h
theorem sld_k {ws : List Wd} {s : PS} (hl : Wl ws) : SmK (slD ws Sm.new s).1 := by
  unfold slD
  refine ord_k ?_
  unfold slW
  refine whr_k ?_
  unfold slO
  refine src_k hl ?_
  unfold slC
  rw [col_k]
  decide
theorem sel_k {ws : List Wd} {s : PS} (hl : Wl ws) : SmK (selF ws Sm.new s).1 := by
  have h := sld_k (s := s) hl
  unfold selF
  split
  · exact ⟨h.k, h.t⟩
  · exact h
theorem stm_k {ws : List Wd} {s : PS} (hl : Wl ws) (h : (stmF ws s).2.er = 0) : SmK (stmF ws s).1 := by
  unfold stmF at h ⊢
  split at h
  · rename_i h1
    rw [if_pos h1]
    unfold creF at h ⊢
    split at h
    · rename_i h2; rw [if_pos h2]; exact ⟨⟨Nat.le_of_ble_eq_true rfl, Nat.le_of_ble_eq_true rfl⟩, name_len hl _⟩
    rename_i h2; rw [if_neg h2]
    split at h
    · rename_i h3; rw [if_pos h3]; exact ⟨⟨Nat.le_of_ble_eq_true rfl, Nat.le_of_ble_eq_true rfl⟩, name_len hl _⟩
    · exact absurd h (failP_er (by decide))
  rename_i h1; rw [if_neg h1]
  split at h
  · rename_i h2; rw [if_pos h2]; exact ⟨⟨Nat.le_of_ble_eq_true rfl, Nat.le_of_ble_eq_true rfl⟩, name_len hl _⟩
  rename_i h2; rw [if_neg h2]
  split at h
  · rename_i h3; rw [if_pos h3]; exact whr_k ⟨⟨Nat.le_of_ble_eq_true rfl, Nat.le_of_ble_eq_true rfl⟩, name_len hl _⟩
  rename_i h3; rw [if_neg h3]
  split at h
  · rename_i h4; rw [if_pos h4]; exact whr_k ⟨⟨Nat.le_of_ble_eq_true rfl, Nat.le_of_ble_eq_true rfl⟩, name_len hl _⟩
  rename_i h4; rw [if_neg h4]
  split at h
  · rename_i h5; rw [if_pos h5]; exact sel_k hl
  · exact absurd h (failP_er (by decide))
theorem par_k {l : List UInt8} (h : (parF l).2.2 = 0) : SmK (parF l).1 := by
  obtain ⟨h1, h2, h3⟩ := par_stm h
  rw [h3]
  exact stm_k (words_ok h1).2.1 h2
end Go.Proofs.YtcniebkehekliaaGreatDoor
namespace Go.Proofs.YtcniebkehekliaaGreatDoor
open Go.RowKit Go.Shelf
attribute [local go_sem] Oper.semAt_some
theorem q_call {P : Program} {o : Oper} {a : Act} {C : World → Prop} {K : Act → Prop} {v : Value} {f : FuncId} {args : Array Value} (hrun : ∀ W, (execOp a.eval o).run P W = .ok (.enter f args) W)
    (hc : ∀ W, C W → Calls P f args W fun e w' => e = .returned v ∧ C w') (hk : K (a.put o.dst v)) : o.quiet P a C K :=
  ⟨v, fun W hW => by unfold Oper.quietAt; rw [hrun W]; exact ⟨rfl, hc W hW⟩, hk⟩
theorem q_row {o : Oper} {a : Act} {C : World → Prop} {K : Act → Prop} (ty : TypeId) (x : Operand) (ho : o.op = .load ty x) {z : Nat} {cs : Array Value} {t : TypeId} (hx : a.eval x = .pointer (some ⟨z, 0, none⟩)) (h0 : ∀ W, C W → W.heap[z]? = some (.cells cs t (0, 0))) {d : TypeDesc} (hu : Tryz.prog.underlying ty = some d) (hd : d.isRow = true) (hi : (Tryz.prog.info? ty).map (·.size) = some cs.size) (hk : K (a.put o.dst (.agg cs))) : o.quiet Tryz.prog a C K := by
  refine q_at (v := .agg cs) (fun W hW => ?_) hk
  have h1 := load_row (h0 W hW) ty d hu hd hi
  unfold execOp
  simp only [ho, hx]
  rw [Sem.run_bind, h1]
  rfl
/- Both answers are one, of any statement that was parsed, where both see one map. -/
def Both (w : World) (mv : Value) (Q : QR) : Prop := ∃ Z : Int, (∀ W, Below w.heap.size w W → Calls Tryz.prog 12 #[mv, .agg (qrA Q)] W fun r w' => r = .returned (.int .i64 Z) ∧ Below W.heap.size W w') ∧ (∀ W, Below w.heap.size w W → Calls Tryz.prog 13 #[mv, .agg (qrA Q)] W fun r w' => r = .returned (.int .i64 Z) ∧ Below W.heap.size W w')
theorem Below.join {w W V : World} (h : Below w.heap.size w W) (k : Below W.heap.size W V) : Below w.heap.size w V := h.trans (k.mono h.size)
theorem contains_any {w : World} {S : Nat → Prop} {p : Option Addr} {n c : Nat} {g : Nat → ByteArray} (h : Nms w S p n c g) (hn : n ≤ 1000) (x : ByteArray) (b : Bool) (hb : b = true ↔ hasN n g x) : Calls Tryz.prog 26 #[.slice p n c, .string x] w fun r w' => r = .returned (.bool b) ∧ w' = w := by
  by_cases h0 : 0 < n
  · obtain ⟨gb, go, rfl, -, -, hgc⟩ := h.lies h0
    have zl : ((List.range n).map g).length = n := by simp
    refine (Tryz.slices_Contains_string gb go n c ((List.range n).map g) x w (by omega) (by omega) (fun j hj => ?_)).mono fun e w' ⟨he, hw⟩ => ⟨?_, hw⟩
    · rw [zl] at hj
      rw [hgc j hj]
      simp [hj]
    · rw [he]
      congr 2
      rw [List.take_of_length_le (by omega)]
      have hc : Lib.containsS ((List.range n).map g) x = true ↔ hasN n g x := by
        unfold hasN
        rw [Lib.containsS_iff]
        simp [List.mem_map]
      cases hB : b with
      | true => exact hc.2 (hb.1 hB)
      | false =>
        cases hC : Lib.containsS ((List.range n).map g) x with
        | false => rfl
        | true =>
          have := hb.2 (hc.1 hC)
          rw [hB] at this
          cases this
  · obtain rfl : n = 0 := by omega
    have hbf : b = false := by
      cases hB : b with
      | false => rfl
      | true =>
        obtain ⟨j, h1, -⟩ := hb.1 hB
        omega
    rw [hbf]
    exact Tryz.slices_Contains_string_empty p c x w
open Classical in
theorem stboth_any {w : World} {S : Nat → Prop} {Q : QR} {M : Sm} (hq : Qx w S Q M) (ok : SmOk M) (hts : Q.t.size ≤ maxLen) {b n : Nat} {F : List UInt8 → Option Value} (hm : Mf w b n F) (hT : Tv w b F) (h6 : 1 ≤ M.k ∧ M.k ≤ 6) : Both w (.map (some b)) Q := by
  have hk : Q.k = (M.k : Int) := hq.k
  obtain ⟨y, hy⟩ : ∃ y, (F Q.t.data.toList).isSome = y := ⟨_, rfl⟩
  obtain ⟨fp, fn, fc, hF, hFn⟩ : ∃ fp fn fc, (F Q.t.data.toList).getD (.slice none 0 0) = .slice fp fn fc ∧ (fn ≤ 1000 ∧ ∃ h, Nms w (fun k => k ≠ b) fp fn fc h) := by
    cases hF : F Q.t.data.toList with
    | none => exact ⟨none, 0, 0, rfl, Nat.zero_le _, fun _ => ⟨#[]⟩, Nms.none _ _ _⟩
    | some v =>
      obtain ⟨p, m, c, h, h1, h2, h3⟩ := hT _ _ hF
      exact ⟨p, m, c, h1, h2, h, h3⟩
  have hlk : ∀ W, Below w.heap.size w W → ∀ W2, Below W.heap.size W W2 → (Instr.lookup 48 (.map (some b)) (.string Q.t) true).run Tryz.prog W2 = .ok (.tuple #[.slice fp fn fc, .bool y]) W2 := fun W hW W2 hW2 => hm.there (Below.join hW hW2) hts ⟨hF, hy⟩
  obtain ⟨dw, hwh⟩ := hq.wh
  have hwf : (M.wh []).k = 0 ∨ Wfd dw M.wh := ok.wh.imp (fun h => h) (fun h => h dw)
  have kw1 : ∀ W, Below w.heap.size w W → ∀ W2, Below W.heap.size W W2 → Calls Tryz.prog 29 #[rowX Q.wh] W2 fun r w' => r = .returned (.int .i64 (whE dw M.wh)) ∧ Below W2.heap.size W2 w' := fun W hW W2 hW2 => cwhere_any (hwh.since (Since.below (Below.join hW hW2))) hwf
  have kw2 : ∀ W, Below w.heap.size w W → ∀ W2, Below W.heap.size W W2 → Calls Tryz.prog 33 #[rowX Q.wh] W2 fun r w' => r = .returned (.int .i64 (whE dw M.wh)) ∧ Below W2.heap.size W2 w' := fun W hW W2 hW2 => lwhere_any (hwh.since (Since.below (Below.join hW hW2))) hwf
  by_cases k1 : M.k = 1
  · have hk1 : Q.k = 1 := by rw [hk, k1]; rfl
    cases hY : y with
    | true => rw [hY] at hlk; exact ⟨133, fun W hW => stmt_table_true Q W _ fp fn fc (hlk W hW) hk1, fun W hW => want_table_true Q W _ fp fn fc (hlk W hW) hk1⟩
    | false => rw [hY] at hlk; exact ⟨0, fun W hW => stmt_table_false Q W _ fp fn fc (hlk W hW) hk1, fun W hW => want_table_false Q W _ fp fn fc (hlk W hW) hk1⟩
  have hk1 : ¬ Q.k = 1 := by rw [hk]; omega
  cases hY : y with
  | false => rw [hY] at hlk; exact ⟨130, fun W hW => stmt_none Q W _ fp fn fc (hlk W hW) hk1, fun W hW => want_none Q W _ fp fn fc (hlk W hW) hk1⟩
  | true =>
    rw [hY] at hlk
    rcases (by omega : M.k = 2 ∨ M.k = 3 ∨ M.k = 4 ∨ M.k = 5 ∨ M.k = 6) with k | k | k | k | k
    · have hk2 : Q.k = 2 := by rw [hk, k]; rfl
      obtain ⟨hn, h, hNm⟩ := hFn
      refine ⟨if decide (hasN fn h Q.f) = true then 133 else 0, fun W hW => stmt_index Q W _ fp fn fc (hlk W hW) hk2 (decide (hasN fn h Q.f)) (fun W2 hW2 => contains_any (hNm.since (Since.below (Below.join hW hW2))) hn Q.f _ (by simp)), fun W hW => want_index Q W _ fp fn fc (hlk W hW) hk2 (decide (hasN fn h Q.f)) (fun W2 hW2 => has_any (hNm.since (Since.below (Below.join hW hW2))) hn Q.f _ (by simp))⟩
    · have hk3 : Q.k = 3 := by rw [hk, k]; rfl
      obtain ⟨dv, hv⟩ := hq.v
      have hg := ok.v k dv
      exact ⟨inX (kndF dv M.v false), fun W hW => stmt_insert Q W _ fp fn fc (hlk W hW) hk3 (fun W2 hW2 => insertE_any (hv.since (Since.below (Below.join hW hW2))) hg), fun W hW => want_insert Q W _ fp fn fc (hlk W hW) hk3 (hv.since (Since.below hW)) hg⟩
    · have hk4 : Q.k = 4 := by rw [hk, k]; rfl
      obtain ⟨he, K, de, hK, hd⟩ := hq.ex
      have hl1 : Q.exl ≤ 1000 := by rw [he]; have := ok.len.2.1; omega
      have hl2 : Q.nml ≤ 1000 := by rw [hq.nm.1]; have := ok.len.1; omega
      have hwe : ∀ i, i < Q.exl → Wfd de (M.ex.getD i zeroT) := fun i hi => by
        rw [he] at hi
        exact ok.ex _ (by simp [hi]) de
      refine ⟨_, fun W hW => stmt_update Q W _ fp fn fc (hlk W hW) hk4 (fun W2 hW2 => update_1 Q W2 (twB (nmLs Q.nml fun i => M.nm.getD i ⟨#[]⟩)) (whE dw M.wh) (kdsF (fun u => kndF de u true) (fun i => M.ex.getD i zeroT) 0 Q.exl []) (fun W3 hW3 => ?_) (fun W3 hW3 => ?_) (fun W3 hW3 => kw1 W hW W3 (Below.join hW2 hW3))), fun W hW => want_update Q W _ fp fn fc (hlk W hW) hk4 ⟨hl1, K, hK.since (Since.below hW), fun i hi => (hd i hi).since (Since.below hW)⟩ hwe (twB (nmLs Q.nml fun i => M.nm.getD i ⟨#[]⟩)) (fun W2 hW2 => ltwice_any (hq.nm.2.since (Since.below (Below.join hW hW2))) hl2) (fun W2 hW2 => kw2 W hW W2 hW2)⟩
      · have hB := Below.join hW (Below.join hW2 hW3)
        exact kinds_any (hK.since (Since.below hB)) (fun i hi => (hd i hi).since (Since.below hB)) hl1 true (fun u => kndF de u true) (fun W4 i v hi hL => kind_any true de hL (hwe i hi))
      · exact twice_any (hq.nm.2.since (Since.below (Below.join hW (Below.join hW2 hW3)))) hl2
    · have hk5 : Q.k = 5 := by rw [hk, k]; rfl
      exact ⟨whE dw M.wh, fun W hW => stmt_delete Q W _ fp fn fc (hlk W hW) hk5 (kw1 W hW), fun W hW => want_delete Q W _ fp fn fc (hlk W hW) hk5 (kw2 W hW)⟩
    · have hk6 : Q.k = 6 := by rw [hk, k]; rfl
      have hl2 : Q.cll ≤ 1000 := by rw [hq.cl.1]; have := ok.len.2.2; omega
      exact ⟨_, fun W hW => stmt_select Q W _ fp fn fc (hlk W hW) hk6 (fun W2 hW2 => select_1 Q W2 (twB (nmLs Q.cll fun i => M.cl.getD i ⟨#[]⟩)) (whE dw M.wh) (fun W3 hW3 => twice_any (hq.cl.2.since (Since.below (Below.join hW (Below.join hW2 hW3)))) hl2) (fun W3 hW3 => kw1 W hW W3 (Below.join hW2 hW3))), fun W hW => want_select Q W _ fp fn fc (hlk W hW) hk6 (twB (nmLs Q.cll fun i => M.cl.getD i ⟨#[]⟩)) (fun W2 hW2 => ltwice_any (hq.cl.2.since (Since.below (Below.join hW hW2))) hl2) (fun W2 hW2 => kw2 W hW W2 hW2)⟩
end Go.Proofs.YtcniebkehekliaaGreatDoor
namespace Go.Proofs.YtcniebkehekliaaGreatDoor
open Go.RowKit Go.Shelf
attribute [local go_sem] Oper.semAt_some
set_option maxRecDepth 100000 in
set_option maxHeartbeats 8000000 in
theorem stmts_no (s : ByteArray) (hs : s.size ≤ 140737488351232) (p : Option Addr) (n c : Nat) (q : Option Addr) (m e : Nat) (w : World) (he : Ev w) (hy : (prsF s.data.toList).2 = false) : Calls Tryz.prog 4 #[.string s, .slice p n c, .slice q m e] w fun r w' => r = .returned (.bool true) ∧ Below w.heap.size w w' := by
  have kp := parsed_any s (by omega) w he
  have ka := fun W (hW : Below w.heap.size w W) => awake_any W (he.later hW)
  obtain ⟨X, hX⟩ : ∃ X, prsF s.data.toList = X := ⟨_, rfl⟩
  rw [hX] at kp hy
  clear hX he
  go_enter Tryz.func4, Tryz.ntmps4
  go_wp2_with fail
  refine kp.mono ?_
  rintro r0 w1 ⟨R, rfl, hx, hb1⟩
  rw [hy]
  obtain ⟨Q, hQ, hq⟩ := hx.open
  rw [hQ]
  obtain ⟨w2, hw2⟩ : ∃ w2, put (w1.alloc (.cells #[.int .i64 0, .string ⟨#[]⟩, .string ⟨#[]⟩, .int .i64 0, .string ⟨#[]⟩, .int .i64 0, .bool false, .int .i64 0, .string ⟨#[]⟩, .slice none 0 0, .slice none 0 0, .slice none 0 0, .slice none 0 0, .slice none 0 0, .slice none 0 0, .int .i64 0, .string ⟨#[]⟩, .int .i64 0, .bool false, .int .i64 0, .string ⟨#[]⟩, .slice none 0 0, .slice none 0 0, .slice none 0 0, .slice none 0 0, .slice none 0 0, .bool false, .bool false, .string ⟨#[]⟩, .bool false, .int .i64 (0)] 30)) w1.heap.size (qrA Q) = w2 := ⟨_, rfl⟩
  have ra : (w1.alloc (.cells #[.int .i64 0, .string ⟨#[]⟩, .string ⟨#[]⟩, .int .i64 0, .string ⟨#[]⟩, .int .i64 0, .bool false, .int .i64 0, .string ⟨#[]⟩, .slice none 0 0, .slice none 0 0, .slice none 0 0, .slice none 0 0, .slice none 0 0, .slice none 0 0, .int .i64 0, .string ⟨#[]⟩, .int .i64 0, .bool false, .int .i64 0, .string ⟨#[]⟩, .slice none 0 0, .slice none 0 0, .slice none 0 0, .slice none 0 0, .slice none 0 0, .bool false, .bool false, .string ⟨#[]⟩, .bool false, .int .i64 (0)] 30)).heap[w1.heap.size]? = some (.cells zero31 30 (0, 0)) := heap_alloc_new _ _
  have hb2 : Below w1.heap.size w1 w2 := by rw [← hw2]; exact put_below ((Below.refl _ w1).alloc (Nat.le_refl _) _) _ (Nat.le_refl _) _
  have r2 : w2.heap[w1.heap.size]? = some (.cells (qrA Q) 30 (0, 0)) := by rw [← hw2]; exact put_row _ ra rfl
  have hB2 : Below w.heap.size w w2 := hb1.trans (hb2.mono hb1.size)
  have k2 := ka w2 hB2
  have H2 : Hid (Below w.heap.size w w2 ∧ (w1.alloc (.cells #[.int .i64 0, .string ⟨#[]⟩, .string ⟨#[]⟩, .int .i64 0, .string ⟨#[]⟩, .int .i64 0, .bool false, .int .i64 0, .string ⟨#[]⟩, .slice none 0 0, .slice none 0 0, .slice none 0 0, .slice none 0 0, .slice none 0 0, .slice none 0 0, .int .i64 0, .string ⟨#[]⟩, .int .i64 0, .bool false, .int .i64 0, .string ⟨#[]⟩, .slice none 0 0, .slice none 0 0, .slice none 0 0, .slice none 0 0, .slice none 0 0, .bool false, .bool false, .string ⟨#[]⟩, .bool false, .int .i64 (0)] 30)).heap[w1.heap.size]? = some (.cells zero31 30 (0, 0))) := ⟨hB2, ra⟩
  clear kp ka hx hQ hq hb1 hb2 hB2 ra r2 hy
  go_wp2_with (first | (refine wpList_put rfl 30 (.tmp 7) (.tmp 13) rfl rfl rfl rfl H2.out.2 rfl info30 (qr_ones Q) ?_; rw [hw2]) | fail)
  refine k2.mono ?_
  rintro r0 w3 ⟨rfl, hb3⟩
  have H3 : Hid (Below w.heap.size w w3) := H2.out.1.trans (hb3.mono H2.out.1.size)
  clear k2 hb3
  go_wp2
  go_ret
  exact ⟨rfl, H3.out⟩
set_option maxRecDepth 100000 in
set_option maxHeartbeats 8000000 in
theorem stmts_yes (s : ByteArray) (hs : s.size ≤ 140737488351232) (p : Option Addr) (n c : Nat) (g : Nat → ByteArray) (q : Option Addr) (m e : Nat) (h : Nat → ByteArray) {S : Nat → Prop} (w : World) (he : Ev w) (hN : Nms w S p n c g) (hM : Nms w S q m e h) (hz : ∀ i, i < n → (g i).size ≤ maxLen) (hy : (prsF s.data.toList).2 = true) : Calls Tryz.prog 4 #[.string s, .slice p n c, .slice q m e] w fun r w' => r = .returned (.bool true) ∧ Below w.heap.size w w' := by
  have kp := parsed_any s (by omega) w he
  have ka := fun W (hW : Below w.heap.size w W) => awake_any W (he.later hW)
  have hok := prs_ok hy
  have hM1 : SmOk (prsF s.data.toList).1 ∧ SmK (prsF s.data.toList).1 := by rw [hok.1]; exact ⟨par_ok hok.2, par_k hok.2⟩
  obtain ⟨X, hX⟩ : ∃ X, prsF s.data.toList = X := ⟨_, rfl⟩
  rw [hX] at kp hy hM1
  clear hX hok he
  go_enter Tryz.func4, Tryz.ntmps4
  go_wp2_with fail
  refine kp.mono ?_
  rintro r0 w1 ⟨R, rfl, hx, hb1⟩
  rw [hy]
  obtain ⟨Q, hQ, hq⟩ := hx.open
  rw [hQ]
  obtain ⟨w2, hw2⟩ : ∃ w2, put (w1.alloc (.cells #[.int .i64 0, .string ⟨#[]⟩, .string ⟨#[]⟩, .int .i64 0, .string ⟨#[]⟩, .int .i64 0, .bool false, .int .i64 0, .string ⟨#[]⟩, .slice none 0 0, .slice none 0 0, .slice none 0 0, .slice none 0 0, .slice none 0 0, .slice none 0 0, .int .i64 0, .string ⟨#[]⟩, .int .i64 0, .bool false, .int .i64 0, .string ⟨#[]⟩, .slice none 0 0, .slice none 0 0, .slice none 0 0, .slice none 0 0, .slice none 0 0, .bool false, .bool false, .string ⟨#[]⟩, .bool false, .int .i64 (0)] 30)) w1.heap.size (qrA Q) = w2 := ⟨_, rfl⟩
  have ra : (w1.alloc (.cells #[.int .i64 0, .string ⟨#[]⟩, .string ⟨#[]⟩, .int .i64 0, .string ⟨#[]⟩, .int .i64 0, .bool false, .int .i64 0, .string ⟨#[]⟩, .slice none 0 0, .slice none 0 0, .slice none 0 0, .slice none 0 0, .slice none 0 0, .slice none 0 0, .int .i64 0, .string ⟨#[]⟩, .int .i64 0, .bool false, .int .i64 0, .string ⟨#[]⟩, .slice none 0 0, .slice none 0 0, .slice none 0 0, .slice none 0 0, .slice none 0 0, .bool false, .bool false, .string ⟨#[]⟩, .bool false, .int .i64 (0)] 30)).heap[w1.heap.size]? = some (.cells zero31 30 (0, 0)) := heap_alloc_new _ _
  have hb2 : Below w1.heap.size w1 w2 := by rw [← hw2]; exact put_below ((Below.refl _ w1).alloc (Nat.le_refl _) _) _ (Nat.le_refl _) _
  have r2 : w2.heap[w1.heap.size]? = some (.cells (qrA Q) 30 (0, 0)) := by rw [← hw2]; exact put_row _ ra rfl
  have hB2 : Below w.heap.size w w2 := hb1.trans (hb2.mono hb1.size)
  have kt := table_any (hN.since (Since.below hB2)) (hM.since (Since.below hB2)) hz
  have l2 := lt_of_row r2
  have hq2 := hq.since (Since.below hb2)
  have H2 : Hid (Below w.heap.size w w2 ∧ (w1.alloc (.cells #[.int .i64 0, .string ⟨#[]⟩, .string ⟨#[]⟩, .int .i64 0, .string ⟨#[]⟩, .int .i64 0, .bool false, .int .i64 0, .string ⟨#[]⟩, .slice none 0 0, .slice none 0 0, .slice none 0 0, .slice none 0 0, .slice none 0 0, .slice none 0 0, .int .i64 0, .string ⟨#[]⟩, .int .i64 0, .bool false, .int .i64 0, .string ⟨#[]⟩, .slice none 0 0, .slice none 0 0, .slice none 0 0, .slice none 0 0, .slice none 0 0, .bool false, .bool false, .string ⟨#[]⟩, .bool false, .int .i64 (0)] 30)).heap[w1.heap.size]? = some (.cells zero31 30 (0, 0)) ∧ w2.heap[w1.heap.size]? = some (.cells (qrA Q) 30 (0, 0)) ∧ Qx w2 (fun k => w.heap.size ≤ k) Q X.1 ∧ SmOk X.1 ∧ SmK X.1) := ⟨hB2, ra, r2, hq2, hM1⟩
  clear kp hx hQ hq hb1 hb2 hB2 ra r2 hq2 hM1 hy hN hM hz
  go_wp2_with (first | (refine wpList_put rfl 30 (.tmp 7) (.tmp 13) rfl rfl rfl rfl H2.out.2.1 rfl info30 (qr_ones Q) ?_; rw [hw2]) | fail)
  refine kt.mono ?_
  rintro r0 w3 ⟨rfl, hb3, nn, F, hMf, hTv⟩
  have hq3 := H2.out.2.2.2.1.since (Since.below hb3)
  have hts : Q.t.size ≤ maxLen := by
    rw [hq3.t]
    have := H2.out.2.2.2.2.2.t
    unfold maxLen
    omega
  obtain ⟨Z, kz1, kz2⟩ := stboth_any hq3 H2.out.2.2.2.2.1 hts hMf hTv H2.out.2.2.2.2.2.k
  have r3 := (hb3.block _ l2).trans H2.out.2.2.1
  have l3 := lt_of_row r3
  have H3 : Hid (Below w.heap.size w w3 ∧ w3.heap[w1.heap.size]? = some (.cells (qrA Q) 30 (0, 0)) ∧ True) := ⟨Below.join H2.out.1 hb3, r3, trivial⟩
  clear kt hb3 hMf hTv hq3 hts r3 H2 hw2 l2
  go_wp2_with fail
  refine quiet_class (C := fun W => Below w3.heap.size w3 W) (by kernel_rfl) (by kernel_rfl) ⟨rfl, rfl, rfl, Nat.le_refl _, fun _ _ => rfl⟩ ?_
  refine BigFrame.wpQuiet_want (by rfl) (fun Kq hKq => q_call (v := .bool true) (f := 7) (args := #[]) (fun W => ?_) (fun W hW => ?_) (hKq _ ?_))
  · go_simp
  · refine (ka W (Below.join H3.out.1 hW)).mono ?_
    rintro e w' ⟨rfl, hb'⟩
    exact ⟨rfl, hW.trans (hb'.mono hW.size)⟩
  simp only [Act.put, List.setIfInBounds_toArray, List.set_cons_zero, List.set_cons_succ]
  refine BigFrame.wpQuiet_want (by rfl) (fun Kq hKq => q_pure (v := .bool true) (fun W => ?_) (hKq _ ?_))
  · go_simp
  simp only [Act.put, List.setIfInBounds_toArray, List.set_cons_zero, List.set_cons_succ]
  refine BigFrame.wpQuiet_want (by rfl) (fun Kq hKq => q_pure (v := .map (some w2.heap.size)) (fun W => ?_) (hKq _ ?_))
  · go_simp
  simp only [Act.put, List.setIfInBounds_toArray, List.set_cons_zero, List.set_cons_succ]
  refine BigFrame.wpQuiet_want (by rfl) (fun Kq hKq => q_row 30 (.tmp 7) rfl rfl (fun W hW => (hW.block _ l3).trans H3.out.2.1) Tryz.underlying30 rfl info30 (hKq _ ?_))
  simp only [Act.put, List.setIfInBounds_toArray, List.set_cons_zero, List.set_cons_succ]
  refine BigFrame.wpQuiet_want (by rfl) (fun Kq hKq => q_call (v := .int .i64 Z) (f := 12) (args := #[.map (some w2.heap.size), .agg (qrA Q)]) (fun W => ?_) (fun W hW => ?_) (hKq _ ?_))
  · go_simp
  · refine (kz1 W hW).mono ?_
    rintro e w' ⟨rfl, hb'⟩
    exact ⟨rfl, hW.trans (hb'.mono hW.size)⟩
  simp only [Act.put, List.setIfInBounds_toArray, List.set_cons_zero, List.set_cons_succ]
  refine BigFrame.wpQuiet_want (by rfl) (fun Kq hKq => q_pure (v := .map (some w2.heap.size)) (fun W => ?_) (hKq _ ?_))
  · go_simp
  simp only [Act.put, List.setIfInBounds_toArray, List.set_cons_zero, List.set_cons_succ]
  refine BigFrame.wpQuiet_want (by rfl) (fun Kq hKq => q_row 30 (.tmp 7) rfl rfl (fun W hW => (hW.block _ l3).trans H3.out.2.1) Tryz.underlying30 rfl info30 (hKq _ ?_))
  simp only [Act.put, List.setIfInBounds_toArray, List.set_cons_zero, List.set_cons_succ]
  refine BigFrame.wpQuiet_want (by rfl) (fun Kq hKq => q_call (v := .int .i64 Z) (f := 13) (args := #[.map (some w2.heap.size), .agg (qrA Q)]) (fun W => ?_) (fun W hW => ?_) (hKq _ ?_))
  · go_simp
  · refine (kz2 W hW).mono ?_
    rintro e w' ⟨rfl, hb'⟩
    exact ⟨rfl, hW.trans (hb'.mono hW.size)⟩
  simp only [Act.put, List.setIfInBounds_toArray, List.set_cons_zero, List.set_cons_succ]
  refine BigFrame.wpQuiet_want (by rfl) (fun Kq hKq => q_pure (v := .bool true) (fun W => ?_) (hKq _ ?_))
  · go_simp
  simp only [Act.put, List.setIfInBounds_toArray, List.set_cons_zero, List.set_cons_succ]
  refine BigFrame.wpQuiet_want (by rfl) (fun Kq hKq => q_pure (v := .bool true) (fun W => ?_) (hKq _ ?_))
  · go_simp
  simp only [Act.put, List.setIfInBounds_toArray, List.set_cons_zero, List.set_cons_succ]
  refine BigFrame.wpQuiet_want (by rfl) (fun Kq hKq => q_pure (v := .bool true) (fun W => ?_) (hKq _ ?_))
  · go_simp
  simp only [Act.put, List.setIfInBounds_toArray, List.set_cons_zero, List.set_cons_succ]
  refine wpQuiet_nil ?_
  intro w9 hw9
  have H9 : Hid (Below w.heap.size w w9) := Below.join H3.out.1 hw9
  clear hw9 kz1 kz2 ka
  go_wp2
  go_ret
  exact ⟨rfl, H9.out⟩
theorem stmts_walk (s : ByteArray) (hs : s.size ≤ 140737488351232) (p : Option Addr) (n c : Nat) (g : Nat → ByteArray) (q : Option Addr) (m e : Nat) (h : Nat → ByteArray) (w : World) (he : Ev w) (hN : Nms w (fun _ => True) p n c g) (hM : Nms w (fun _ => True) q m e h) (hz : ∀ i, i < n → (g i).size ≤ maxLen) : Calls Tryz.prog 4 #[.string s, .slice p n c, .slice q m e] w fun r w' => r = .returned (.bool true) ∧ Below w.heap.size w w' := by
  cases hy : (prsF s.data.toList).2 with
  | true => exact stmts_yes s hs p n c g q m e h w he hN hM hz hy
  | false => exact stmts_no s hs p n c q m e w he hy
end Go.Proofs.YtcniebkehekliaaGreatDoor
