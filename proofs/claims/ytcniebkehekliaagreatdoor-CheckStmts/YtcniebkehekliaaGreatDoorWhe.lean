/- A statement's cells, its lists opened (QR); and what may stand behind WHERE (where). -/
import Derived.Test.YtcniebkehekliaaGreatDoorKni
import Derived.Test.YtcniebkehekliaaGreatDoorSmo
namespace Go.Proofs.YtcniebkehekliaaGreatDoor
open Go.RowKit Go.Shelf
attribute [local go_sem] Oper.semAt_some
structure QR where
  k : Int
  t : ByteArray
  f : ByteArray
  v : XR
  nmp : Option Addr
  nml : Nat
  nmc : Nat
  exp : Option Addr
  exl : Nat
  exc : Nat
  wh : XR
  clp : Option Addr
  cll : Nat
  clc : Nat
  cn : Bool
  hi : Bool
  od : ByteArray
  de : Bool
  li : Int
def qrA (Q : QR) : Array Value := #[.int .i64 Q.k, .string Q.t, .string Q.f, .int .i64 Q.v.k, .string Q.v.s, .int .i64 Q.v.vk, .bool Q.v.vb, .int .i64 Q.v.vn, .string Q.v.vs, .slice none 0 0, .slice none 0 0, .slice Q.v.kp Q.v.n Q.v.kc, .slice Q.v.np Q.v.m Q.v.nc, .slice Q.nmp Q.nml Q.nmc, .slice Q.exp Q.exl Q.exc, .int .i64 Q.wh.k, .string Q.wh.s, .int .i64 Q.wh.vk, .bool Q.wh.vb, .int .i64 Q.wh.vn, .string Q.wh.vs, .slice none 0 0, .slice none 0 0, .slice Q.wh.kp Q.wh.n Q.wh.kc, .slice Q.wh.np Q.wh.m Q.wh.nc, .slice Q.clp Q.cll Q.clc, .bool Q.cn, .bool Q.hi, .string Q.od, .bool Q.de, .int .i64 Q.li]
structure Qx (w : World) (S : Nat → Prop) (Q : QR) (M : Sm) : Prop where
  k : Q.k = (M.k : Int)
  t : Q.t = M.t
  f : Q.f = M.f
  v : ∃ d, LiesE w S d M.v (rowX Q.v)
  nm : Q.nml = M.nm.length ∧ Nms w S Q.nmp Q.nml Q.nmc (fun i => M.nm.getD i ⟨#[]⟩)
  ex : Q.exl = M.ex.length ∧ ∃ K d, Kds w S Q.exp Q.exl Q.exc K ∧ ∀ i, i < Q.exl → LiesE w S d (M.ex.getD i zeroT) (row10 (K i))
  wh : ∃ d, LiesE w S d M.wh (rowX Q.wh)
  cl : Q.cll = M.cl.length ∧ Nms w S Q.clp Q.cll Q.clc (fun i => M.cl.getD i ⟨#[]⟩)
theorem Sx.open {w : World} {S : Nat → Prop} {R : SR} {M : Sm} (h : Sx w S R M) : ∃ Q, stA R = qrA Q ∧ Qx w S Q M := by
  obtain ⟨p1, c1, e1, n1⟩ := h.nm
  obtain ⟨p2, c2, K, d, e2, n2, n3⟩ := h.ex
  obtain ⟨p3, c3, e3, n4⟩ := h.cl
  refine ⟨⟨R.k, R.t, R.f, R.v, p1, M.nm.length, c1, p2, M.ex.length, c2, R.wh, p3, M.cl.length, c3, R.cn, R.hi, R.od, R.de, R.li⟩, ?_, h.k, h.t, h.f, h.v, ⟨rfl, n1⟩, ⟨rfl, K, d, n2, n3⟩, h.wh, ⟨rfl, n4⟩⟩
  unfold stA qrA
  rw [e1, e2, e3]
theorem Qx.since {w w' : World} {S : Nat → Prop} {Q : QR} {M : Sm} (h : Qx w S Q M) (hS : Since S w w') : Qx w' S Q M := by
  obtain ⟨d1, h1⟩ := h.v
  obtain ⟨d2, h2⟩ := h.wh
  obtain ⟨e, K, d, h3, h4⟩ := h.ex
  exact ⟨h.k, h.t, h.f, ⟨d1, h1.since hS⟩, ⟨h.nm.1, h.nm.2.since hS⟩, ⟨e, K, d, h3.since hS, fun i hi => (h4 i hi).since hS⟩, ⟨d2, h2.since hS⟩, ⟨h.cl.1, h.cl.2.since hS⟩⟩
theorem rng_wh {w : World} {z : Nat} {Q : QR} (h : w.heap[z]? = some (.cells (qrA Q) 30 (0, 0))) : w.rangeAt z 15 (arrX Q.wh).toList := fun j u hu => by
  have hj : j < 10 := by have := (List.getElem?_eq_some_iff.1 hu).1; simpa [arrX] using this
  rw [cell_of_row w _ _ _ _ _ h]
  obtain rfl | rfl | rfl | rfl | rfl | rfl | rfl | rfl | rfl | rfl : j = 0 ∨ j = 1 ∨ j = 2 ∨ j = 3 ∨ j = 4 ∨ j = 5 ∨ j = 6 ∨ j = 7 ∨ j = 8 ∨ j = 9 := by omega
  all_goals simpa [arrX, qrA] using hu
theorem rng_v {w : World} {z : Nat} {Q : QR} (h : w.heap[z]? = some (.cells (qrA Q) 30 (0, 0))) : w.rangeAt z 3 (arrX Q.v).toList := fun j u hu => by
  have hj : j < 10 := by have := (List.getElem?_eq_some_iff.1 hu).1; simpa [arrX] using this
  rw [cell_of_row w _ _ _ _ _ h]
  obtain rfl | rfl | rfl | rfl | rfl | rfl | rfl | rfl | rfl | rfl : j = 0 ∨ j = 1 ∨ j = 2 ∨ j = 3 ∨ j = 4 ∨ j = 5 ∨ j = 6 ∨ j = 7 ∨ j = 8 ∨ j = 9 := by omega
  all_goals simpa [arrX, qrA] using hu
theorem i28x (R : XR) : (Tryz.prog.info? 28).map (·.size) = some (arrX R).toList.length := by
  rw [Array.length_toList]
  exact info28
def whX (X : Int × Int) : Int := if X.2 = 0 then (if tkI 1 X.1 then 0 else 131) else X.2
def whE (d : Nat) (t : Et) : Int := if (t []).k = 0 then 0 else whX (kndF d t true)
set_option maxRecDepth 100000 in
set_option maxHeartbeats 8000000 in
theorem cwhere_0 (R : XR) (w : World) (hk : R.k = 0) : Calls Tryz.prog 29 #[rowX R] w fun r w' => r = .returned (.int .i64 0) ∧ Below w.heap.size w w' := by
  obtain ⟨w1, hw1⟩ : ∃ w1, w.alloc (.cells #[.int .i64 R.k, .string R.s, .int .i64 R.vk, .bool R.vb, .int .i64 R.vn, .string R.vs, .slice none 0 0, .slice none 0 0, .slice R.kp R.n R.kc, .slice R.np R.m R.nc] 28) = w1 := ⟨_, rfl⟩
  have hb1 : Below w.heap.size w w1 := by rw [← hw1]; exact (Below.refl _ w).alloc (Nat.le_refl _) _
  have r1 : w1.heap[w.heap.size]? = some (.cells (arrX R) 28 (0, 0)) := by rw [← hw1]; exact heap_alloc_new _ _
  have x0 : w1.cell? ⟨w.heap.size, 0, none⟩ = some (.int .i64 0) := (cell_of_row w1 _ 0 _ _ _ r1).trans (by rw [← hk]; rfl)
  have HB : Hid (Below w.heap.size w w1) := hb1
  unfold rowX
  clear hb1 r1 hk
  go_enter Tryz.func29, Tryz.ntmps29
  go_wp2
  go_ret
  exact ⟨rfl, HB.out⟩
set_option maxRecDepth 100000 in
set_option maxHeartbeats 8000000 in
theorem cwhere_1 (R : XR) (w : World) (X : Int × Int) (kb : ∀ W, Below w.heap.size w W → Calls Tryz.prog 8 #[rowX R, .bool true] W fun r w' => r = .returned (.tuple #[.int .i64 X.1, .int .i64 X.2]) ∧ Below W.heap.size W w') (hk : ¬ R.k = 0) : Calls Tryz.prog 29 #[rowX R] w fun r w' => r = .returned (.int .i64 (whX X)) ∧ Below w.heap.size w w' := by
  obtain ⟨Z, hZ⟩ : ∃ Z, whX X = Z := ⟨_, rfl⟩
  rw [hZ]
  obtain ⟨w1, hw1⟩ : ∃ w1, w.alloc (.cells #[.int .i64 R.k, .string R.s, .int .i64 R.vk, .bool R.vb, .int .i64 R.vn, .string R.vs, .slice none 0 0, .slice none 0 0, .slice R.kp R.n R.kc, .slice R.np R.m R.nc] 28) = w1 := ⟨_, rfl⟩
  have hb1 : Below w.heap.size w w1 := by rw [← hw1]; exact (Below.refl _ w).alloc (Nat.le_refl _) _
  have r1 : w1.heap[w.heap.size]? = some (.cells (arrX R) 28 (0, 0)) := by rw [← hw1]; exact heap_alloc_new _ _
  have x0 : w1.cell? ⟨w.heap.size, 0, none⟩ = some (.int .i64 R.k) := cell_of_row w1 _ 0 _ _ _ r1
  have k1 := kb w1 hb1
  have HB : Hid (Below w.heap.size w w1 ∧ w1.heap[w.heap.size]? = some (.cells (arrX R) 28 (0, 0)) ∧ whX X = Z) := ⟨hb1, r1, hZ⟩
  unfold rowX at k1 ⊢
  clear hb1 r1 kb hZ
  go_enter Tryz.func29, Tryz.ntmps29
  go_wp2_with (first | (refine wpList_get rfl 28 (.tmp 1) rfl rfl HB.out.2.1 Tryz.underlying28 rfl info28 ?_; simp only [Act.put, List.setIfInBounds_toArray, List.set_cons_zero, List.set_cons_succ]; unfold arrX) | fail)
  refine k1.mono ?_
  rintro q w2 ⟨rfl, hb2⟩
  have H2 : Hid (Below w.heap.size w w2) := HB.out.1.trans (hb2.mono HB.out.1.size)
  clear k1 hb2 hw1 x0
  by_cases he : X.2 = 0
  · have kt := takes_any 1 X.1 w2
    cases ht : tkI 1 X.1 with
    | true =>
      have hZ : Z = 0 := by
        rw [← HB.out.2.2]
        unfold whX
        rw [if_pos he, ht]
        rfl
      subst hZ
      rw [ht] at kt
      have ke := errorIf_any false 131 w2
      simp only [Bool.false_eq_true, reduceIte] at ke
      clear ht
      go_wp2_with fail
      refine kt.mono ?_
      rintro q w3 ⟨rfl, hw3⟩
      have hw3' := hw3.symm
      clear hw3
      subst hw3'
      clear kt
      go_wp2_with fail
      refine ke.mono ?_
      rintro q w3 ⟨rfl, hw3⟩
      have hw3' := hw3.symm
      clear hw3
      subst hw3'
      clear ke
      go_wp2
      go_ret
      exact ⟨rfl, H2.out⟩
    | false =>
      have hZ : Z = 131 := by
        rw [← HB.out.2.2]
        unfold whX
        rw [if_pos he, ht]
        rfl
      subst hZ
      rw [ht] at kt
      have ke := errorIf_any true 131 w2
      simp only [if_true] at ke
      clear ht
      go_wp2_with fail
      refine kt.mono ?_
      rintro q w3 ⟨rfl, hw3⟩
      have hw3' := hw3.symm
      clear hw3
      subst hw3'
      clear kt
      go_wp2_with fail
      refine ke.mono ?_
      rintro q w3 ⟨rfl, hw3⟩
      have hw3' := hw3.symm
      clear hw3
      subst hw3'
      clear ke
      go_wp2
      go_ret
      exact ⟨rfl, H2.out⟩
  · have hZ : Z = X.2 := by
      rw [← HB.out.2.2]
      unfold whX
      rw [if_neg he]
    subst hZ
    go_wp2
    go_ret
    exact ⟨rfl, H2.out⟩
theorem cwhere_any {w : World} {S : Nat → Prop} {d : Nat} {t : Et} {R : XR} (h : LiesE w S d t (rowX R)) (hk : (t []).k = 0 ∨ Wfd d t) : Calls Tryz.prog 29 #[rowX R] w fun r w' => r = .returned (.int .i64 (whE d t)) ∧ Below w.heap.size w w' := by
  have h1 := h.top.1
  unfold whE
  by_cases h0 : (t []).k = 0
  · rw [if_pos h0]
    exact cwhere_0 R w (by rw [h1, h0]; rfl)
  · rw [if_neg h0]
    exact cwhere_1 R w _ (fun W hW => kind_any true d (h.since (Since.below hW)) (hk.resolve_left h0)) (by rw [h1]; omega)
end Go.Proofs.YtcniebkehekliaaGreatDoor
