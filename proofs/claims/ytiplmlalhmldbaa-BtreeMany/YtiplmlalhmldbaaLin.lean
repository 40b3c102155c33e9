/- The laws' in: the pairs of a list whose keys are in a span. -/
import Derived.Test.YtiplmlalhmldbaaLpu
import Derived.Test.YtiplmlalhmldbaaSpm
namespace Go.Proofs.Ytiplmlalhmldbaa
open Go.RowKit Go.Shelf
attribute [local go_sem] Oper.semAt_some
theorem inS_step (lo hi : ByteArray) (xs : List Im) {i : Nat} (h : i < xs.length) : inS lo hi (xs.take (i + 1)) = if hasB lo hi (xs[i]!).1 then inS lo hi (xs.take i) ++ [xs[i]!] else inS lo hi (xs.take i) := by
  have e : xs.take (i + 1) = xs.take i ++ [xs[i]!] := by
    rw [List.take_add_one, List.getElem?_eq_getElem h, getElem!_pos xs i h]
    rfl
  rw [e]
  unfold inS
  rw [List.filter_append]
  cases hh : hasB lo hi (xs[i]!).1 with
  | true => rw [if_pos rfl, List.filter_cons_of_pos (by exact hh)]; rfl
  | false => rw [if_neg (by decide), List.filter_cons_of_neg (by rw [hh]; decide), List.filter_nil, List.append_nil]
set_option maxRecDepth 100000 in
set_option maxHeartbeats 4000000 in
theorem lin_any (xs : List Im) (hn : xs.length ≤ 900) (lo hi : ByteArray) (p : Option Addr) (c : Nat) (w : World) (hS : Sl w p xs.length c (itC xs)) :
    Calls Try.prog 19 #[.slice p xs.length c, .agg #[.string lo, .string hi]] w fun e w' => ∃ q d, e = .returned (.slice q (inS lo hi xs).length d) ∧
      Sl w' q (inS lo hi xs).length d (itC (inS lo hi xs)) ∧ Below w.heap.size w w' := by
  have hcap := hS.cap
  have hmx : maxLen = 9223372036854775807 := rfl
  obtain ⟨w1, hw1⟩ : ∃ w1, w.alloc (.cells #[.string lo, .string hi] 24) = w1 := ⟨_, rfl⟩
  have hb1 : Below w.heap.size w w1 := by rw [← hw1]; exact (Below.refl _ w).alloc (Nat.le_refl _) _
  have hs1 : w1.heap.size = w.heap.size + 1 := by rw [← hw1]; simp
  have r1 : w1.heap[w.heap.size]? = some (.cells #[.string lo, .string hi] 24 (0, 0)) := by rw [← hw1]; exact heap_alloc_new _ _
  obtain ⟨w2, hw2⟩ : ∃ w2, w1.alloc (.cells #[] 39) = w2 := ⟨_, rfl⟩
  have hb2 : Below w1.heap.size w1 w2 := by rw [← hw2]; exact (Below.refl _ w1).alloc (Nat.le_refl _) _
  have e0 : w2.ownsRow w1.heap.size 39 2 (.slice (some ⟨w1.heap.size, 0, none⟩) 0 0) 0 [] := by rw [← hw2]; exact World.ownsRow_lit w1 #[] 0 (Nat.le_refl _) (by decide) rfl
  obtain ⟨NN, hNN⟩ : ∃ NN, (inS lo hi xs).length = NN := ⟨_, rfl⟩
  obtain ⟨LL, hLL⟩ : ∃ LL, itC (inS lo hi xs) = LL := ⟨_, rfl⟩
  rw [hNN, hLL]
  have HN : Hid ((inS lo hi xs).length = NN) := hNN
  have HL : Hid (itC (inS lo hi xs) = LL) := hLL
  clear hNN hLL
  have hB2 : Below w.heap.size w w2 := hb1.trans (hb2.mono hb1.size)
  have r2 : w2.heap[w.heap.size]? = some (.cells #[.string lo, .string hi] 24 (0, 0)) := (hb2.block _ (lt_of_row r1)).trans r1
  have hs2 : w1.heap.size ≤ w2.heap.size := hb2.size
  go_enter Try.func19, Try.ntmps19
  go_wp2
  go_loopw [5, 6] (fun s5 s6 wr => ∃ (v5 : Value) (i k : Nat), v5 = s5 ∧ s6 = .int .i64 (i : Int) ∧ i ≤ xs.length ∧ wr.heap[w.heap.size]? = some (.cells #[.string lo, .string hi] 24 (0, 0)) ∧ Below w.heap.size w wr ∧ Hid (w1.heap.size ≤ wr.heap.size) ∧
    Hid (k = (inS lo hi (xs.take i)).length ∧ wr.ownsRow w1.heap.size 39 2 v5 k (itC (inS lo hi (xs.take i))))) (fun _ s6 _ => xs.length - (intOf s6).toNat)
  case atStart =>
    refine ⟨_, 0, 0, rfl, rfl, Nat.zero_le _, r2, hB2, hs2, rfl, ?_⟩
    rw [← hs1]
    exact e0
  case round =>
    obtain ⟨v5, i, k, rfl, rfl, hix, hr, hB, hsz, I⟩ := hrel
    by_cases hlt : i < xs.length
    · obtain ⟨b, o, rfl, hb, hc⟩ := hS.lies (by omega)
      obtain ⟨c1, c2⟩ := itC_at xs i hlt
      have z1 := (cell_later hB hb).trans (hc _ _ c1)
      have z2 := (cell_later hB hb).trans (hc _ _ c2)
      obtain ⟨⟨y1, y2⟩, hy⟩ : ∃ y, xs[i]! = y := ⟨_, rfl⟩
      rw [hy] at z1 z2
      have HY : Hid (xs[i]! = (y1, y2)) := hy
      rw [show o + 2 * i = o + i * 2 by omega] at z1
      rw [show o + (2 * i + 1) = o + i * 2 + 1 by omega] at z2
      clear hy c1 c2 hc
      have hil : (i : Int) < (xs.length : Int) := by omega
      have cl0 := cell_of_row wr _ 0 _ _ _ hr
      have cl1 := cell_of_row wr _ 1 _ _ _ hr
      cases h1 : Op.bytesLess y1.toList lo.toList with
      | true =>
        go_wp2_with fail
        go_quiet (fail)
        go_wp2
        go_roundw
        case rel =>
          refine ⟨v5, i + 1, k, rfl, by rw [Int.natCast_succ], hlt, hr, below_drewN hB nq, hsz, ?_⟩
          have hh : hasB lo hi (xs[i]!).1 = false := by rw [HY.out]; exact hasB_no h1
          have e := inS_step lo hi xs hlt
          rw [hh, if_neg (by decide)] at e
          show k = (inS lo hi (xs.take (i + 1))).length ∧ _
          rw [e]
          exact I.out
        case measure => simp [intOf]; omega
      | false =>
        cases h2 : hi.toList.isEmpty with
        | true =>
          have h2e : (hi.toList == []) = true := by simpa using h2
          go_wp2_with fail
          go_quiet (fail)
          have hBq := below_drewN hB nq
          have hrq : (wr.drewN nq).heap[w.heap.size]? = some (.cells #[.string lo, .string hi] 24 (0, 0)) := hr
          have Iq : k = (inS lo hi (xs.take i)).length ∧ (wr.drewN nq).ownsRow w1.heap.size 39 2 v5 k (itC (inS lo hi (xs.take i))) := I.out
          have hszq : Hid (w1.heap.size ≤ (wr.drewN nq).heap.size) := hsz
          have zq1 : (wr.drewN nq).cell? ⟨b, o + i * 2, none⟩ = some (.string y1) := z1
          have zq2 : (wr.drewN nq).cell? ⟨b, o + i * 2 + 1, none⟩ = some (.string y2) := z2
          obtain ⟨wq, hwq⟩ : ∃ wq, wr.drewN nq = wq := ⟨_, rfl⟩
          rw [hwq] at hBq hrq Iq hszq zq1 zq2
          rw [hwq]
          clear hwq cl0 cl1 z1 z2 hB hr I hsz
          obtain ⟨i1, i2⟩ := Iq
          have hkb : k ≤ 900 := by
            rw [i1]
            exact Nat.le_trans (List.length_filter_le _ _) (by simp; omega)
          have q0 : (wq.alloc (.cells #[.string y1, .string y2] 39)).ownsRow w1.heap.size 39 2 v5 k (itC (inS lo hi (xs.take i))) := i2.alloc _
          have qb : Below wq.heap.size wq (wq.alloc (.cells #[.string y1, .string y2] 39)) := (Below.refl _ wq).alloc (Nat.le_refl _) _
          obtain ⟨v', W', hrun, ho, hg, hbk⟩ := app27 q0 (Nat.le_trans hszq.out qb.size) (Sl.one_item wq (y1, y2) 39) (by omega)
          have HI : Hid (k = (inS lo hi (xs.take i)).length) := i1
          have HO : Hid (W'.ownsRow w1.heap.size 39 2 v' (k + 1) (itC (inS lo hi (xs.take i)) ++ itC [(y1, y2)])) := ho
          have hrow : ∀ g, v5.ownBlock = some g → w1.heap.size ≤ g := fun g hg2 => (i2.lt g hg2).1
          have hr' : W'.heap[w.heap.size]? = some (.cells #[.string lo, .string hi] 24 (0, 0)) := by
            rw [hg.block _ (Nat.lt_of_lt_of_le (lt_of_row hrq) qb.size) (fun e => by have := hrow _ e.symm; omega)]
            exact (qb.block _ (lt_of_row hrq)).trans hrq
          have hB' : Below w.heap.size w W' := (hBq.trans (qb.mono hBq.size)).grown hg (Nat.le_trans hBq.size qb.size) (fun g e => by have := hrow g e; omega)
          have hsz' : Hid (w1.heap.size ≤ W'.heap.size) := Nat.le_trans hszq.out (Nat.le_trans qb.size hg.size)
          clear i1 i2 q0 qb ho hg hbk hrow
          go_wp2_with (at_builtin; refine Lib.wpList_append_run _ rfl _ _ _ _ rfl _ _ rfl rfl _ _ hrun ?_)
          go_roundw
          case rel =>
            refine ⟨v', i + 1, k + 1, rfl, by rw [Int.natCast_succ], hlt, hr', hB', hsz', ?_⟩
            have hh : hasB lo hi (xs[i]!).1 = true := by rw [HY.out]; exact hasB_open h1 h2
            have e := inS_step lo hi xs hlt
            rw [hh, if_pos rfl, HY.out] at e
            show k + 1 = (inS lo hi (xs.take (i + 1))).length ∧ _
            rw [e, itC_app, List.length_append, ← HI.out]
            exact ⟨rfl, HO.out⟩
          case measure => simp [intOf]; omega
        | false =>
          have h2e : (hi.toList == []) = false := by simpa using h2
          cases h3 : Op.bytesLess y1.toList hi.toList with
          | true =>
            go_wp2_with fail
            go_quiet (fail)
            have hBq := below_drewN hB nq
            have hrq : (wr.drewN nq).heap[w.heap.size]? = some (.cells #[.string lo, .string hi] 24 (0, 0)) := hr
            have Iq : k = (inS lo hi (xs.take i)).length ∧ (wr.drewN nq).ownsRow w1.heap.size 39 2 v5 k (itC (inS lo hi (xs.take i))) := I.out
            have hszq : Hid (w1.heap.size ≤ (wr.drewN nq).heap.size) := hsz
            have zq1 : (wr.drewN nq).cell? ⟨b, o + i * 2, none⟩ = some (.string y1) := z1
            have zq2 : (wr.drewN nq).cell? ⟨b, o + i * 2 + 1, none⟩ = some (.string y2) := z2
            obtain ⟨wq, hwq⟩ : ∃ wq, wr.drewN nq = wq := ⟨_, rfl⟩
            rw [hwq] at hBq hrq Iq hszq zq1 zq2
            rw [hwq]
            clear hwq cl0 cl1 z1 z2 hB hr I hsz
            obtain ⟨i1, i2⟩ := Iq
            have hkb : k ≤ 900 := by
              rw [i1]
              exact Nat.le_trans (List.length_filter_le _ _) (by simp; omega)
            have q0 : (wq.alloc (.cells #[.string y1, .string y2] 39)).ownsRow w1.heap.size 39 2 v5 k (itC (inS lo hi (xs.take i))) := i2.alloc _
            have qb : Below wq.heap.size wq (wq.alloc (.cells #[.string y1, .string y2] 39)) := (Below.refl _ wq).alloc (Nat.le_refl _) _
            obtain ⟨v', W', hrun, ho, hg, hbk⟩ := app27 q0 (Nat.le_trans hszq.out qb.size) (Sl.one_item wq (y1, y2) 39) (by omega)
            have HI : Hid (k = (inS lo hi (xs.take i)).length) := i1
            have HO : Hid (W'.ownsRow w1.heap.size 39 2 v' (k + 1) (itC (inS lo hi (xs.take i)) ++ itC [(y1, y2)])) := ho
            have hrow : ∀ g, v5.ownBlock = some g → w1.heap.size ≤ g := fun g hg2 => (i2.lt g hg2).1
            have hr' : W'.heap[w.heap.size]? = some (.cells #[.string lo, .string hi] 24 (0, 0)) := by
              rw [hg.block _ (Nat.lt_of_lt_of_le (lt_of_row hrq) qb.size) (fun e => by have := hrow _ e.symm; omega)]
              exact (qb.block _ (lt_of_row hrq)).trans hrq
            have hB' : Below w.heap.size w W' := (hBq.trans (qb.mono hBq.size)).grown hg (Nat.le_trans hBq.size qb.size) (fun g e => by have := hrow g e; omega)
            have hsz' : Hid (w1.heap.size ≤ W'.heap.size) := Nat.le_trans hszq.out (Nat.le_trans qb.size hg.size)
            clear i1 i2 q0 qb ho hg hbk hrow
            go_wp2_with (at_builtin; refine Lib.wpList_append_run _ rfl _ _ _ _ rfl _ _ rfl rfl _ _ hrun ?_)
            go_roundw
            case rel =>
              refine ⟨v', i + 1, k + 1, rfl, by rw [Int.natCast_succ], hlt, hr', hB', hsz', ?_⟩
              have hh : hasB lo hi (xs[i]!).1 = true := by rw [HY.out]; exact (hasB_end h1 h2).trans h3
              have e := inS_step lo hi xs hlt
              rw [hh, if_pos rfl, HY.out] at e
              show k + 1 = (inS lo hi (xs.take (i + 1))).length ∧ _
              rw [e, itC_app, List.length_append, ← HI.out]
              exact ⟨rfl, HO.out⟩
            case measure => simp [intOf]; omega
          | false =>
            go_wp2_with fail
            go_quiet (fail)
            go_wp2
            go_roundw
            case rel =>
              refine ⟨v5, i + 1, k, rfl, by rw [Int.natCast_succ], hlt, hr, below_drewN hB nq, hsz, ?_⟩
              have hh : hasB lo hi (xs[i]!).1 = false := by rw [HY.out]; exact (hasB_end h1 h2).trans h3
              have e := inS_step lo hi xs hlt
              rw [hh, if_neg (by decide)] at e
              show k = (inS lo hi (xs.take (i + 1))).length ∧ _
              rw [e]
              exact I.out
            case measure => simp [intOf]; omega
    · obtain rfl : i = xs.length := by omega
      obtain ⟨i1, i2⟩ := I.out
      rw [List.take_length] at i1 i2
      have hnl : ¬ ((xs.length : Int) < (xs.length : Int)) := by omega
      obtain ⟨q, d, e1, e2⟩ := Sl.of_own i2 (itC_one _)
      rw [HL.out] at e2
      have hk : k = NN := i1.trans HN.out
      subst hk
      clear i1 i2 I HN HL
      subst e1
      go_wp2
      go_ret
      exact ⟨_, _, rfl, e2, hB⟩
end Go.Proofs.Ytiplmlalhmldbaa
