/- The law BtreeSpans as a walk: of any keys, span and number the call returns true, and nothing that was there has changed. -/
import Derived.Test.YtiplmlalhmldbaaLin
import Derived.Test.YtiplmlalhmldbaaGrw
import Derived.Test.YtiplmlalhmldbaaFir
import Derived.Test.YtiplmlalhmldbaaSam
import Derived.Test.YtiplmlalhmldbaaFew
import Derived.Test.YtiplmlalhmldbaaAwk
import Derived.Laws.BitsLemmas
namespace Go.Proofs.Ytiplmlalhmldbaa
open Go.RowKit Go.Shelf
attribute [local go_sem] Oper.semAt_some
structure Strs (w : World) (p : Option Addr) (n c : Nat) (g : Nat → ByteArray) : Prop where
  cap : n ≤ c ∧ c ≤ maxLen
  at' : 0 < n → ∃ b o, p = some ⟨b, o, none⟩ ∧ b < w.heap.size ∧ ∀ i, i < n → w.cell? ⟨b, o + i, none⟩ = some (.string (g i))
theorem and_seven (n : Int) : bits .and .i64 n 7 = n % 8 := by
  have h7 : (BitVec.ofInt 64 7).toNat = 2 ^ 3 - 1 := by decide
  have key : (BitVec.ofInt 64 n &&& BitVec.ofInt 64 7).toNat = (n % ((2 ^ 64 : Nat) : Int)).toNat % 2 ^ 3 := by
    rw [BitVec.toNat_and, BitVec.toNat_ofInt, h7, Nat.and_two_pow_sub_one_eq_mod]
  show IntKind.i64.wrap ((BitVec.ofInt 64 n &&& BitVec.ofInt 64 7).toNat : Nat) = n % 8
  rw [key, IntKind.wrap_i64]
  omega
theorem insF_len (x : Im) : ∀ xs : List Im, (insF xs x).length ≤ xs.length + 1
  | [] => Nat.le_refl _
  | y :: ys => by
    have ih := insF_len x ys
    unfold insF at ih ⊢
    simp only [List.length_append, List.length_cons] at ih ⊢
    cases h1 : ltB y.1 x.1 with
    | true =>
      rw [List.filter_cons_of_pos (by exact h1), List.filter_cons_of_neg (by rw [ltB_asymm h1]; decide), List.length_cons]
      omega
    | false =>
      rw [List.filter_cons_of_neg (by rw [h1]; decide)]
      cases h2 : ltB x.1 y.1 with
      | true => rw [List.filter_cons_of_pos (by exact h2), List.length_cons]; omega
      | false => rw [List.filter_cons_of_neg (by rw [h2]; decide)]; omega
/- What lies side by side while keys are put. -/
structure SB (w wr : World) (b : Nat) (lo hi : ByteArray) (i : Nat) (p : Option Addr) (m c : Nat) : Prop where
  ex : ∃ (h : Nat) (t : Nd h) (n : Nat), Rt h t ∧ Tr wr b h t n ∧ n ≤ i ∧ (flat h t).length = m ∧ m ≤ i ∧ Sl wr p m c (itC (flat h t))
  bx : wr.heap[w.heap.size]? = some (.cells #[.string lo, .string hi] 24 (0, 0))
  bel : Below w.heap.size w wr
  bb : w.heap.size < b
theorem SB.later {w wr w2 : World} {b : Nat} {lo hi : ByteArray} {i : Nat} {p : Option Addr} {m c : Nat} (H : SB w wr b lo hi i p m c) (hb : Below wr.heap.size wr w2) : SB w w2 b lo hi i p m c := by
  obtain ⟨h, t, n, h1, h2, h3, h4, h5, h6⟩ := H.ex
  exact ⟨⟨h, t, n, h1, h2.later hb, h3, h4, h5, h6.later hb⟩, (hb.block _ (lt_of_row H.bx)).trans H.bx, H.bel.trans (hb.mono H.bel.size), H.bb⟩
theorem Sl.off2 {w w' : World} {p : Option Addr} {n c : Nat} {xs : List Im} (h : Sl w p n c (itC xs)) {X : Nat} {cs : Array Value} {T : TypeId} {fr : Nat × Nat} (hX : w.heap[X]? = some (.cells cs T fr)) (hno : ∀ s, Value.string s ∉ cs) (hs : w.heap.size ≤ w'.heap.size)
    (ho : ∀ k, k < w.heap.size → k ≠ X → w'.heap[k]? = w.heap[k]?) : Sl w' p n c (itC xs) := by
  refine ⟨h.cap, h.len, h.one, fun h0 => ?_⟩
  obtain ⟨b, o, h1, h2, h3⟩ := h.lies h0
  have hb : b ≠ X := by
    intro e
    subst e
    have hn := h.it
    obtain ⟨c1, -⟩ := itC_at xs 0 (by omega)
    have h4 := h3 _ _ c1
    rw [cell_of_row w b (o + 2 * 0) cs T fr hX] at h4
    exact hno _ (Array.mem_of_getElem? h4)
  exact ⟨b, o, h1, Nat.lt_of_lt_of_le h2 hs, fun j u hu => (World.cell?_of_block (a := ⟨b, o + j, none⟩) (ho b h2 hb)).trans (h3 j u hu)⟩
theorem SB.put {w wr : World} {b : Nat} {lo hi : ByteArray} {i : Nat} {p : Option Addr} {m c : Nat} (H : SB w wr b lo hi i p m c) (hi60 : i < 60) (k : ByteArray) :
    Calls Try.prog 14 #[.pointer (some ⟨b, 0, none⟩), .string k, .string k] wr fun e w1 => (∃ r, e = .returned (.bool r)) ∧ Calls Try.prog 13 #[.slice p m c, .string k, .string k] w1 fun e w2 =>
      ∃ q d m2 r, e = .returned (.tuple #[.slice q m2 d, .bool r]) ∧ SB w w2 b lo hi (i + 1) q m2 d := by
  obtain ⟨h, t, n, h1, h2, h3, h4, h5, h6⟩ := H.ex
  subst h4
  obtain ⟨p0, c0, q0, d0, g1, g2⟩ := h2.ex
  refine (put_any h1 (k, k) b n (by omega) wr h2).mono ?_
  rintro e w1 ⟨rfl, ⟨h7, t7, r7, f7, T7⟩, ho⟩
  have s7 : Sl w1 p (flat h t).length c (itC (flat h t)) := h6.off2 g1 (by intro s hs; simp at hs) ho.size ho.block
  have hr := (ris_pw _).2 h1.pw
  refine ⟨⟨_, rfl⟩, (lput_any _ hr (by omega) k k p c w1 s7).mono ?_⟩
  rintro e w2 ⟨q, d, r, rfl, s8, hb8⟩
  rw [insK_insF h1.pw, ← f7] at s8
  have hl := insF_len (k, k) (flat h t)
  rw [← f7] at hl
  have hne : w.heap.size ≠ b := by have := H.bb; omega
  have lb := lt_of_row H.bx
  refine ⟨q, d, _, r, by rw [insK_insF h1.pw, ← f7], ⟨h7, t7, _, r7, T7.later hb8, ?_, rfl, by omega, s8⟩, ?_, ?_, H.bb⟩
  · split <;> omega
  · exact (hb8.block _ (Nat.lt_of_lt_of_le lb ho.size)).trans ((ho.block _ lb hne).trans H.bx)
  · have := H.bel.size
    refine ⟨hb8.os.trans (ho.os.trans H.bel.os), hb8.tape.trans (ho.tape.trans H.bel.tape), hb8.output.trans (ho.output.trans H.bel.output), Nat.le_trans this (Nat.le_trans ho.size hb8.size), fun j hj => ?_⟩
    exact (hb8.block j (by have := ho.size; omega)).trans ((ho.block j (by omega) (by have := H.bb; omega)).trans (H.bel.block j hj))
theorem SB.ins {w wr : World} {b : Nat} {lo hi : ByteArray} {i : Nat} {p : Option Addr} {m c : Nat} (H : SB w wr b lo hi i p m c) (hi60 : i ≤ 60) (stop : Nat) (h0 : 0 < stop) (h9 : stop ≤ 1000) :
    Calls Try.prog 19 #[.slice p m c, .agg #[.string lo, .string hi]] wr fun e w1 => ∃ q d k, e = .returned (.slice q k d) ∧ k ≤ 60 ∧ Below wr.heap.size wr w1 ∧ Calls Try.prog 22 #[.pointer (some ⟨b, 0, none⟩), .agg #[.string lo, .string hi], .int .i64 (stop : Int)] w1 fun e w2 =>
      e = .returned (.int .i64 ((min stop k : Nat) : Int)) ∧ Below w1.heap.size w1 w2 ∧ ∀ w3, Below w2.heap.size w2 w3 → Calls Try.prog 18 #[.pointer (some ⟨b, 0, none⟩), .agg #[.string lo, .string hi], .slice q k d] w3 fun e w4 => e = .returned (.bool true) ∧ Below w.heap.size w w4 := by
  obtain ⟨h, t, n, h1, h2, h3, h4, h5, h6⟩ := H.ex
  subst h4
  have hsp := span_flat lo hi h1.bal h1.pw
  refine (lin_any (flat h t) (by omega) lo hi p c wr h6).mono ?_
  rintro e w1 ⟨q, d, rfl, s1, hb1⟩
  have hk : (inS lo hi (flat h t)).length ≤ 60 := Nat.le_trans (List.length_filter_le _ _) (by omega)
  refine ⟨q, d, _, rfl, hk, hb1, (first_any h1.ok n b lo hi stop h0 h9 w1 (h2.later hb1)).mono ?_⟩
  rintro e w2 ⟨rfl, hb2⟩
  rw [hsp]
  refine ⟨rfl, hb2, fun w3 hb3 => ?_⟩
  have b3 : Below wr.heap.size wr w3 := (hb1.trans (hb2.mono hb1.size)).trans (hb3.mono (Nat.le_trans hb1.size hb2.size))
  refine (same_any h1.ok n b lo hi _ hsp (by omega) q d w3 (h2.later b3) (s1.later (hb2.trans (hb3.mono hb2.size)))).mono ?_
  rintro e w4 ⟨rfl, hb4⟩
  exact ⟨rfl, H.bel.trans ((b3.trans (hb4.mono b3.size)).mono H.bel.size)⟩
set_option maxRecDepth 100000 in
set_option maxHeartbeats 4000000 in
theorem spans_walk (ks : Nat → ByteArray) (p : Option Addr) (n c : Nat) (lo hi : ByteArray) (stop : Int) (w : World) (hS : Strs w p n c ks) (hk : ∀ i, i < n → (ks i).size ≤ maxLen) :
    Calls Try.prog 5 #[.slice p n c, .agg #[.string lo, .string hi], .int .i64 stop] w fun e w' => e = .returned (.bool true) ∧ Below w.heap.size w w' := by
  have hcap := hS.cap
  have hmx : maxLen = 9223372036854775807 := rfl
  obtain ⟨wa, hwa⟩ : ∃ wa, w.alloc (.cells #[.string lo, .string hi] 24) = wa := ⟨_, rfl⟩
  have ba : Below w.heap.size w wa := by rw [← hwa]; exact (Below.refl _ w).alloc (Nat.le_refl _) _
  have ra : wa.heap[w.heap.size]? = some (.cells #[.string lo, .string hi] 24 (0, 0)) := by rw [← hwa]; exact heap_alloc_new _ _
  have sa : wa.heap.size = w.heap.size + 1 := by rw [← hwa]; simp
  go_enter Try.func5, Try.ntmps5
  go_wp2_with fail
  refine (new_any wa).mono ?_
  rintro e w1 ⟨rfl, T1, hb1⟩
  rw [sa]
  rw [sa] at T1
  obtain ⟨w2, hw2⟩ : ∃ w2, w1.alloc (.cells #[] 39) = w2 := ⟨_, rfl⟩
  have hb2 : Below w1.heap.size w1 w2 := by rw [← hw2]; exact (Below.refl _ w1).alloc (Nat.le_refl _) _
  obtain ⟨z, hz⟩ : ∃ z, w1.heap.size = z := ⟨_, rfl⟩
  have I0 : SB w w2 (w.heap.size + 1) lo hi 0 (some ⟨z, 0, none⟩) 0 0 := by
    have b12 := hb1.trans (hb2.mono hb1.size)
    refine ⟨⟨0, ([] : List Im), 0, ⟨?_, ?_, by decide, Or.inl rfl⟩, T1.later hb2, Nat.le_refl _, rfl, Nat.le_refl _, ⟨⟨Nat.le_refl _, Nat.zero_le _⟩, rfl, itC_one _, fun h => absurd h (Nat.lt_irrefl _)⟩⟩, (b12.block _ (lt_of_row ra)).trans ra, ba.trans (b12.mono ba.size), Nat.lt_succ_self _⟩
    · trivial
    · trivial
  clear T1 hb1 hb2 ra
  go_wp2
  go_loopw [8, 9] (fun s8 s9 wr => ∃ (i m d : Nat) (q : Option Addr), s8 = .slice q m d ∧ s9 = .int .i64 (i : Int) ∧ i ≤ n ∧ i ≤ 60 ∧ Hid (SB w wr (w.heap.size + 1) lo hi i q m d)) (fun _ s9 _ => n - (intOf s9).toNat)
  case atStart => exact ⟨0, 0, 0, _, rfl, rfl, Nat.zero_le _, Nat.zero_le _, I0⟩
  case round =>
    obtain ⟨i, m, d, q, rfl, rfl, hin, hi60, I⟩ := hrel
    by_cases hlt : i < n ∧ i < 60
    · obtain ⟨h1, h2⟩ := hlt
      obtain ⟨b, o, rfl, hb, hc⟩ := hS.at' (by omega)
      have z1 := (cell_later I.out.bel hb).trans (hc i h1)
      have hsz := hk i h1
      clear hc
      go_wp2_with fail
      refine (few_any (ks i) hsz wr).mono ?_
      rintro e w3 ⟨⟨k, rfl⟩, hb3⟩
      have I3 : Hid (SB w w3 (w.heap.size + 1) lo hi i q m d) := I.out.later hb3
      clear I z1
      go_wp2_with fail
      refine (I3.out.put h2 k).mono ?_
      rintro e w4 ⟨⟨r4, rfl⟩, hc4⟩
      go_wp2_with fail
      refine hc4.mono ?_
      rintro e w5 ⟨q5, d5, m5, r5, rfl, hI5⟩
      have I5 : Hid (SB w w5 (w.heap.size + 1) lo hi (i + 1) q5 m5 d5) := hI5
      clear hc4 I3 hI5
      go_wp2
      go_roundw
      case rel => exact ⟨i + 1, m5, d5, q5, rfl, by rw [Int.natCast_succ], h1, h2, I5⟩
      case measure => simp [intOf]; omega
    · obtain ⟨st, hst7, hbit⟩ : ∃ st : Nat, st ≤ 7 ∧ Hid (wrap64 (bits .and .i64 stop 7 + 1) = ((st + 1 : Nat) : Int)) := ⟨(stop % 8).toNat, by omega, (by rw [and_seven]; unfold wrap64; omega : wrap64 (bits .and .i64 stop 7 + 1) = (((stop % 8).toNat + 1 : Nat) : Int))⟩
      by_cases h1 : i < n
      · have h2 : ¬ ((i : Int) < 60) := by omega
        have h1' : (i : Int) < (n : Int) := by omega
        clear hlt
        have cl0 := cell_of_row wr _ 0 _ _ _ I.out.bx
        have cl1 := cell_of_row wr _ 1 _ _ _ I.out.bx
        have hend := I.out.ins hi60 (st + 1) (by omega) (by omega)
        go_wp2_with fail
        refine hend.mono ?_
        rintro e w3 ⟨q3, d3, k3, rfl, hk3, hb3, hc3⟩
        have r3 := (hb3.block _ (lt_of_row I.out.bx)).trans I.out.bx
        have dl0 := cell_of_row w3 _ 0 _ _ _ r3
        have dl1 := cell_of_row w3 _ 1 _ _ _ r3
        clear hend cl0 cl1
        go_wp2_with fail
        rw [hbit.out]
        refine hc3.mono ?_
        rintro e w4 ⟨rfl, hb4, hc4⟩
        obtain ⟨mm, hmm⟩ : ∃ mm, min (st + 1) k3 = mm := ⟨_, rfl⟩
        rw [hmm]
        have HM : Hid (min (st + 1) k3 = mm) := hmm
        clear hmm hc3
        go_wp2_with fail
        refine (awake_any w4).mono ?_
        rintro e w5 ⟨rfl, hb5⟩
        have r5 := (hb5.block _ (Nat.lt_of_lt_of_le (lt_of_row r3) hb4.size)).trans ((hb4.block _ (lt_of_row r3)).trans r3)
        have el0 := cell_of_row w5 _ 0 _ _ _ r5
        have el1 := cell_of_row w5 _ 1 _ _ _ r5
        have hc5 := hc4 w5 hb5
        clear dl0 dl1 hc4
        go_wp2_with fail
        refine hc5.mono ?_
        rintro e w6 ⟨rfl, hb6⟩
        clear hc5 el0 el1
        go_wp2_with fail
        all_goals
          rw [hbit.out] at h
          go_ret
          refine ⟨?_, hb6⟩
          have hh := HM.out
          first
          | (have e : (mm : Int) = ((st + 1 : Nat) : Int) := by omega
             rw [hbit.out, e]
             simp)
          | (have e : (mm : Int) = (k3 : Int) := by omega
             rw [e]
             simp)
      · have h1' : ¬ ((i : Int) < (n : Int)) := by omega
        clear hlt
        have cl0 := cell_of_row wr _ 0 _ _ _ I.out.bx
        have cl1 := cell_of_row wr _ 1 _ _ _ I.out.bx
        have hend := I.out.ins hi60 (st + 1) (by omega) (by omega)
        go_wp2_with fail
        refine hend.mono ?_
        rintro e w3 ⟨q3, d3, k3, rfl, hk3, hb3, hc3⟩
        have r3 := (hb3.block _ (lt_of_row I.out.bx)).trans I.out.bx
        have dl0 := cell_of_row w3 _ 0 _ _ _ r3
        have dl1 := cell_of_row w3 _ 1 _ _ _ r3
        clear hend cl0 cl1
        go_wp2_with fail
        rw [hbit.out]
        refine hc3.mono ?_
        rintro e w4 ⟨rfl, hb4, hc4⟩
        obtain ⟨mm, hmm⟩ : ∃ mm, min (st + 1) k3 = mm := ⟨_, rfl⟩
        rw [hmm]
        have HM : Hid (min (st + 1) k3 = mm) := hmm
        clear hmm hc3
        go_wp2_with fail
        refine (awake_any w4).mono ?_
        rintro e w5 ⟨rfl, hb5⟩
        have r5 := (hb5.block _ (Nat.lt_of_lt_of_le (lt_of_row r3) hb4.size)).trans ((hb4.block _ (lt_of_row r3)).trans r3)
        have el0 := cell_of_row w5 _ 0 _ _ _ r5
        have el1 := cell_of_row w5 _ 1 _ _ _ r5
        have hc5 := hc4 w5 hb5
        clear dl0 dl1 hc4
        go_wp2_with fail
        refine hc5.mono ?_
        rintro e w6 ⟨rfl, hb6⟩
        clear hc5 el0 el1
        go_wp2_with fail
        all_goals
          rw [hbit.out] at h
          go_ret
          refine ⟨?_, hb6⟩
          have hh := HM.out
          first
          | (have e : (mm : Int) = ((st + 1 : Nat) : Int) := by omega
             rw [hbit.out, e]
             simp)
          | (have e : (mm : Int) = (k3 : Int) := by omega
             rw [e]
             simp)
end Go.Proofs.Ytiplmlalhmldbaa
