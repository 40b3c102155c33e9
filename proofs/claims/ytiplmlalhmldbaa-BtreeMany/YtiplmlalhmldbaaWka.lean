/- A node with another kid in a place, of whatever number of keys (withKid): the whole. -/
import Derived.Test.YtiplmlalhmldbaaJos
namespace Go.Proofs.Ytiplmlalhmldbaa
open Go.RowKit Go.Shelf
theorem ok_kids {h : Nat} {t : Nd (h + 1)} (B : Bal (h + 1) t) (hp : Pw (flat (h + 1) t)) : ∀ k ∈ t.2, Ok h k ∧ 0 < (its h k).length := fun k hk =>
  ⟨ok_of (B.2 k hk).1 (hp.sublist (kid_sub B hk)) (by have := (B.2 k hk).2.2; omega), by have := (B.2 k hk).2.1; omega⟩
theorem kdn_le : ∀ {h : Nat} {t : Nd h}, Bal h t → (its h t).length ≤ 50 → kdn h t ≤ 60
  | 0, _, _, _ => Nat.zero_le _
  | h + 1, t, B, hn => by
    have h1 : t.2.length = t.1.length + 1 := B.1
    have h2 : t.1.length ≤ 50 := hn
    show t.2.length ≤ 60
    omega
theorem wk_any {h : Nat} {xs : List Im} {ts : List (Nd h)} {i : Nat} {k2 : Nd h} (hi : i ≤ xs.length) (hn : xs.length ≤ 49) (h1 : ts.length = xs.length + 1)
    (hold : ∀ k, k ∈ ts.take i ∨ k ∈ ts.drop (i + 1) → Bal h k ∧ 3 ≤ (its h k).length ∧ (its h k).length ≤ 7) (i1 : Bal h k2) (i3 : 3 ≤ (its h k2).length) (i4 : (its h k2).length ≤ 15)
    (hpw : Pw (zipP (xs.take i) ((ts.take i).map (flat h)) ++ flat h k2 ++ zipS (xs.drop i) ((ts.drop (i + 1)).map (flat h)))) (W : World) (p : Option Addr) (c : Nat) (q : Option Addr) (d n m : Nat) (bv : Value)
    (hN : Lies W (h + 1) ((xs, ts) : List Im × List (Nd h)) (.agg #[.slice p n c, .slice q m d])) (hB : Lies W h k2 bv) :
    Calls Try.prog 36 #[.agg #[.slice p n c, .slice q m d], .int .i64 (i : Int), bv] W fun e w' => ∃ v, e = .returned v ∧ Lies w' (h + 1) (withKidT xs ts i k2) v ∧ Below W.heap.size W w' := by
  have km := kid_math hi h1 hold i1 i3 i4
  rw [← km.2.1] at hpw
  have hlen := km.2.2.2
  have okT : Ok (h + 1) (withKidT xs ts i k2) := ok_of km.1 hpw (by omega)
  have okK := ok_kids km.1 hpw
  obtain ⟨p1, c1, q1, d1, L, e, hS, hQ, hL⟩ := hN.open
  injection e with e
  obtain ⟨⟨rfl, rfl, rfl⟩, rfl, rfl, rfl⟩ : (p = p1 ∧ n = xs.length ∧ c = c1) ∧ q = q1 ∧ m = ts.length ∧ d = d1 := by simp at e; exact e
  refine withKid_any xs ts k2 i hi (by omega) h1 i3 (by omega) i1.shp (fun h7 => ?_) (fun h7 => ?_) p c q d W hS L hQ hL bv hB
  · have e : withKidT xs ts i k2 = partedT xs ts i k2 := if_pos h7
    rw [e] at okK okT
    refine ⟨(okK _ ?_).1, (okK _ ?_).1, okK, okT⟩
    · exact List.mem_append_left _ (List.mem_append_right _ List.mem_cons_self)
    · exact List.mem_append_left _ (List.mem_append_right _ (List.mem_cons_of_mem _ List.mem_cons_self))
  · have e : withKidT xs ts i k2 = mkN xs (ts.take i ++ [k2] ++ ts.drop (i + 1)) := if_neg h7
    rw [e] at okK
    exact okK
theorem jo_any {h : Nat} {xs : List Im} {ts : List (Nd h)} {i : Nat} {k2 : Nd h} (hi : i ≤ xs.length) (h0 : 0 < xs.length) (hn : xs.length ≤ 49) (h1 : ts.length = xs.length + 1)
    (hold : ∀ k ∈ ts, Bal h k ∧ 3 ≤ (its h k).length ∧ (its h k).length ≤ 7) (hok : ∀ k ∈ ts, Ok h k ∧ 0 < (its h k).length) (i1 : Bal h k2) (i3 : (its h k2).length = 2)
    (hpw : Pw (zipP (xs.take i) ((ts.take i).map (flat h)) ++ flat h k2 ++ zipS (xs.drop i) ((ts.drop (i + 1)).map (flat h)))) (w : World) (p : Option Addr) (c : Nat) (q : Option Addr) (d : Nat) (L : List Value) (kv : Value)
    (hS : Sl w p xs.length c (itC xs)) (hQ : Sl w q ts.length d L) (hL : LiesL w h ts L) (hkv : Lies w h k2 kv) :
    Calls Try.prog 44 #[.agg #[.slice p xs.length c, .slice q ts.length d], .int .i64 (i : Int), kv] w fun e w' => ∃ v, e = .returned v ∧ Lies w' (h + 1) (joinedT xs ts i k2) v ∧ Below w.heap.size w w' := by
  have hold2 : ∀ k, k ∈ ts.take i ∨ k ∈ ts.drop (i + 1) → Bal h k ∧ 3 ≤ (its h k).length ∧ (its h k).length ≤ 7 := fun k hk => hold k (by
    rcases hk with hk | hk
    · exact List.mem_of_mem_take hk
    · exact List.mem_of_mem_drop hk)
  have jm := joined_math hi h0 h1 hold2 i1 i3
  have hpj := hpw
  rw [← jm.2.1] at hpj
  have okR : Ok (h + 1) (joinedT xs ts i k2) := ok_of jm.1 hpj (by have := jm.2.2.2; omega)
  have hxs : (xs.take (i - 1) ++ xs.drop (i - 1 + 1)).length = xs.length - 1 := by simp; omega
  have hts : (ts.take (i - 1 + 1) ++ ts.drop (i - 1 + 2)).length = (xs.take (i - 1) ++ xs.drop (i - 1 + 1)).length + 1 := by rw [hxs]; simp; omega
  have hsubm : ∀ k ∈ ts.take (i - 1 + 1) ++ ts.drop (i - 1 + 2), k ∈ ts := fun k hk => by
    rcases List.mem_append.1 hk with hk | hk
    · exact List.mem_of_mem_take hk
    · exact List.mem_of_mem_drop hk
  have hold3 : ∀ k, k ∈ (ts.take (i - 1 + 1) ++ ts.drop (i - 1 + 2)).take (i - 1) ∨ k ∈ (ts.take (i - 1 + 1) ++ ts.drop (i - 1 + 2)).drop (i - 1 + 1) → Bal h k ∧ 3 ≤ (its h k).length ∧ (its h k).length ≤ 7 := fun k hk => hold k (hsubm k (by
    rcases hk with hk | hk
    · exact List.mem_of_mem_take hk
    · exact List.mem_of_mem_drop hk))
  rcases Nat.eq_zero_or_pos i with rfl | hi0
  · have hm1 := getD_mem (l := ts) (i := 1) (by omega) (dflt h)
    have hs := hold _ hm1
    have bj := join_bal (xs[0]!) i1 hs.1
    have lj := join_len h k2 xs[0]! (ts.getD 1 (dflt h))
    have km := kid_math (k2 := joinT h k2 xs[0]! (ts.getD 1 (dflt h))) (i := 0) (Nat.zero_le _) hts hold3 bj (by omega) (by omega)
    have hpk := hpj
    rw [show joinedT xs ts 0 k2 = withKidT (xs.take (0 - 1) ++ xs.drop (0 - 1 + 1)) (ts.take (0 - 1 + 1) ++ ts.drop (0 - 1 + 2)) 0 (joinT h k2 xs[0]! (ts.getD 1 (dflt h))) from rfl, km.2.1] at hpk
    have hpb : Pw (flat h (joinT h k2 xs[0]! (ts.getD 1 (dflt h)))) := (List.pairwise_append.1 (List.pairwise_append.1 hpk).1).2.1
    exact joined_zero xs ts k2 h0 (by omega) h1 ⟨by omega, kdn_le i1 (by omega)⟩ ⟨by omega, kdn_le hs.1 (by omega)⟩ (ok_of bj hpb (by omega)) (fun t ht => hok t (hsubm t ht)) (joinedT xs ts 0 k2) okR
      (fun W p c q d n m bv hN hB => wk_any (Nat.zero_le _) (by omega) hts hold3 bj (by omega) (by omega) hpk W p c q d n m bv hN hB) p c q d w hS L hQ hL kv hkv
  · obtain ⟨j, rfl⟩ : ∃ j, i = j + 1 := ⟨i - 1, by omega⟩
    have hmj := getD_mem (l := ts) (i := j) (by omega) (dflt h)
    have hs := hold _ hmj
    have bj := join_bal (xs[j]!) hs.1 i1
    have lj := join_len h (ts.getD j (dflt h)) xs[j]! k2
    have km := kid_math (k2 := joinT h (ts.getD j (dflt h)) xs[j]! k2) (i := j) (by rw [hxs]; omega) hts hold3 bj (by omega) (by omega)
    have hpk := hpj
    rw [show joinedT xs ts (j + 1) k2 = withKidT (xs.take (j + 1 - 1) ++ xs.drop (j + 1 - 1 + 1)) (ts.take (j + 1 - 1 + 1) ++ ts.drop (j + 1 - 1 + 2)) j (joinT h (ts.getD j (dflt h)) xs[j]! k2) from rfl, km.2.1] at hpk
    have hpb : Pw (flat h (joinT h (ts.getD j (dflt h)) xs[j]! k2)) := (List.pairwise_append.1 (List.pairwise_append.1 hpk).1).2.1
    have key := joined_succ xs ts k2 j (by omega) (by omega) h1 ⟨by omega, kdn_le hs.1 (by omega)⟩ ⟨by omega, kdn_le i1 (by omega)⟩ (ok_of bj hpb (by omega)) (fun t ht => hok t (hsubm t ht)) (joinedT xs ts (j + 1) k2) okR
      (fun W p c q d n m bv hN hB => wk_any (i := j) (by rw [hxs]; omega) (by omega) hts hold3 bj (by omega) (by omega) hpk W p c q d n m bv hN hB) p c q d w hS L hQ hL kv hkv
    rw [show ((j + 1 : Nat) : Int) = (j : Int) + 1 by omega]
    exact key
set_option maxRecDepth 100000 in
set_option maxHeartbeats 8000000 in
theorem withKid_few {h : Nat} (xs : List Im) (ts : List (Nd h)) (kid : Nd h) (i : Nat) (h3 : (its h kid).length < 3) (r : Nd (h + 1)) (okr : Ok (h + 1) r)
    (p : Option Addr) (c : Nat) (q : Option Addr) (d : Nat) (w : World) (kv : Value) (hkv : Lies w h kid kv)
    (hj : ∀ W, Below w.heap.size w W → Calls Try.prog 44 #[.agg #[.slice p xs.length c, .slice q ts.length d], .int .i64 (i : Int), kv] W fun e w' => ∃ v, e = .returned v ∧ Lies w' (h + 1) r v ∧ Below W.heap.size W w') :
    Calls Try.prog 36 #[.agg #[.slice p xs.length c, .slice q ts.length d], .int .i64 (i : Int), kv] w fun e w' => ∃ v, e = .returned v ∧ Lies w' (h + 1) r v ∧ Below w.heap.size w w' := by
  obtain ⟨kp, kc, kq, kd, KL, rfl, hkS, hkQ⟩ := hkv.form
  obtain ⟨w3, hw3⟩ : ∃ w3, ((w.alloc (.cells #[.slice p xs.length c, .slice q ts.length d] 59)).alloc (.cells #[.slice kp (its h kid).length kc, .slice kq (kdn h kid) kd] 59)).alloc (.cells #[.slice none 0 0, .slice none 0 0] 59) = w3 := ⟨_, rfl⟩
  have hb3 : Below w.heap.size w w3 := by rw [← hw3]; exact (((Below.refl _ w).alloc (Nat.le_refl _) _).alloc (by simp) _).alloc (by simp; omega) _
  have r0 : w3.heap[w.heap.size]? = some (.cells #[.slice p xs.length c, .slice q ts.length d] 59 (0, 0)) := by
    rw [← hw3, Below.heap_alloc _ _ _ (by simp; omega), Below.heap_alloc _ _ _ (by simp)]; exact heap_alloc_new _ _
  have r1 : w3.heap[w.heap.size + 1]? = some (.cells #[.slice kp (its h kid).length kc, .slice kq (kdn h kid) kd] 59 (0, 0)) := by
    rw [← hw3, Below.heap_alloc _ _ _ (by simp)]
    have := heap_alloc_new (w.alloc (.cells #[.slice p xs.length c, .slice q ts.length d] 59)) (.cells #[.slice kp (its h kid).length kc, .slice kq (kdn h kid) kd] 59)
    simpa using this
  have r2 : w3.heap[w.heap.size + 1 + 1]? = some (.cells #[.slice none 0 0, .slice none 0 0] 59 (0, 0)) := by
    rw [← hw3]
    have := heap_alloc_new ((w.alloc (.cells #[.slice p xs.length c, .slice q ts.length d] 59)).alloc (.cells #[.slice kp (its h kid).length kc, .slice kq (kdn h kid) kd] 59)) (.cells #[.slice none 0 0, .slice none 0 0] 59)
    simpa using this
  have a0 := cell_of_row w3 _ 0 _ _ _ r1
  have a1 := cell_of_row w3 _ 1 _ _ _ r1
  have b0 := cell_of_row w3 _ 0 _ _ _ r0
  have b1 := cell_of_row w3 _ 1 _ _ _ r0
  have h8' : ¬ (7 : Int) < ((its h kid).length : Int) := by omega
  have h3' : ((its h kid).length : Int) < 3 := by omega
  have hp := hj w3 hb3
  have HO : Hid (Ok (h + 1) r) := okr
  clear okr hkv hkS hkQ hj h3
  go_enter Try.func36, Try.ntmps36
  go_wp2_with fail
  refine hp.mono ?_
  rintro e w4 ⟨v, rfl, hv, hb4⟩
  obtain ⟨p5, c5, q5, d5, L5, rfl, -, -⟩ := hv.form
  have q2 := (hb4.block _ (lt_of_row r2)).trans r2
  have x0 := cell_of_row w4 _ 0 _ _ _ q2
  have x1 := cell_of_row w4 _ 1 _ _ _ q2
  have f0 := frozen_of_row w4 _ 0 _ _ q2
  have f1 := frozen_of_row w4 _ 1 _ _ q2
  have hB4 : Below w.heap.size w w4 := hb3.trans (hb4.mono hb3.size)
  clear hw3 a0 a1 b0 b1 r0 r1 r2 hp
  go_wp2
  refine bodyPost_ret (results_cell_row Try.results36 _ _ (w.heap.size + 1 + 1) 59 _ (0, 0) _ rfl (set2_row q2 _ _) Try.underlying59 rfl (by kernel_rfl)) rfl ⟨_, rfl, ?_, ?_⟩
  · exact hv.kept q2 (set2_size _ _ _ _) (set2_other _ _ _ _) HO.out
  · exact below_set2 hB4 (by omega) _ _
theorem kid2_any {h : Nat} {xs : List Im} {ts : List (Nd h)} {i : Nat} {k2 : Nd h} (hi : i ≤ xs.length) (h0 : 0 < xs.length) (hn : xs.length ≤ 49) (h1 : ts.length = xs.length + 1)
    (hold : ∀ k ∈ ts, Bal h k ∧ 3 ≤ (its h k).length ∧ (its h k).length ≤ 7) (hok : ∀ k ∈ ts, Ok h k ∧ 0 < (its h k).length) (i1 : Bal h k2) (i2 : 2 ≤ (its h k2).length) (i3 : (its h k2).length ≤ 7)
    (hpw : Pw (zipP (xs.take i) ((ts.take i).map (flat h)) ++ flat h k2 ++ zipS (xs.drop i) ((ts.drop (i + 1)).map (flat h)))) (w : World) (p : Option Addr) (n c : Nat) (q : Option Addr) (d : Nat) (L : List Value) (kv : Value)
    (hS : Sl w p n c (itC xs)) (hQ : Sl w q ts.length d L) (hL : LiesL w h ts L) (hkv : Lies w h k2 kv) :
    Calls Try.prog 36 #[.agg #[.slice p n c, .slice q ts.length d], .int .i64 (i : Int), kv] w fun e w' => ∃ v, e = .returned v ∧ Lies w' (h + 1) (withKid2T xs ts i k2) v ∧ Below w.heap.size w w' := by
  obtain rfl : n = xs.length := hS.it
  have hold2 : ∀ k, k ∈ ts.take i ∨ k ∈ ts.drop (i + 1) → Bal h k ∧ 3 ≤ (its h k).length ∧ (its h k).length ≤ 7 := fun k hk => hold k (by
    rcases hk with hk | hk
    · exact List.mem_of_mem_take hk
    · exact List.mem_of_mem_drop hk)
  unfold withKid2T
  split
  · rename_i h3
    have jm := joined_math hi h0 h1 hold2 i1 (by omega)
    have hpj := hpw
    rw [← jm.2.1] at hpj
    have okR : Ok (h + 1) (joinedT xs ts i k2) := ok_of jm.1 hpj (by have := jm.2.2.2; omega)
    exact withKid_few xs ts k2 i h3 _ okR p c q d w kv hkv (fun W hb => jo_any hi h0 hn h1 hold hok i1 (by omega) hpw W p c q d L kv (hS.later hb) (hQ.later hb) (hL.later hb) (hkv.later hb))
  · exact wk_any hi hn h1 hold2 i1 (by omega) (by omega) hpw w p c q d xs.length ts.length kv (Lies.make hS hQ hL) hkv
end Go.Proofs.Ytiplmlalhmldbaa
