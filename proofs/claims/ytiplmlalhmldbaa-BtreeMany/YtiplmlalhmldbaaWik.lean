/- A node with another kid in a place, whose keys are not too few (withKid). -/
import Derived.Test.YtiplmlalhmldbaaPar
namespace Go.Proofs.Ytiplmlalhmldbaa
open Go.RowKit Go.Shelf
theorem node_end {w : World} {X : Nat} {T : TypeId} {fr : Nat × Nat} (hX : w.heap[X]? = some (.cells zrow T fr)) {h : Nat} {ys : List Im} {us : List (Nd h)} {p q : Option Addr} {n c m d : Nat} {LK : List Value} (hS : Sl w p n c (itC ys)) (hK : Sl w q m d LK) (hL : LiesL w h us LK) (hok : ∀ t ∈ us, Ok h t ∧ 0 < (its h t).length) (a b : Value) :
    Lies ((w.setCell ⟨X, 0, none⟩ a).setCell ⟨X, 1, none⟩ b) (h + 1) ((ys, us) : List Im × List (Nd h)) (.agg #[.slice p n c, .slice q m d]) :=
  Lies.make (hS.kept hX (set2_size _ _ _ _) (set2_other _ _ _ _) (fun u hu hm => by
    obtain ⟨st, rfl⟩ := itC_head hu
    simp [zrow] at hm)) (hK.kept hX (set2_size _ _ _ _) (set2_other _ _ _ _) (hL.head hok)) (hL.kept hX (set2_size _ _ _ _) (set2_other _ _ _ _) (fun t ht => (hok t ht).1))
theorem Sl.one_node (w : World) (T : TypeId) (a b : Value) (ha : a.oneCell' = true) (hb : b.oneCell' = true) : Sl (w.alloc (.cells #[a, b] T)) (some ⟨w.heap.size, 0, none⟩) 1 1 [a, b] := by
  refine ⟨⟨Nat.le_refl _, by decide⟩, rfl, fun u hu => ?_, fun _ => ⟨w.heap.size, 0, rfl, by simp, fun j u hu => ?_⟩⟩
  · simp only [List.mem_cons, List.not_mem_nil, or_false] at hu
    rcases hu with rfl | rfl <;> assumption
  · rw [cell_of_row _ _ _ _ _ _ (heap_alloc_new w _), Nat.zero_add]
    simpa using hu
def mkN {h : Nat} (xs : List Im) (ts : List (Nd h)) : Nd (h + 1) := ((xs, ts) : List Im × List (Nd h))
def withKidT {h : Nat} (xs : List Im) (ts : List (Nd h)) (i : Nat) (kid : Nd h) : Nd (h + 1) := if 7 < (its h kid).length then partedT xs ts i kid else mkN xs (ts.take i ++ [kid] ++ ts.drop (i + 1))
def NkV (p : Option Addr) (n c m : Nat) (K : List Value) (v : Value) (W : World) : Prop := ∃ q d, v = .agg #[.slice p n c, .slice q m d] ∧ Sl W q m d K
theorem NkV.later {p : Option Addr} {n c m : Nat} {K : List Value} : ∀ v W W', NkV p n c m K v W → Below W.heap.size W W' → NkV p n c m K v W' := fun _ _ _ ⟨q, d, h1, h3⟩ hb => ⟨q, d, h1, h3.later hb⟩
set_option maxRecDepth 100000 in
set_option maxHeartbeats 8000000 in
theorem withKid_any {h : Nat} (xs : List Im) (ts : List (Nd h)) (kid : Nd h) (i : Nat) (hi : i ≤ xs.length) (hn : xs.length ≤ 50) (hts : ts.length = xs.length + 1) (hK3 : 3 ≤ (its h kid).length) (hK50 : (its h kid).length ≤ 50) (hshp : Shp h kid)
    (h7 : 7 < (its h kid).length → Ok h (pieceT h kid 0 ((its h kid).length / 2)) ∧ Ok h (pieceT h kid ((its h kid).length / 2 + 1) (its h kid).length) ∧ (∀ t ∈ ts.take i ++ [pieceT h kid 0 ((its h kid).length / 2), pieceT h kid ((its h kid).length / 2 + 1) (its h kid).length] ++ ts.drop (i + 1), Ok h t ∧ 0 < (its h t).length) ∧ Ok (h + 1) (partedT xs ts i kid))
    (h6 : ¬ 7 < (its h kid).length → ∀ t ∈ ts.take i ++ [kid] ++ ts.drop (i + 1), Ok h t ∧ 0 < (its h t).length)
    (p : Option Addr) (c : Nat) (q : Option Addr) (d : Nat) (w : World) (hS : Sl w p xs.length c (itC xs)) (L : List Value) (hQ : Sl w q ts.length d L) (hL : LiesL w h ts L) (kv : Value) (hkv : Lies w h kid kv) :
    Calls Try.prog 36 #[.agg #[.slice p xs.length c, .slice q ts.length d], .int .i64 (i : Int), kv] w fun e w' => ∃ v, e = .returned v ∧ Lies w' (h + 1) (withKidT xs ts i kid) v ∧ Below w.heap.size w w' := by
  obtain ⟨kp, kc, kq, kd, KL, rfl, hkS, hkQ⟩ := hkv.form
  obtain ⟨w3, hw3⟩ : ∃ w3, ((w.alloc (.cells #[.slice p xs.length c, .slice q ts.length d] 59)).alloc (.cells #[.slice kp (its h kid).length kc, .slice kq (kdn h kid) kd] 59)).alloc (.cells #[.slice none 0 0, .slice none 0 0] 59) = w3 := ⟨_, rfl⟩
  have hb3 : Below w.heap.size w w3 := by rw [← hw3]; exact (((Below.refl _ w).alloc (Nat.le_refl _) _).alloc (by simp) _).alloc (by simp; omega) _
  have r0 : w3.heap[w.heap.size]? = some (.cells #[.slice p xs.length c, .slice q ts.length d] 59 (0, 0)) := by
    rw [← hw3, Below.heap_alloc _ _ _ (by simp; omega), Below.heap_alloc _ _ _ (by simp)]; exact heap_alloc_new _ _
  have r1 : w3.heap[w.heap.size + 1]? = some (.cells #[.slice kp (its h kid).length kc, .slice kq (kdn h kid) kd] 59 (0, 0)) := by
    rw [← hw3, Below.heap_alloc _ _ _ (by simp)]
    have := heap_alloc_new (w.alloc (.cells #[.slice p xs.length c, .slice q ts.length d] 59)) (.cells #[.slice kp (its h kid).length kc, .slice kq (kdn h kid) kd] 59)
    simpa using this
  have r2 : w3.heap[w.heap.size + 1 + 1]? = some (.cells #[.slice none 0 0, .slice none 0 0] 59 (0, 0)) := by
    rw [← hw3]
    have := heap_alloc_new ((w.alloc (.cells #[.slice p xs.length c, .slice q ts.length d] 59)).alloc (.cells #[.slice kp (its h kid).length kc, .slice kq (kdn h kid) kd] 59)) (.cells #[.slice none 0 0, .slice none 0 0] 59)
    simpa using this
  have a0 := cell_of_row w3 _ 0 _ _ _ r1
  have a1 := cell_of_row w3 _ 1 _ _ _ r1
  have b0 := cell_of_row w3 _ 0 _ _ _ r0
  have b1 := cell_of_row w3 _ 1 _ _ _ r0
  have HTS : Hid (ts.length = xs.length + 1) := hts
  by_cases h8 : 7 < (its h kid).length
  · have h8' : (7 : Int) < ((its h kid).length : Int) := by omega
    obtain ⟨ok1, ok2, ok3, ok4⟩ := h7 h8
    have hp := parted_any xs ts kid i hi hn hts (by omega) hK50 hshp ok1 ok2 ok3 p c q d w3 (hS.later hb3) L (hQ.later hb3) (hL.later hb3) _ (hkv.later hb3)
    have hT : withKidT xs ts i kid = partedT xs ts i kid := if_pos h8
    rw [hT]
    have HO : Hid (Ok (h + 1) (partedT xs ts i kid)) := ok4
    clear ok1 ok2 ok3 ok4 h7 h6 hT hts hkv hkS hkQ hS hQ hL
    go_enter Try.func36, Try.ntmps36
    go_wp2_with fail
    refine hp.mono ?_
    rintro e w4 ⟨v, rfl, hv, hb4⟩
    obtain ⟨p5, c5, q5, d5, L5, rfl, -, -⟩ := hv.form
    have q2 := (hb4.block _ (lt_of_row r2)).trans r2
    have x0 := cell_of_row w4 _ 0 _ _ _ q2
    have x1 := cell_of_row w4 _ 1 _ _ _ q2
    have f0 := frozen_of_row w4 _ 0 _ _ q2
    have f1 := frozen_of_row w4 _ 1 _ _ q2
    have hB4 : Below w.heap.size w w4 := hb3.trans (hb4.mono hb3.size)
    clear hw3 a0 a1 b0 b1 r0 r1 r2 hp
    go_wp2
    refine bodyPost_ret (results_cell_row Try.results36 _ _ (w.heap.size + 1 + 1) 59 _ (0, 0) _ rfl (set2_row q2 _ _) Try.underlying59 rfl (by kernel_rfl)) rfl ⟨_, rfl, ?_, ?_⟩
    · exact hv.kept q2 (set2_size _ _ _ _) (set2_other _ _ _ _) HO.out
    · exact below_set2 hB4 (by omega) _ _
  · have h8' : ¬ (7 : Int) < ((its h kid).length : Int) := by omega
    have h3' : ¬ ((its h kid).length : Int) < 3 := by omega
    have hT : withKidT xs ts i kid = mkN xs (ts.take i ++ [kid] ++ ts.drop (i + 1)) := if_neg h8
    rw [hT]
    have HO : Hid (∀ t ∈ ts.take i ++ [kid] ++ ts.drop (i + 1), Ok h t ∧ 0 < (its h t).length) := h6 h8
    have hr9 : ∀ W, Below w3.heap.size w3 W → ∀ p8 c8, Sl W p8 1 c8 [Value.slice kp (its h kid).length kc, Value.slice kq (kdn h kid) kd] → Calls Try.prog 45 #[.slice q ts.length d, .int .i64 (i : Int), .int .i64 ((i : Int) + 1), .slice p8 1 c8] W fun e w' => ∃ p' c', e = .returned (.slice p' (i + 1 + (ts.length - (i + 1))) c') ∧ Sl w' p' (i + 1 + (ts.length - (i + 1))) c' (L.take (i * 2) ++ [Value.slice kp (its h kid).length kc, Value.slice kq (kdn h kid) kd] ++ L.drop ((i + 1) * 2)) ∧ Below W.heap.size W w' := fun W hb p8 c8 h8 => repl59 L q ts.length d [Value.slice kp (its h kid).length kc, Value.slice kq (kdn h kid) kd] p8 1 c8 i (i + 1) (by omega) (by have := HTS.out; omega) (by have := HTS.out; omega) (by omega) W ((hQ.later hb3).later hb) h8
    clear h7 h6 hT hts
    go_enter Try.func36, Try.ntmps36
    go_wp2
    clear hw3 a0 a1 b0 b1
    refine any_tail (by kernel_rfl) 11 (by exact Nat.le_of_ble_eq_true rfl) (fun i => i + 23) (mixR [(8, SlV 1 [Value.slice kp (its h kid).length kc, Value.slice kq (kdn h kid) kd]), (9, SlV (i + 1 + (ts.length - (i + 1))) (L.take (i * 2) ++ [Value.slice kp (its h kid).length kc, Value.slice kq (kdn h kid) kd] ++ L.drop ((i + 1) * 2))), (10, NkV p xs.length c (i + 1 + (ts.length - (i + 1))) (L.take (i * 2) ++ [Value.slice kp (its h kid).length kc, Value.slice kq (kdn h kid) kd] ++ L.drop ((i + 1) * 2)))] [.pointer (some ⟨w.heap.size, 0, none⟩), .slice p xs.length c, .pointer (some ⟨w.heap.size, 1, none⟩), .slice q ts.length d, .int .i64 (i : Int), .int .i64 (i : Int), .int .i64 ((i : Int) + 1), .agg #[.slice kp (its h kid).length kc, .slice kq (kdn h kid) kd], undef, undef, undef]) (by kernel_rfl) (by kernel_rfl) (by kernel_rfl) (by kernel_rfl) (mixR_later _ _ (stab_cons SlV.later (stab_cons SlV.later (stab_cons NkV.later stab_nil)))) ?step ?post
    case step =>
      intro iq hiq a W hrest hb hk
      have hp3 : a.eval (.tmp 3) = .pointer (some ⟨w.heap.size, 0, none⟩) := (hrest 3 (by intro iq2 hiq2; (repeat' split) <;> omega)).trans rfl
      have fp3 := ev hp3
      have hx3 : W.heap[w.heap.size]? = some (.cells #[.slice p xs.length c, .slice q ts.length d] 59 (0, 0)) := (hb.block _ (lt_of_row r0)).trans r0
      have hp5 : a.eval (.tmp 5) = .pointer (some ⟨w.heap.size + 1, 0, none⟩) := (hrest 5 (by intro iq2 hiq2; (repeat' split) <;> omega)).trans rfl
      have fp5 := ev hp5
      have hx5 : W.heap[w.heap.size + 1]? = some (.cells #[.slice kp (its h kid).length kc, .slice kq (kdn h kid) kd] 59 (0, 0)) := (hb.block _ (lt_of_row r1)).trans r1
      have hp1 : a.eval (.tmp 1) = .int .i64 (i : Int) := (hrest 1 (by intro iq2 hiq2; (repeat' split) <;> omega)).trans rfl
      have fp1 := ev hp1
      clear hrest
      obtain rfl | rfl | rfl | rfl | rfl | rfl | rfl | rfl | rfl | rfl | rfl : iq = 0 ∨ iq = 1 ∨ iq = 2 ∨ iq = 3 ∨ iq = 4 ∨ iq = 5 ∨ iq = 6 ∨ iq = 7 ∨ iq = 8 ∨ iq = 9 ∨ iq = 10 := by omega
      · clear hiq
        clear hk
        refine ⟨_, rfl, rfl, rfl, wp_value (v := .pointer (some ⟨w.heap.size, 0, none⟩)) (w' := W) ?_ ⟨_, rfl, Below.refl _ _, rfl⟩⟩
        go_simp
      · clear hiq
        have e0 : a.eval (.tmp 23) = .pointer (some ⟨w.heap.size, 0, none⟩) := hk 0 (mem_of (by kernel_rfl))
        have f0 := ev e0
        have hc : W.cell? ⟨w.heap.size, 0, none⟩ = some (.slice p xs.length c) := cell_of_row W _ 0 _ _ _ hx3
        clear hk
        refine ⟨_, rfl, rfl, rfl, wp_value (v := .slice p xs.length c) (w' := W) ?_ ⟨_, rfl, Below.refl _ _, rfl⟩⟩
        go_simp
      · clear hiq
        clear hk
        refine ⟨_, rfl, rfl, rfl, wp_value (v := .pointer (some ⟨w.heap.size, 1, none⟩)) (w' := W) ?_ ⟨_, rfl, Below.refl _ _, rfl⟩⟩
        go_simp
      · clear hiq
        have e2 : a.eval (.tmp 25) = .pointer (some ⟨w.heap.size, 1, none⟩) := hk 2 (mem_of (by kernel_rfl))
        have f2 := ev e2
        have hc : W.cell? ⟨w.heap.size, 1, none⟩ = some (.slice q ts.length d) := cell_of_row W _ 1 _ _ _ hx3
        clear hk
        refine ⟨_, rfl, rfl, rfl, wp_value (v := .slice q ts.length d) (w' := W) ?_ ⟨_, rfl, Below.refl _ _, rfl⟩⟩
        go_simp
      · clear hiq
        clear hk
        refine ⟨_, rfl, rfl, rfl, wp_value (v := .int .i64 (i : Int)) (w' := W) ?_ ⟨_, rfl, Below.refl _ _, rfl⟩⟩
        go_simp
      · clear hiq
        clear hk
        refine ⟨_, rfl, rfl, rfl, wp_value (v := .int .i64 (i : Int)) (w' := W) ?_ ⟨_, rfl, Below.refl _ _, rfl⟩⟩
        go_simp
      · clear hiq
        have e5 : a.eval (.tmp 28) = .int .i64 (i : Int) := hk 5 (mem_of (by kernel_rfl))
        have f5 := ev e5
        clear hk
        refine ⟨_, rfl, rfl, rfl, wp_value (v := .int .i64 ((i : Int) + 1)) (w' := W) ?_ ⟨_, rfl, Below.refl _ _, rfl⟩⟩
        go_simp
        rw [IntKind.wrap_i64]; omega
      · clear hiq
        clear hk
        refine ⟨_, rfl, rfl, rfl, wp_load_row 59 (.tmp 5) rfl (w.heap.size + 1) hp5 59 #[.slice kp (its h kid).length kc, .slice kq (kdn h kid) kd] (0, 0) _ hx5 Try.underlying59 rfl (by kernel_rfl) ?_⟩
        exact ⟨_, rfl, Below.refl _ _, rfl⟩
      · clear hiq
        have e7 : a.eval (.tmp 30) = .agg #[.slice kp (its h kid).length kc, .slice kq (kdn h kid) kd] := hk 7 (mem_of (by kernel_rfl))
        have f7 := ev e7
        clear hk
        refine ⟨_, rfl, rfl, rfl, wp_value (v := .slice (some ⟨W.heap.size, 0, none⟩) 1 1) (w' := W.alloc (.cells #[Value.slice kp (its h kid).length kc, Value.slice kq (kdn h kid) kd] 59)) ?_ ⟨_, rfl, (Below.refl _ _).alloc (Nat.le_refl _) _, ⟨_, _, rfl, Sl.one_node W 59 _ _ rfl rfl⟩⟩⟩
        go_simp
      · clear hiq
        have e3 : a.eval (.tmp 26) = .slice q ts.length d := hk 3 (mem_of (by kernel_rfl))
        have f3 := ev e3
        have e4 : a.eval (.tmp 27) = .int .i64 (i : Int) := hk 4 (mem_of (by kernel_rfl))
        have f4 := ev e4
        have e6 : a.eval (.tmp 29) = .int .i64 ((i : Int) + 1) := hk 6 (mem_of (by kernel_rfl))
        have f6 := ev e6
        obtain ⟨p8, c8, e8, s8x⟩ := show SlV 1 [Value.slice kp (its h kid).length kc, Value.slice kq (kdn h kid) kd] (a.eval (.tmp 31)) W from hk 8 (mem_of (by kernel_rfl))
        have f8 := ev e8
        clear hk
        refine ⟨_, rfl, rfl, rfl, wp_enter (f := 45) (args := #[.slice q ts.length d, .int .i64 (i : Int), .int .i64 ((i : Int) + 1), .slice p8 1 c8]) ?_ ((hr9 W hb p8 c8 s8x).mono ?_)⟩
        · go_simp
        · rintro e w2 ⟨p2x, c2x, rfl, hs2, hb2⟩
          exact ⟨_, rfl, _, rfl, hb2, ⟨_, _, rfl, hs2⟩⟩
      · clear hiq
        have e1 : a.eval (.tmp 24) = .slice p xs.length c := hk 1 (mem_of (by kernel_rfl))
        have f1 := ev e1
        obtain ⟨p9, c9, e9, s9x⟩ := show SlV (i + 1 + (ts.length - (i + 1))) (L.take (i * 2) ++ [Value.slice kp (its h kid).length kc, Value.slice kq (kdn h kid) kd] ++ L.drop ((i + 1) * 2)) (a.eval (.tmp 32)) W from hk 9 (mem_of (by kernel_rfl))
        have f9 := ev e9
        clear hk
        refine ⟨_, rfl, rfl, rfl, wp_value (v := .agg #[.slice p xs.length c, .slice p9 (i + 1 + (ts.length - (i + 1))) c9]) (w' := W) ?_ ⟨_, rfl, Below.refl _ _, ⟨_, _, rfl, s9x⟩⟩⟩
        go_simp
    case post =>
      intro V W hbW hV
      obtain ⟨q', d', ev, hs2⟩ : NkV p xs.length c (i + 1 + (ts.length - (i + 1))) (L.take (i * 2) ++ [Value.slice kp (its h kid).length kc, Value.slice kq (kdn h kid) kd] ++ L.drop ((i + 1) * 2)) (V 10) W := hV 10 (by omega)
      clear hV hr9
      simp only [putAll, Nat.reduceAdd]
      rw [ev]
      simp only [Act.put, List.setIfInBounds_toArray, List.set_cons_zero, List.set_cons_succ]
      have q2 := (hbW.block _ (lt_of_row r2)).trans r2
      have x0 := cell_of_row W _ 0 _ _ _ q2
      have x1 := cell_of_row W _ 1 _ _ _ q2
      have f0 := frozen_of_row W _ 0 _ _ q2
      have f1 := frozen_of_row W _ 1 _ _ q2
      have hBW : Below w.heap.size w W := hb3.trans (hbW.mono hb3.size)
      have HKL : Hid (LiesL W h (ts.take i ++ [kid] ++ ts.drop (i + 1)) (L.take (i * 2) ++ [Value.slice kp (its h kid).length kc, Value.slice kq (kdn h kid) kd] ++ L.drop ((i + 1) * 2))) := (((hL.take i).app (LiesL.one hkv)).app (hL.drop (i + 1))).later hBW
      have hsW := hS.later hBW
      obtain ⟨LK, hLK⟩ : ∃ LK, (L.take (i * 2) ++ [Value.slice kp (its h kid).length kc, Value.slice kq (kdn h kid) kd] ++ L.drop ((i + 1) * 2)) = LK := ⟨_, rfl⟩
      rw [hLK] at hs2 HKL
      obtain ⟨n2, hn2⟩ : ∃ n2, (i + 1 + (ts.length - (i + 1))) = n2 := ⟨_, rfl⟩
      rw [hn2] at hs2 ⊢
      clear hLK hn2 ev r0 r1 r2 hS hkS hkQ hQ
      go_wp2
      refine bodyPost_ret (results_cell_row Try.results36 _ _ (w.heap.size + 1 + 1) 59 _ (0, 0) _ rfl (set2_row q2 _ _) Try.underlying59 rfl (by kernel_rfl)) rfl ⟨_, rfl, ?_, ?_⟩
      · exact node_end q2 hsW hs2 HKL.out HO.out _ _
      · exact below_set2 hBW (by omega) _ _
end Go.Proofs.Ytiplmlalhmldbaa
