/- The root over one that has a key too many (grown); Put of a tree of any depth. -/
import Derived.Test.YtiplmlalhmldbaaWan
import Derived.Test.YtiplmlalhmldbaaPut
namespace Go.Proofs.Ytiplmlalhmldbaa
open Go.RowKit Go.Shelf
set_option maxRecDepth 100000 in
set_option maxHeartbeats 8000000 in
theorem grown_big {h : Nat} (kid : Nd h) (h8 : 7 < (its h kid).length) (h50 : (its h kid).length ≤ 50) (r : Nd (h + 1)) (okr : Ok (h + 1) r)
    (hpr : ∀ W q d L kv, Sl W q 1 d L → LiesL W h [kid] L → Lies W h kid kv → Calls Try.prog 37 #[.agg #[.slice none 0 0, .slice q 1 d], .int .i64 0, kv] W fun e w' => ∃ v, e = .returned v ∧ Lies w' (h + 1) r v ∧ Below W.heap.size W w')
    (w : World) (kv : Value) (hkv : Lies w h kid kv) :
    Calls Try.prog 26 #[kv] w fun e w' => ∃ v, e = .returned v ∧ Lies w' (h + 1) r v ∧ Below w.heap.size w w' := by
  obtain ⟨kp, kc, kq, kd, KL, rfl, hkS, hkQ⟩ := hkv.form
  obtain ⟨w3, hw3⟩ : ∃ w3, (w.alloc (.cells #[.slice kp (its h kid).length kc, .slice kq (kdn h kid) kd] 59)).alloc (.cells #[.slice none 0 0, .slice none 0 0] 59) = w3 := ⟨_, rfl⟩
  have hb3 : Below w.heap.size w w3 := by rw [← hw3]; exact ((Below.refl _ w).alloc (Nat.le_refl _) _).alloc (by simp) _
  have r0 : w3.heap[w.heap.size]? = some (.cells #[.slice kp (its h kid).length kc, .slice kq (kdn h kid) kd] 59 (0, 0)) := by
    rw [← hw3, Below.heap_alloc _ _ _ (by simp)]; exact heap_alloc_new _ _
  have r2 : w3.heap[w.heap.size + 1]? = some (.cells #[.slice none 0 0, .slice none 0 0] 59 (0, 0)) := by
    rw [← hw3]
    have := heap_alloc_new (w.alloc (.cells #[.slice kp (its h kid).length kc, .slice kq (kdn h kid) kd] 59)) (.cells #[.slice none 0 0, .slice none 0 0] 59)
    simpa using this
  have a0 := cell_of_row w3 _ 0 _ _ _ r0
  have a1 := cell_of_row w3 _ 1 _ _ _ r0
  have r4 : (w3.alloc (.cells #[Value.slice kp (its h kid).length kc, Value.slice kq (kdn h kid) kd] 59)).heap[w.heap.size]? = some (.cells #[.slice kp (its h kid).length kc, .slice kq (kdn h kid) kd] 59 (0, 0)) := (Below.heap_alloc _ _ _ (lt_of_row r0)).trans r0
  have a2 := cell_of_row _ _ 0 _ _ _ r4
  have a3 := cell_of_row _ _ 1 _ _ _ r4
  have h8' : ¬ ((its h kid).length : Int) ≤ 7 := by omega
  have hpa : ∀ W, Below w3.heap.size w3 W → ∀ q d, Sl W q 1 d [Value.slice kp (its h kid).length kc, Value.slice kq (kdn h kid) kd] → Calls Try.prog 37 #[.agg #[.slice none 0 0, .slice q 1 d], .int .i64 0, .agg #[.slice kp (its h kid).length kc, .slice kq (kdn h kid) kd]] W fun e w' => ∃ v, e = .returned v ∧ Lies w' (h + 1) r v ∧ Below W.heap.size W w' := fun W hb q d hs => by
    have hk := (hkv.later hb3).later hb
    exact hpr W q d _ _ hs (LiesL.one hk) hk
  have HOR : Hid (Ok (h + 1) r) := okr
  clear hpr okr hkv hkS hkQ
  go_enter Try.func26, Try.ntmps26
  go_wp2_with fail
  refine (hpa _ ((Below.refl _ _).alloc (Nat.le_refl _) _) _ _ (Sl.one_node w3 59 _ _ rfl rfl)).mono ?_
  rintro e W ⟨v2, rfl, e9, hb2⟩
  have hbW : Below w3.heap.size w3 W := ((Below.refl w3.heap.size w3).alloc (Nat.le_refl _) _).trans (hb2.mono (by simp))
  obtain ⟨p9, c9, q9, d9, L9, rfl, -, -⟩ := e9.form
  have q2 := (hbW.block _ (lt_of_row r2)).trans r2
  have x0 := cell_of_row W _ 0 _ _ _ q2
  have x1 := cell_of_row W _ 1 _ _ _ q2
  have f0 := frozen_of_row W _ 0 _ _ q2
  have f1 := frozen_of_row W _ 1 _ _ q2
  have hBW : Below w.heap.size w W := hb3.trans (hbW.mono hb3.size)
  obtain ⟨n9, hn9⟩ : ∃ n, (its (h + 1) r).length = n := ⟨_, rfl⟩
  obtain ⟨m9, hm9⟩ : ∃ n, kdn (h + 1) r = n := ⟨_, rfl⟩
  rw [hn9, hm9] at e9 ⊢
  clear hn9 hm9 r0 r2 a0 a1 a2 a3 r4 hw3 hb2 hpa
  go_wp2
  refine bodyPost_ret (results_cell_row Try.results26 _ _ (w.heap.size + 1) 59 _ (0, 0) _ rfl (set2_row q2 _ _) Try.underlying59 rfl (by kernel_rfl)) rfl ⟨_, rfl, ?_, ?_⟩
  · exact e9.kept q2 (set2_size _ _ _ _) (set2_other _ _ _ _) HOR.out
  · exact below_set2 hBW (by omega) _ _
/- A root is as it must be. -/
structure Rt (h : Nat) (t : Nd h) : Prop where
  bal : Bal h t
  pw : Pw (flat h t)
  most : (its h t).length ≤ 7
  some : h = 0 ∨ 0 < (its h t).length
theorem Rt.ok {h : Nat} {t : Nd h} (H : Rt h t) : Ok h t := ok_of H.bal H.pw (by have := H.most; omega)
theorem put_any {h : Nat} {t : Nd h} (R : Rt h t) (x : Im) (b n : Nat) (hn : n ≤ 1000000) (w : World) (T : Tr w b h t n) :
    Calls Try.prog 14 #[.pointer (some ⟨b, 0, none⟩), .string x.1, .string x.2] w fun e w' => e = .returned (.bool (!(getT h t x.1).2)) ∧ (∃ h3 t3, Rt h3 t3 ∧ flat h3 t3 = insF (flat h t) x ∧ Tr w' b h3 t3 (if (getT h t x.1).2 then n else n + 1)) ∧ Onl b w w' := by
  have hm := R.most
  obtain ⟨m1, m2, m3, m4⟩ := with_math x R.bal R.pw
  have hp2 : Pw (flat h (withT h t x)) := by rw [m2]; exact insF_pw R.pw x
  have k27 := fun W v (hL : Lies W h t v) => with_any x R.bal R.pw (by omega) hL
  by_cases h7 : (its h (withT h t x)).length ≤ 7
  · have R3 : Rt h (withT h t x) := ⟨m1, hp2, h7, by
      rcases R.some with h0 | h0
      · exact .inl h0
      · exact .inr (by omega)⟩
    refine (put_of R.ok x b n hn w T k27 (fun W v hL => ?_) R3.ok R3.some).mono ?_
    · obtain ⟨p, c, q, d, L, rfl, -, -⟩ := hL.form
      refine (grown_small p _ c h7 q _ d W).mono ?_
      rintro e w2 ⟨rfl, hb2⟩
      exact ⟨_, rfl, hL.later hb2, hb2⟩
    · rintro e w2 ⟨he, hT, hO⟩
      exact ⟨he, ⟨h, _, R3, m2, hT⟩, hO⟩
  · have h8 : 7 < (its h (withT h t x)).length := by omega
    have po := piece_ok m1 hp2 (by omega) (m := (its h (withT h t x)).length / 2) (by omega)
    have pf := piece_flat m1 (m := (its h (withT h t x)).length / 2) (by omega)
    have b1 := piece_bal m1 (a := 0) (b := (its h (withT h t x)).length / 2) (by omega) (by omega)
    have b2 := piece_bal m1 (a := (its h (withT h t x)).length / 2 + 1) (b := (its h (withT h t x)).length) (by omega) (by omega)
    have l1 : (its h (pieceT h (withT h t x) 0 ((its h (withT h t x)).length / 2))).length = 4 := by rw [piece_its, List.length_take, List.length_drop]; omega
    have l2 : (its h (pieceT h (withT h t x) ((its h (withT h t x)).length / 2 + 1) (its h (withT h t x)).length)).length = 3 := by rw [piece_its, List.length_take, List.length_drop]; omega
    have hfl : flat (h + 1) (partedT [] [withT h t x] 0 (withT h t x)) = insF (flat h t) x := by
      rw [← m2, ← pf]
      show zipF [_] [flat h _, flat h _] = _
      simp [zipF, zipS]
    have R3 : Rt (h + 1) (partedT [] [withT h t x] 0 (withT h t x)) := by
      refine ⟨⟨rfl, ?_⟩, ?_, ?_, .inr ?_⟩
      · intro k hk
        have hk : k = pieceT h (withT h t x) 0 ((its h (withT h t x)).length / 2) ∨ k = pieceT h (withT h t x) ((its h (withT h t x)).length / 2 + 1) (its h (withT h t x)).length := by simpa [partedT] using hk
        rcases hk with rfl | rfl
        · exact ⟨b1, by omega, by omega⟩
        · exact ⟨b2, by omega, by omega⟩
      · rw [hfl]
        exact insF_pw R.pw x
      · show 1 ≤ 7
        omega
      · show 0 < 1
        omega
    refine (put_of R.ok x b n hn w T k27 (fun W v hL => grown_big _ h8 (by omega) _ R3.ok (fun W q d L kv hs hl hk => ?_) W v hL) R3.ok R3.some).mono ?_
    · have hok : ∀ k ∈ ([withT h t x].take 0 ++ [pieceT h (withT h t x) 0 ((its h (withT h t x)).length / 2), pieceT h (withT h t x) ((its h (withT h t x)).length / 2 + 1) (its h (withT h t x)).length] ++ [withT h t x].drop (0 + 1)), Ok h k ∧ 0 < (its h k).length := by
        intro k hk
        have hk : k = pieceT h (withT h t x) 0 ((its h (withT h t x)).length / 2) ∨ k = pieceT h (withT h t x) ((its h (withT h t x)).length / 2 + 1) (its h (withT h t x)).length := by simpa using hk
        rcases hk with rfl | rfl
        · exact ⟨po.1, by omega⟩
        · exact ⟨po.2, by omega⟩
      exact parted_any [] [withT h t x] (withT h t x) 0 (by simp) (by simp) rfl (by omega) (by omega) m1.shp po.1 po.2 hok none 0 q d W (Sl.nil W) L hs hl kv hk
    · rintro e w2 ⟨he, hT, hO⟩
      exact ⟨he, ⟨h + 1, _, R3, hfl, hT⟩, hO⟩
end Go.Proofs.Ytiplmlalhmldbaa
