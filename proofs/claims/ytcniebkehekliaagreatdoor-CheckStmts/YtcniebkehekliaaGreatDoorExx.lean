/- An expression of any strength (expression); a name, a sign and an expression (named, part, assignment). Names of fields, and their expressions (apart). Lists and structs (list, structure). Structs (structure). The strongest expressions (strongest). -/
import Derived.Test.YtcniebkehekliaaGreatDoorCmx
namespace Go.Proofs.YtcniebkehekliaaGreatDoor
open Go.RowKit Go.Shelf
attribute [local go_sem] Oper.semAt_some fw0 fw1 fw2
def zero11 : Array Value := #[.string ⟨#[]⟩, .int .i64 0, .string ⟨#[]⟩, .int .i64 0, .bool false, .int .i64 0, .string ⟨#[]⟩, .slice none 0 0, .slice none 0 0, .slice none 0 0, .slice none 0 0]
theorem i98 {V : Array Value} (h : V.size = 11) : (Tryz.prog.info? 124).map (·.size) = some V.size := info98.trans (congrArg some h.symm)
set_option maxRecDepth 100000 in
set_option maxHeartbeats 8000000 in
theorem expression_any {w : World} {b : Nat} {p : Option Addr} {c : Nat} {ws : List Wd} {s : PS} (H : Ps w b p c ws s) (X : Et × PS)
    (kb : ∀ W, Ps W b p c ws s → Calls Tryz.prog 111 #[.pointer (some ⟨b, 0, none⟩), .int .i64 0] W (Gives ws (fun k => W.heap.size ≤ k) W b p c X)) :
    Calls Tryz.prog 81 #[.pointer (some ⟨b, 0, none⟩)] w (Gives ws (fun k => w.heap.size ≤ k) w b p c X) := by
  have hold := H.old
  have lb := lt_of_row H.row
  obtain ⟨w1, hw1⟩ : ∃ w1, w.alloc (.cells #[.int .i64 0, .string ⟨#[]⟩, .int .i64 0, .bool false, .int .i64 0, .string ⟨#[]⟩, .slice none 0 0, .slice none 0 0, .slice none 0 0, .slice none 0 0] 28) = w1 := ⟨_, rfl⟩
  have hb1 : Below w.heap.size w w1 := by rw [← hw1]; exact (Below.refl _ w).alloc (Nat.le_refl _) _
  have hs1 : w1.heap.size = w.heap.size + 1 := by rw [← hw1]; simp
  have rz1 : w1.heap[w.heap.size]? = some (.cells zero10 28 (0, 0)) := by rw [← hw1]; exact heap_alloc_new _ _
  have k1 := kb w1 (H.later hb1)
  have HB : Hid (Below w.heap.size w w1) := hb1
  clear H hb1 kb
  go_enter Tryz.func81, Tryz.ntmps81
  go_wp2_with fail
  refine k1.mono ?_
  rintro q w6 ⟨d6, v6, rfl, hL6, hP6, hO6⟩
  have s6 := hO6.size
  have rz6 := (hO6.block _ (by omega) (by omega)).trans rz1
  obtain ⟨V, rfl, h10, hon⟩ := hL6.agg
  have H6 : Hid (LiesE w6 (fun k => w1.heap.size ≤ k) d6 X.1 (.agg V) ∧ Ps w6 b p c ws X.2 ∧ Onl b w1 w6 ∧ w6.heap[w.heap.size]? = some (.cells zero10 28 (0, 0)) ∧ V.size = 10 ∧ V.all (·.oneCell') = true) := ⟨hL6, hP6, hO6, rz6, h10, hon⟩
  clear k1 hL6 hP6 hO6 rz6 rz1 hw1 h10 hon
  go_wp2_with (refine wpList_put rfl 28 (.tmp 2) (.tmp 4) rfl rfl rfl rfl H6.out.2.2.2.1 H6.out.2.2.2.2.1 (i28 H6.out.2.2.2.2.1) H6.out.2.2.2.2.2 ?_)
  obtain ⟨hL6, hP6, hO6, rz6, h10, hon⟩ := H6.out
  refine bodyPost_ret (results_cell_row Tryz.results81 _ _ w.heap.size 28 _ (0, 0) _ rfl (put_row V rz6 h10) Tryz.underlying28 rfl (i28 h10)) rfl ⟨d6, .agg V, rfl, ?_, hP6.put lb hold V, ?_⟩
  · exact (hL6.since (Since.put (by omega) w6 _)).imp fun k hk _ => by omega
  · exact ((Onl.of HB.out).trans hO6).put _ (Nat.le_refl _) _
/- What a function of a name and its expression answers. -/
def GivesF (ws : List Wd) (w : World) (b : Nat) (p : Option Addr) (c : Nat) (x : (ByteArray × Et) × PS) (r : Ending) (w' : World) : Prop :=
  ∃ v d, r = .returned v ∧ v = .agg d.toArray ∧ EFld w' (fun k => w.heap.size ≤ k) x.1 d ∧ Ps w' b p c ws x.2 ∧ Onl b w w'
set_option maxRecDepth 100000 in
set_option maxHeartbeats 8000000 in
theorem named_any {w : World} {b : Nat} {p : Option Addr} {c : Nat} {ws : List Wd} {s : PS} (H : Ps w b p c ws s) (hz : Wz ws) (l : List UInt8) (F : PS → Et × PS)
    (kb : ∀ W, Ps W b p c ws (mustQ ws (nameP ws s) 6 l) → Calls Tryz.prog 81 #[.pointer (some ⟨b, 0, none⟩)] W (Gives ws (fun k => W.heap.size ≤ k) W b p c (F (mustQ ws (nameP ws s) 6 l)))) :
    Calls Tryz.prog 113 #[.pointer (some ⟨b, 0, none⟩), .string ⟨l.toArray⟩] w (GivesF ws w b p c (namedF ws F l s)) := by
  have hold := H.old
  have lb := lt_of_row H.row
  obtain ⟨w1, hw1⟩ : ∃ w1, w.alloc (.cells #[.string ⟨#[]⟩, .int .i64 0, .string ⟨#[]⟩, .int .i64 0, .bool false, .int .i64 0, .string ⟨#[]⟩, .slice none 0 0, .slice none 0 0, .slice none 0 0, .slice none 0 0] 124) = w1 := ⟨_, rfl⟩
  have hb1 : Below w.heap.size w w1 := by rw [← hw1]; exact (Below.refl _ w).alloc (Nat.le_refl _) _
  have hs1 : w1.heap.size = w.heap.size + 1 := by rw [← hw1]; simp
  have rz1 : w1.heap[w.heap.size]? = some (.cells zero11 124 (0, 0)) := by rw [← hw1]; exact heap_alloc_new _ _
  unfold namedF
  have k1 := pname_any (H.later hb1) hz
  obtain ⟨X, hX⟩ : ∃ X, F (mustQ ws (nameP ws s) 6 l) = X := ⟨_, rfl⟩
  rw [hX] at kb ⊢
  obtain ⟨x, hx⟩ : ∃ x, nameS ws s = x := ⟨_, rfl⟩
  rw [hx] at k1 ⊢
  have HB : Hid (Below w.heap.size w w1) := hb1
  have HM : Hid (mustP ws (nameP ws s) 6 ⟨l.toArray⟩ = mustQ ws (nameP ws s) 6 l) := mustP_mustQ _ _ _ _
  obtain ⟨bt, hbt⟩ : ∃ bt : ByteArray, ⟨l.toArray⟩ = bt := ⟨_, rfl⟩
  rw [hbt] at HM ⊢
  clear H hb1 hX hx hbt
  go_enter Tryz.func113, Tryz.ntmps113
  go_wp2_with fail
  refine k1.mono ?_
  rintro q w2 ⟨rfl, hP2, hO2⟩
  have s2 := hO2.size
  have rz2 := (hO2.block _ (by omega) (by omega)).trans rz1
  have k2 := psign_any hP2 hz bt
  rw [HM.out] at k2
  have HO2 : Hid (Onl b w1 w2) := hO2
  clear k1 hP2 hO2 rz1 hw1
  go_wp2_with fail
  refine k2.mono ?_
  rintro q w3 ⟨rfl, hP3, hO3⟩
  have s3 := hO3.size
  have rz3 := (hO3.block _ (by omega) (by omega)).trans rz2
  have k3 := kb w3 hP3
  have HO3 : Hid (Onl b w2 w3) := hO3
  clear k2 hP3 hO3 rz2 kb
  go_wp2_with fail
  refine k3.mono ?_
  rintro q w6 ⟨d6, v6, rfl, hL6, hP6, hO6⟩
  have s6 := hO6.size
  have rz6 := (hO6.block _ (by omega) (by omega)).trans rz3
  obtain ⟨R, rfl⟩ := hL6.row
  have H6 : Hid (LiesE w6 (fun k => w3.heap.size ≤ k) d6 X.1 (rowX R) ∧ Ps w6 b p c ws X.2 ∧ Onl b w3 w6 ∧ w6.heap[w.heap.size]? = some (.cells zero11 124 (0, 0))) := ⟨hL6, hP6, hO6, rz6⟩
  clear k3 hL6 hP6 hO6 rz6 rz3 HM
  unfold rowX
  go_wp2_with (refine wpList_put rfl 124 (.tmp 4) (.tmp 14) rfl rfl rfl rfl H6.out.2.2.2 rfl info98 (by simp [Value.oneCell']) ?_)
  obtain ⟨hL6, hP6, hO6, rz6⟩ := H6.out
  refine bodyPost_ret (results_cell_row Tryz.results113 _ _ w.heap.size 124 _ (0, 0) _ rfl (put_row _ rz6 rfl) Tryz.underlying124 rfl info98) rfl ⟨_, [.string x, .int .i64 R.k, .string R.s, .int .i64 R.vk, .bool R.vb, .int .i64 R.vn, .string R.vs, .slice none 0 0, .slice none 0 0, .slice R.kp R.n R.kc, .slice R.np R.m R.nc], rfl, rfl, ?_, hP6.put lb hold _, ?_⟩
  · exact ⟨_, rfl, d6, (hL6.since (Since.put (by omega) w6 _)).imp fun k hk _ => by omega⟩
  · exact ((((Onl.of HB.out).trans HO2.out).trans HO3.out).trans hO6).put _ (Nat.le_refl _) _
set_option maxRecDepth 100000 in
set_option maxHeartbeats 8000000 in
theorem part_any {w : World} {b : Nat} {p : Option Addr} {c : Nat} {ws : List Wd} {s : PS} (H : Ps w b p c ws s) (X : (ByteArray × Et) × PS)
    (kb : ∀ W, Ps W b p c ws s → Calls Tryz.prog 113 #[.pointer (some ⟨b, 0, none⟩), .string ⟨#[58]⟩] W (GivesF ws W b p c X)) :
    Calls Tryz.prog 165 #[.pointer (some ⟨b, 0, none⟩)] w (GivesF ws w b p c X) := by
  have hold := H.old
  have lb := lt_of_row H.row
  obtain ⟨w1, hw1⟩ : ∃ w1, w.alloc (.cells #[.string ⟨#[]⟩, .int .i64 0, .string ⟨#[]⟩, .int .i64 0, .bool false, .int .i64 0, .string ⟨#[]⟩, .slice none 0 0, .slice none 0 0, .slice none 0 0, .slice none 0 0] 124) = w1 := ⟨_, rfl⟩
  have hb1 : Below w.heap.size w w1 := by rw [← hw1]; exact (Below.refl _ w).alloc (Nat.le_refl _) _
  have hs1 : w1.heap.size = w.heap.size + 1 := by rw [← hw1]; simp
  have rz1 : w1.heap[w.heap.size]? = some (.cells zero11 124 (0, 0)) := by rw [← hw1]; exact heap_alloc_new _ _
  have k1 := kb w1 (H.later hb1)
  have HB : Hid (Below w.heap.size w w1) := hb1
  clear H hb1 kb
  go_enter Tryz.func165, Tryz.ntmps165
  go_wp2_with fail
  refine k1.mono ?_
  rintro q w6 ⟨v6, d6, rfl, hv6, hE6, hP6, hO6⟩
  have s6 := hO6.size
  have rz6 := (hO6.block _ (by omega) (by omega)).trans rz1
  have h11 := eFld.len hE6
  have hon : d6.toArray.all (·.oneCell') = true := all_oneCell_toArray (eFld.ones hE6)
  subst hv6
  obtain ⟨V, hV⟩ : ∃ V, d6.toArray = V := ⟨_, rfl⟩
  have h11' : V.size = 11 := by rw [← hV]; simpa using h11
  rw [hV] at hon ⊢
  have H6 : Hid (EFld w6 (fun k => w1.heap.size ≤ k) X.1 d6 ∧ Ps w6 b p c ws X.2 ∧ Onl b w1 w6 ∧ w6.heap[w.heap.size]? = some (.cells zero11 124 (0, 0)) ∧ V.size = 11 ∧ V.all (·.oneCell') = true ∧ d6.toArray = V) := ⟨hE6, hP6, hO6, rz6, h11', hon, hV⟩
  clear k1 hE6 hP6 hO6 rz6 rz1 hw1 h11 h11' hon hV
  go_wp2_with (refine wpList_put rfl 124 (.tmp 2) (.tmp 4) rfl rfl rfl rfl H6.out.2.2.2.1 H6.out.2.2.2.2.1 (i98 H6.out.2.2.2.2.1) H6.out.2.2.2.2.2.1 ?_)
  obtain ⟨hE6, hP6, hO6, rz6, h11, hon, hV⟩ := H6.out
  refine bodyPost_ret (results_cell_row Tryz.results165 _ _ w.heap.size 124 _ (0, 0) _ rfl (put_row V rz6 h11) Tryz.underlying124 rfl (i98 h11)) rfl ⟨.agg V, d6, rfl, by rw [hV], ?_, hP6.put lb hold V, ?_⟩
  · exact eFld.imp (fun k hk _ => by omega) (eFld.since hE6 (Since.put (by omega) w6 V))
  · exact ((Onl.of HB.out).trans hO6).put _ (Nat.le_refl _) _
set_option maxRecDepth 100000 in
set_option maxHeartbeats 8000000 in
theorem assignment_any {w : World} {b : Nat} {p : Option Addr} {c : Nat} {ws : List Wd} {s : PS} (H : Ps w b p c ws s) (X : (ByteArray × Et) × PS)
    (kb : ∀ W, Ps W b p c ws s → Calls Tryz.prog 113 #[.pointer (some ⟨b, 0, none⟩), .string ⟨#[61]⟩] W (GivesF ws W b p c X)) :
    Calls Tryz.prog 84 #[.pointer (some ⟨b, 0, none⟩)] w (GivesF ws w b p c X) := by
  have hold := H.old
  have lb := lt_of_row H.row
  obtain ⟨w1, hw1⟩ : ∃ w1, w.alloc (.cells #[.string ⟨#[]⟩, .int .i64 0, .string ⟨#[]⟩, .int .i64 0, .bool false, .int .i64 0, .string ⟨#[]⟩, .slice none 0 0, .slice none 0 0, .slice none 0 0, .slice none 0 0] 124) = w1 := ⟨_, rfl⟩
  have hb1 : Below w.heap.size w w1 := by rw [← hw1]; exact (Below.refl _ w).alloc (Nat.le_refl _) _
  have hs1 : w1.heap.size = w.heap.size + 1 := by rw [← hw1]; simp
  have rz1 : w1.heap[w.heap.size]? = some (.cells zero11 124 (0, 0)) := by rw [← hw1]; exact heap_alloc_new _ _
  have k1 := kb w1 (H.later hb1)
  have HB : Hid (Below w.heap.size w w1) := hb1
  clear H hb1 kb
  go_enter Tryz.func84, Tryz.ntmps84
  go_wp2_with fail
  refine k1.mono ?_
  rintro q w6 ⟨v6, d6, rfl, hv6, hE6, hP6, hO6⟩
  have s6 := hO6.size
  have rz6 := (hO6.block _ (by omega) (by omega)).trans rz1
  have h11 := eFld.len hE6
  have hon : d6.toArray.all (·.oneCell') = true := all_oneCell_toArray (eFld.ones hE6)
  subst hv6
  obtain ⟨V, hV⟩ : ∃ V, d6.toArray = V := ⟨_, rfl⟩
  have h11' : V.size = 11 := by rw [← hV]; simpa using h11
  rw [hV] at hon ⊢
  have H6 : Hid (EFld w6 (fun k => w1.heap.size ≤ k) X.1 d6 ∧ Ps w6 b p c ws X.2 ∧ Onl b w1 w6 ∧ w6.heap[w.heap.size]? = some (.cells zero11 124 (0, 0)) ∧ V.size = 11 ∧ V.all (·.oneCell') = true ∧ d6.toArray = V) := ⟨hE6, hP6, hO6, rz6, h11', hon, hV⟩
  clear k1 hE6 hP6 hO6 rz6 rz1 hw1 h11 h11' hon hV
  go_wp2_with (refine wpList_put rfl 124 (.tmp 2) (.tmp 4) rfl rfl rfl rfl H6.out.2.2.2.1 H6.out.2.2.2.2.1 (i98 H6.out.2.2.2.2.1) H6.out.2.2.2.2.2.1 ?_)
  obtain ⟨hE6, hP6, hO6, rz6, h11, hon, hV⟩ := H6.out
  refine bodyPost_ret (results_cell_row Tryz.results84 _ _ w.heap.size 124 _ (0, 0) _ rfl (put_row V rz6 h11) Tryz.underlying124 rfl (i98 h11)) rfl ⟨.agg V, d6, rfl, by rw [hV], ?_, hP6.put lb hold V, ?_⟩
  · exact eFld.imp (fun k hk _ => by omega) (eFld.since hE6 (Since.put (by omega) w6 V))
  · exact ((Onl.of HB.out).trans hO6).put _ (Nat.le_refl _) _
end Go.Proofs.YtcniebkehekliaaGreatDoor
namespace Go.Proofs.YtcniebkehekliaaGreatDoor
open Go.RowKit Go.Shelf
attribute [local go_sem] Oper.semAt_some fw0 fw1 fw2
/- Two lists of one's own of unlike types lie apart. -/
theorem own_apart {w : World} {base T U y z : Nat} {v u : Value} {n m : Nat} {L K : List Value} (h : w.ownsRow base T y v n L) (k : w.ownsRow base U z u m K) (hne : T ≠ U) : v.ownBlock = none ∨ v.ownBlock ≠ u.ownBlock := by
  rcases h.2 with ⟨hv, _⟩ | ⟨g, cap, cur, hv, _, hr, _⟩
  · left; rw [hv]; rfl
  · right
    rcases k.2 with ⟨hu, _⟩ | ⟨g2, cap2, cur2, hu, _, hr2, _⟩
    · rw [hv, hu]; intro e; cases e
    · rw [hv, hu]
      intro e
      have e' : g = g2 := by injection e
      subst e'
      rw [hr] at hr2
      injection hr2 with e2
      injection e2 with _ e3
      exact hne e3
theorem take_more {α : Type} : ∀ (l : List α) (i : Nat) (x : α), l[i]? = some x → l.take (i + 1) = l.take i ++ [x]
  | [], i, x, h => by simp at h
  | y :: l, 0, x, h => by
    have e : y = x := by simpa using h
    simp [e]
  | y :: l, i + 1, x, h => by
    have := take_more l i x (by simpa using h)
    simp [this]
def GivesA (w : World) (S : Nat → Prop) (l : List (ByteArray × Et)) (r : Ending) (w' : World) : Prop :=
  ∃ v1 v2 L1 L2, r = .returned (.tuple #[v1, v2]) ∧ w'.ownsRow w.heap.size 9 1 v1 l.length L1 ∧ Els EStr w' (fun _ => True) (l.map (·.1)) L1 ∧ w'.ownsRow w.heap.size 28 10 v2 l.length L2 ∧ Els EExp w' S (l.map (·.2)) L2 ∧ Below w.heap.size w w'
theorem elsStr {w : World} {R S : Nat → Prop} : ∀ {l : List ByteArray} {L : List Value}, Els EStr w S l L → Els EStr w R l L
  | [], _, h => h
  | _ :: _, _, ⟨c, r, h1, h2, h3⟩ => ⟨c, r, h1, h2, elsStr h3⟩
set_option maxRecDepth 100000 in
set_option maxHeartbeats 8000000 in
theorem apart_any {w : World} {base : Nat} {v : Value} {l : List (ByteArray × Et)} {L : List Value} {S : Nat → Prop} (hown : w.ownsRow base 124 11 v l.length L) (hels : Els EFld w S l L) (hS : ∀ k, S k → k < w.heap.size) (hl : l.length ≤ 33) :
    Calls Tryz.prog 82 #[v] w (GivesA w S l) := by
  have hat : ∀ i x, l[i]? = some x → ∃ g cap, v = .slice (some ⟨g, 0, none⟩) l.length cap ∧ l.length ≤ cap ∧ g < w.heap.size ∧ ∃ d, EFld w S x d ∧ ∀ j u, d[j]? = some u → w.cell? ⟨g, i * 11 + j, none⟩ = some u := by
    intro i x hi
    have hil := (List.getElem?_eq_some_iff.1 hi).1
    rcases hown.2 with ⟨_, hn⟩ | ⟨g, cap, cur, hv, hg, hr, h1, h2, h3, h4⟩
    · omega
    · refine ⟨g, cap, hv, h1, lt_of_row hr, ?_⟩
      obtain ⟨d, hd, hk⟩ := Els.at eFld hels i x hi
      refine ⟨d, hd, fun j u hu => ?_⟩
      have e := hk j u hu
      rw [← h4, List.getElem?_take] at e
      rw [cell_of_row w g _ cur _ _ hr]
      split at e
      · simpa using e
      · cases e
  obtain ⟨qv, kv, rfl⟩ := own_len hown
  have HA : Hid (∀ i x, l[i]? = some x → ∃ g cap, Value.slice qv l.length kv = .slice (some ⟨g, 0, none⟩) l.length cap ∧ l.length ≤ cap ∧ g < w.heap.size ∧ ∃ d, EFld w S x d ∧ ∀ j u, d[j]? = some u → w.cell? ⟨g, i * 11 + j, none⟩ = some u) := hat
  have HS : Hid (∀ k, S k → k < w.heap.size) := hS
  clear hown hels hat hS
  obtain ⟨i9, hi, hz0, hz1, hz2⟩ := info_parts info9
  obtain ⟨i28, hj, hy0, hy1, hy2⟩ := info_parts info28c
  go_enter Tryz.func82, Tryz.ntmps82
  go_wp2_with fail
  go_loopw [4, 5, 10] (fun c4 c5 c10 wr => ∃ i : Nat, i ≤ l.length ∧ c10 = .int .i64 (i : Int) ∧ Hid (∃ L1 L2, wr.ownsRow w.heap.size 9 1 c4 i L1 ∧ Els EStr wr (fun _ => True) ((l.map (·.1)).take i) L1 ∧ wr.ownsRow w.heap.size 28 10 c5 i L2 ∧ Els EExp wr S ((l.map (·.2)).take i) L2 ∧ Below w.heap.size w wr)) (fun _ _ c10 _ => l.length - (intOf c10).toNat)
  case atStart =>
    refine ⟨0, by omega, rfl, ?_⟩
    have hh : ∃ L1 L2, w.ownsRow w.heap.size 9 1 (.slice none 0 0) 0 L1 ∧ Els EStr w (fun _ => True) ((l.map (·.1)).take 0) L1 ∧ w.ownsRow w.heap.size 28 10 (.slice none 0 0) 0 L2 ∧ Els EExp w S ((l.map (·.2)).take 0) L2 ∧ Below w.heap.size w w := ⟨[], [], World.ownsRow_nil _ _ _ _, rfl, World.ownsRow_nil _ _ _ _, rfl, Below.refl _ _⟩
    exact hh
  case round =>
    obtain ⟨i, hi1, rfl, hh⟩ := hrel
    obtain ⟨L1, L2, o1, e1, o2, e2, hB⟩ := hh.out
    by_cases hlt : i < l.length
    · have hlt' : (i : Int) < (l.length : Int) := by omega
      obtain ⟨x, hx⟩ : ∃ x, l[i]? = some x := ⟨l[i], List.getElem?_eq_getElem hlt⟩
      obtain ⟨g, cap, ev, hcap, hg, d, hE, hcl⟩ := HA.out i x hx
      obtain ⟨e0, he0, dd, hdd⟩ := id hE
      obtain ⟨R, hR⟩ := hdd.row
      have hd0 : e0 = [.int .i64 R.k, .string R.s, .int .i64 R.vk, .bool R.vb, .int .i64 R.vn, .string R.vs, .slice none 0 0, .slice none 0 0, .slice R.kp R.n R.kc, .slice R.np R.m R.nc] := by
        unfold rowX at hR
        injection hR with hR
        have := congrArg Array.toList hR
        simpa using this
      subst hd0
      subst he0
      have eq : qv = some ⟨g, 0, none⟩ ∧ kv = cap := by injection ev with a1 a2 a3; exact ⟨a1, a3⟩
      obtain ⟨rfl, rfl⟩ := eq
      have hsz := hB.size
      have hrg : wr.rangeAt g (i * 11) [.string x.1, .int .i64 R.k, .string R.s, .int .i64 R.vk, .bool R.vb, .int .i64 R.vn, .string R.vs, .slice none 0 0, .slice none 0 0, .slice R.kp R.n R.kc, .slice R.np R.m R.nc] := fun j u hu => (cell_later hB hg).trans (hcl j u hu)
      obtain ⟨w2, hw2⟩ : ∃ w2, put (wr.alloc (.cells #[.string ⟨#[]⟩, .int .i64 0, .string ⟨#[]⟩, .int .i64 0, .bool false, .int .i64 0, .string ⟨#[]⟩, .slice none 0 0, .slice none 0 0, .slice none 0 0, .slice none 0 0] 124)) wr.heap.size #[.string x.1, .int .i64 R.k, .string R.s, .int .i64 R.vk, .bool R.vb, .int .i64 R.vn, .string R.vs, .slice none 0 0, .slice none 0 0, .slice R.kp R.n R.kc, .slice R.np R.m R.nc] = w2 := ⟨_, rfl⟩
      have r1 : (wr.alloc (.cells #[.string ⟨#[]⟩, .int .i64 0, .string ⟨#[]⟩, .int .i64 0, .bool false, .int .i64 0, .string ⟨#[]⟩, .slice none 0 0, .slice none 0 0, .slice none 0 0, .slice none 0 0] 124)).heap[wr.heap.size]? = some (.cells zero11 124 (0, 0)) := heap_alloc_new _ _
      have r2 : w2.heap[wr.heap.size]? = some (.cells #[.string x.1, .int .i64 R.k, .string R.s, .int .i64 R.vk, .bool R.vb, .int .i64 R.vn, .string R.vs, .slice none 0 0, .slice none 0 0, .slice R.kp R.n R.kc, .slice R.np R.m R.nc] 124 (0, 0)) := by rw [← hw2]; exact put_row _ r1 rfl
      have b2 : Below wr.heap.size wr w2 := by rw [← hw2]; exact put_below ((Below.refl _ wr).alloc (Nat.le_refl _) _) _ (Nat.le_refl _) _
      have s2 : w2.heap.size = wr.heap.size + 1 := by rw [← hw2, put_size]; simp
      have hsz2 : w.heap.size ≤ w2.heap.size := by omega
      have HS2 : Hid (w2.heap.size = wr.heap.size + 1) := s2
      clear s2
      have q0 := cell_of_row w2 _ 0 _ _ _ r2
      have m1 := take_more (l.map (·.1)) i x.1 (by simp [hx])
      have m2 := take_more (l.map (·.2)) i x.2 (by simp [hx])
      have HH : Hid (wr.ownsRow w.heap.size 9 1 u4 i L1 ∧ Els EStr wr (fun _ => True) ((l.map (·.1)).take i) L1 ∧ wr.ownsRow w.heap.size 28 10 u5 i L2 ∧ Els EExp wr S ((l.map (·.2)).take i) L2 ∧ Below w.heap.size w wr ∧ EFld w S x [.string x.1, .int .i64 R.k, .string R.s, .int .i64 R.vk, .bool R.vb, .int .i64 R.vn, .string R.vs, .slice none 0 0, .slice none 0 0, .slice R.kp R.n R.kc, .slice R.np R.m R.nc] ∧ (l.map (·.1)).take (i + 1) = (l.map (·.1)).take i ++ [x.1] ∧ (l.map (·.2)).take (i + 1) = (l.map (·.2)).take i ++ [x.2]) := ⟨o1, e1, o2, e2, hB, hE, m1, m2⟩
      have HR : Hid (wr.rangeAt g (i * 11) [.string x.1, .int .i64 R.k, .string R.s, .int .i64 R.vk, .bool R.vb, .int .i64 R.vn, .string R.vs, .slice none 0 0, .slice none 0 0, .slice R.kp R.n R.kc, .slice R.np R.m R.nc] ∧ (wr.alloc (.cells #[.string ⟨#[]⟩, .int .i64 0, .string ⟨#[]⟩, .int .i64 0, .bool false, .int .i64 0, .string ⟨#[]⟩, .slice none 0 0, .slice none 0 0, .slice none 0 0, .slice none 0 0] 124)).heap[wr.heap.size]? = some (.cells zero11 124 (0, 0)) ∧ w2.heap[wr.heap.size]? = some (.cells #[.string x.1, .int .i64 R.k, .string R.s, .int .i64 R.vk, .bool R.vb, .int .i64 R.vn, .string R.vs, .slice none 0 0, .slice none 0 0, .slice R.kp R.n R.kc, .slice R.np R.m R.nc] 124 (0, 0)) ∧ Below wr.heap.size wr w2) := ⟨hrg, r1, r2, b2⟩
      have o1w := own_laterN HH.out.1 b2
      have HN : Hid ((∀ u ∈ ([.string x.1] : List Value), u.oneCell' = true) ∧ i + 1 ≤ maxLen ∧ (i + 1) * 16 ≤ 140737488355328 ∧ (∀ u ∈ ([.int .i64 R.k, .string R.s, .int .i64 R.vk, .bool R.vb, .int .i64 R.vn, .string R.vs, .slice none 0 0, .slice none 0 0, .slice R.kp R.n R.kc, .slice R.np R.m R.nc] : List Value), u.oneCell' = true) ∧ (i + 1) * 160 ≤ 140737488355328) := by
        have h1 : ∀ u ∈ ([.string x.1] : List Value), u.oneCell' = true := fun u hu => by rw [List.mem_singleton] at hu; rw [hu]; rfl
        have h2 : ∀ u ∈ ([.int .i64 R.k, .string R.s, .int .i64 R.vk, .bool R.vb, .int .i64 R.vn, .string R.vs, .slice none 0 0, .slice none 0 0, .slice R.kp R.n R.kc, .slice R.np R.m R.nc] : List Value), u.oneCell' = true := by
          obtain ⟨e0, he0, hE0⟩ := HH.out.2.2.2.2.2.1
          injection he0 with _ he0
          subst he0
          exact eExp.ones hE0
        have h3 : i + 1 ≤ maxLen := by unfold maxLen; omega
        have h4 : (i + 1) * 16 ≤ 140737488355328 := by omega
        have h5 : (i + 1) * 160 ≤ 140737488355328 := by omega
        exact ⟨h1, h3, h4, h2, h5⟩
      clear o1 e1 o2 e2 hB hE m1 m2 hh hcl hx hdd hR ev hrg r1 r2 b2
      go_wp2_with (first
        | (refine wpList_load_mid rfl 124 (.tmp 12) rfl g (i * 11) rfl [.string x.1, .int .i64 R.k, .string R.s, .int .i64 R.vk, .bool R.vb, .int .i64 R.vn, .string R.vs, .slice none 0 0, .slice none 0 0, .slice R.kp R.n R.kc, .slice R.np R.m R.nc] _ HR.out.1 Tryz.underlying124 rfl info98 ?_; simp only [Act.put, List.setIfInBounds_toArray, List.set_cons_zero, List.set_cons_succ])
        | (refine wpList_put rfl 124 (.tmp 7) (.tmp 13) rfl rfl rfl rfl HR.out.2.1 rfl info98 (by simp [Value.oneCell']) ?_; rw [hw2])
        | (at_builtin; refine wpList_append_own_at _ rfl (.tmp 14) (.tmp 17) 23 rfl w.heap.size 9 i9 (.string ⟨#[]⟩) 1 16 Tryz.underlying23 hi hz0 hz1 hz2 rfl (by decide) _ _ _ rfl (o1w.alloc _) ⟨w2.heap.size, 0, none⟩ 1 1 [.string x.1] rfl rfl (World.news_of_block (heap_alloc_new w2 _)) HN.out.1 HN.out.2.1 HN.out.2.2.1 (Nat.le_trans hsz2 (by simp)) ?_))
      intro v1 w3 o1x hgr3 _ hat3
      have b3 : Below w2.heap.size w2 w3 → True := fun _ => trivial
      have hk3 : ∀ k, k < w2.heap.size → u4.ownBlock ≠ some k → w3.heap[k]? = w2.heap[k]? := fun k hk hv => (hgr3.block k (by simp; omega) (fun e => hv e.symm)).trans (Below.heap_alloc _ _ _ hk)
      have hu4 := HH.out.1.lt
      have r3 : w3.heap[wr.heap.size]? = some (.cells #[.string x.1, .int .i64 R.k, .string R.s, .int .i64 R.vk, .bool R.vb, .int .i64 R.vn, .string R.vs, .slice none 0 0, .slice none 0 0, .slice R.kp R.n R.kc, .slice R.np R.m R.nc] 124 (0, 0)) := (hk3 _ (by have := HS2.out; omega) (fun e => by have := (hu4 _ e).2; omega)).trans HR.out.2.2.1
      have hB3 : Below w.heap.size w w3 := ((HH.out.2.2.2.2.1.trans (HR.out.2.2.2.mono hsz)).alloc hsz2 _).grown hgr3 (by simp; omega) (fun k hk => (hu4 k hk).1)
      have hs3 : w2.heap.size + 1 ≤ w3.heap.size := by have := hgr3.size; simpa using this
      have o2w : w3.ownsRow w.heap.size 28 10 u5 i L2 := ((own_laterN HH.out.2.2.1 HR.out.2.2.2).alloc _).kept hgr3 (own_apart HH.out.2.2.1 HH.out.1 (by decide))
      have rg3 : w3.rangeAt wr.heap.size 1 [.int .i64 R.k, .string R.s, .int .i64 R.vk, .bool R.vb, .int .i64 R.vn, .string R.vs, .slice none 0 0, .slice none 0 0, .slice R.kp R.n R.kc, .slice R.np R.m R.nc] := fun j u hu => by
        rw [cell_of_row w3 _ _ _ _ _ r3]
        have e : (#[.string x.1, .int .i64 R.k, .string R.s, .int .i64 R.vk, .bool R.vb, .int .i64 R.vn, .string R.vs, .slice none 0 0, .slice none 0 0, .slice R.kp R.n R.kc, .slice R.np R.m R.nc] : Array Value)[1 + j]? = ([.string x.1, .int .i64 R.k, .string R.s, .int .i64 R.vk, .bool R.vb, .int .i64 R.vn, .string R.vs, .slice none 0 0, .slice none 0 0, .slice R.kp R.n R.kc, .slice R.np R.m R.nc] : List Value)[1 + j]? := by simp
        rw [e, Nat.add_comm, List.getElem?_cons_succ]
        exact hu
      have H3 : Hid (w3.rangeAt wr.heap.size 1 [.int .i64 R.k, .string R.s, .int .i64 R.vk, .bool R.vb, .int .i64 R.vn, .string R.vs, .slice none 0 0, .slice none 0 0, .slice R.kp R.n R.kc, .slice R.np R.m R.nc] ∧ w3.ownsRow w.heap.size 9 1 v1 (i + 1) (L1 ++ [.string x.1]) ∧ Below w.heap.size w w3 ∧ w3.ownsRow w.heap.size 28 10 u5 i L2 ∧ w2.heap.size + 1 ≤ w3.heap.size) := ⟨rg3, o1x, hB3, o2w, hs3⟩
      have hsz3 : w.heap.size ≤ w3.heap.size := by omega
      clear o1x hgr3 hat3 hk3 hu4 r3 hB3 rg3 o1w q0 hw2 b3 hs3
      go_wp2_with (first
        | (refine wpList_load_mid rfl 28 (.tmp 20) rfl wr.heap.size 1 rfl [.int .i64 R.k, .string R.s, .int .i64 R.vk, .bool R.vb, .int .i64 R.vn, .string R.vs, .slice none 0 0, .slice none 0 0, .slice R.kp R.n R.kc, .slice R.np R.m R.nc] _ H3.out.1 Tryz.underlying28 rfl info28 ?_; simp only [Act.put, List.setIfInBounds_toArray, List.set_cons_zero, List.set_cons_succ])
        | (at_builtin; refine wpList_append_own_at _ rfl (.tmp 19) (.tmp 22) 26 rfl w.heap.size 28 i28 (.agg #[.int .i64 0, .string ⟨#[]⟩, .int .i64 0, .bool false, .int .i64 0, .string ⟨#[]⟩, .slice none 0 0, .slice none 0 0, .slice none 0 0, .slice none 0 0]) 10 160 Tryz.underlying26 hj hy0 hy1 hy2 rfl (by decide) _ _ _ rfl (o2w.alloc _) ⟨w3.heap.size, 0, none⟩ 1 1 [.int .i64 R.k, .string R.s, .int .i64 R.vk, .bool R.vb, .int .i64 R.vn, .string R.vs, .slice none 0 0, .slice none 0 0, .slice R.kp R.n R.kc, .slice R.np R.m R.nc] rfl rfl (World.news_of_block (heap_alloc_new w3 _)) HN.out.2.2.2.1 HN.out.2.1 HN.out.2.2.2.2 (Nat.le_trans hsz3 (by simp)) ?_))
      intro v2 w4 o2x hgr4 _ hat4
      have hu5 := H3.out.2.2.2.1.lt
      have hB4 : Below w.heap.size w w4 := (H3.out.2.2.1.alloc hsz3 _).grown hgr4 (by simp; omega) (fun k hk => (hu5 k hk).1)
      have o1y : w4.ownsRow w.heap.size 9 1 v1 (i + 1) (L1 ++ [.string x.1]) := (H3.out.2.1.alloc _).kept hgr4 (own_apart H3.out.2.1 H3.out.2.2.2.1 (by decide))
      have hgr4s : Hid (w3.heap.size + 1 ≤ w4.heap.size) := by
        have h := hgr4.size
        have h2 : w3.heap.size + 1 ≤ w4.heap.size := by simpa using h
        exact h2
      have HE : Hid (w4.ownsRow w.heap.size 9 1 v1 (i + 1) (L1 ++ [.string x.1]) ∧ w4.ownsRow w.heap.size 28 10 v2 (i + 1) (L2 ++ [.int .i64 R.k, .string R.s, .int .i64 R.vk, .bool R.vb, .int .i64 R.vn, .string R.vs, .slice none 0 0, .slice none 0 0, .slice R.kp R.n R.kc, .slice R.np R.m R.nc]) ∧ Below w.heap.size w w4) := ⟨o1y, o2x, hB4⟩
      clear o2x hgr4 hat4 hu5 hB4 o1y o2w
      go_wp2_with fail
      go_roundw
      case rel =>
        refine ⟨i + 1, by omega, by go_num, ?_⟩
        obtain ⟨o1, e1, o2, e2, hB, hE, m1, m2⟩ := HH.out
        obtain ⟨o1y, o2y, hB4⟩ := HE.out
        obtain ⟨e0, he0, hE0⟩ := hE
        injection he0 with _ he0
        subst he0
        have hS1 : Since S w w4 := Since.below hB4
        have hS0 : Since S wr w4 := ⟨Nat.le_trans (Nat.le_trans HR.out.2.2.2.size (Nat.le_succ _)) (Nat.le_trans H3.out.2.2.2.2 (by have := hgr4s.out; omega)), fun k hk _ => (hB4.block k (HS.out k hk)).trans (hB.block k (HS.out k hk)).symm⟩
        have hh : ∃ L1 L2, w4.ownsRow w.heap.size 9 1 v1 (i + 1) L1 ∧ Els EStr w4 (fun _ => True) ((l.map (·.1)).take (i + 1)) L1 ∧ w4.ownsRow w.heap.size 28 10 v2 (i + 1) L2 ∧ Els EExp w4 S ((l.map (·.2)).take (i + 1)) L2 ∧ Below w.heap.size w w4 := by
          refine ⟨_, _, o1y, ?_, o2y, ?_, hB4⟩
          · rw [m1]
            exact Els.app (E := EStr) rfl (Els.imp eStr (R := fun _ => True) (fun _ _ _ => trivial) (Els.since eStr (S := fun _ => False) ⟨hS0.size, fun _ hk _ => hk.elim⟩ (elsStr e1)))
          · rw [m2]
            exact Els.app (eExp.since hE0 hS1) (e2.since eExp hS0)
        exact hh
      case measure => simp [intOf]; omega
    · obtain rfl : i = l.length := by omega
      have hlt' : ¬ ((l.length : Int) < (l.length : Int)) := by omega
      have HH : Hid (wr.ownsRow w.heap.size 9 1 u4 l.length L1 ∧ Els EStr wr (fun _ => True) (l.map (·.1)) L1 ∧ wr.ownsRow w.heap.size 28 10 u5 l.length L2 ∧ Els EExp wr S (l.map (·.2)) L2 ∧ Below w.heap.size w wr) := by
        rw [List.take_of_length_le (by simp)] at e1 e2
        exact ⟨o1, e1, o2, e2, hB⟩
      clear o1 e1 o2 e2 hB hh
      go_wp2
      go_ret2
      exact ⟨_, _, L1, L2, rfl, HH.out⟩
end Go.Proofs.YtcniebkehekliaaGreatDoor
namespace Go.Proofs.YtcniebkehekliaaGreatDoor
open Go.RowKit Go.Shelf
attribute [local go_sem] Oper.semAt_some fw0 fw1 fw2
theorem els_deep {w : World} {S : Nat → Prop} : ∀ {l : List Et} {L : List Value}, Els EExp w S l L → ∃ d, ∀ i x, l[i]? = some x → LiesE w S d x (row10 fun j => L.getD (i * 10 + j) undef)
  | [], _, _ => ⟨0, fun i x h => by simp at h⟩
  | y :: l, _, ⟨c, r, h1, ⟨d1, h2⟩, h3⟩ => by
    obtain ⟨d2, hd⟩ := els_deep h3
    have hlen := eExp.len ⟨d1, h2⟩
    subst h1
    refine ⟨max d1 d2, fun i x hi => ?_⟩
    cases i with
    | zero =>
      have e : y = x := by simpa using hi
      subst e
      refine LiesE.mono (Nat.le_max_left _ _) ?_
      match c, hlen with
      | [a0, a1, a2, a3, a4, a5, a6, a7, a8, a9], _ => exact h2
    | succ i =>
      have h := (hd i x (by simpa using hi)).mono (Nat.le_max_right d1 d2)
      have e : (fun j => (c ++ r).getD ((i + 1) * 10 + j) undef) = fun j => r.getD (i * 10 + j) undef := by
        funext j
        rw [List.getD_eq_getElem?_getD, List.getD_eq_getElem?_getD, List.getElem?_append_right (by omega), hlen]
        have e2 : (i + 1) * 10 + j - 10 = i * 10 + j := by omega
        rw [e2]
      rw [e]
      exact h
theorem getD_at {l : List Et} {i : Nat} (h : i < l.length) (z : Et) : l[i]? = some (l.getD i z) := by
  rw [List.getD_eq_getElem?_getD, List.getElem?_eq_getElem h]
  rfl
/- Kids out of a list of one's own. -/
theorem kds_own {w : World} {base : Nat} {v : Value} {l : List Et} {L : List Value} {S : Nat → Prop} (h : w.ownsRow base 28 10 v l.length L) (hE : Els EExp w S l L) (hS : ∀ k, S k → base ≤ k) : ∃ kp kc, v = .slice kp l.length kc ∧ Kds w (fun k => base ≤ k) kp l.length kc (fun i j => L.getD (i * 10 + j) undef) ∧ ∃ d, ∀ i, i < l.length → LiesE w (fun k => base ≤ k) d (l.getD i zeroT) (row10 fun j => L.getD (i * 10 + j) undef) := by
  obtain ⟨d, hd⟩ := els_deep hE
  have hd' : ∀ i, i < l.length → LiesE w (fun k => base ≤ k) d (l.getD i zeroT) (row10 fun j => L.getD (i * 10 + j) undef) := fun i hi => (hd i _ (getD_at hi _)).imp fun k hk _ => hS k hk
  rcases h.2 with ⟨hv, hn⟩ | ⟨g, cap, cur, hv, hg, hr, h1, h2, h3, h4⟩
  · refine ⟨none, 0, by rw [hv, hn], ?_, d, hd'⟩
    rw [hn]
    exact Kds.none _ _ _
  · refine ⟨_, _, hv, ⟨⟨h1, h2⟩, fun _ => ⟨g, 0, rfl, hg, lt_of_row hr, fun i hi j hj => ?_⟩⟩, d, hd'⟩
    rw [cell_of_row w g _ cur _ _ hr]
    have hlt : i * 10 + j < L.length := by rw [h.1]; omega
    have e : L[i * 10 + j]? = some (L.getD (i * 10 + j) undef) := by
      rw [List.getD_eq_getElem?_getD, List.getElem?_eq_getElem hlt]; rfl
    rw [← e, ← h4, List.getElem?_take]
    have hlt2 : i * 10 + j < l.length * 10 := by rw [← h.1]; exact hlt
    rw [if_pos hlt2]
    simp
theorem nms_own {w : World} {base : Nat} {v : Value} {l : List ByteArray} {L : List Value} {S : Nat → Prop} (h : w.ownsRow base 9 1 v l.length L) (hE : Els EStr w S l L) : ∃ kp kc, v = .slice kp l.length kc ∧ Nms w (fun k => base ≤ k) kp l.length kc (fun i => l.getD i ⟨#[]⟩) := by
  rcases h.2 with ⟨hv, hn⟩ | ⟨g, cap, cur, hv, hg, hr, h1, h2, h3, h4⟩
  · refine ⟨none, 0, by rw [hv, hn], ?_⟩
    rw [hn]
    exact Nms.none _ _ _
  · refine ⟨_, _, hv, ⟨h1, h2⟩, fun _ => ⟨g, 0, rfl, hg, lt_of_row hr, fun i hi => ?_⟩⟩
    obtain ⟨c, hc, hk⟩ := Els.at eStr hE i (l.getD i ⟨#[]⟩) (by rw [List.getD_eq_getElem?_getD, List.getElem?_eq_getElem hi]; rfl)
    have hc' : c = [.string (l.getD i ⟨#[]⟩)] := hc
    have e := hk 0 _ (by rw [hc']; rfl)
    rw [Nat.mul_one, Nat.add_zero, ← h4, List.getElem?_take] at e
    rw [Nat.zero_add, cell_of_row w g i cur _ _ hr]
    split at e
    · simpa using e
    · cases e
theorem Pk.exb {ws : List Wd} {s t : PS} {c e : Nat} (h : Pk c e ws s t) (hf : ws.length ≤ 3000) : t.ex ≤ s.ex + 3000 := by
  have a := h.ex
  have b := h.lt
  omega
set_option maxRecDepth 100000 in
set_option maxHeartbeats 8000000 in
theorem list_any {w : World} {b : Nat} {p : Option Addr} {c : Nat} {ws : List Wd} {s : PS} (H : Ps w b p c ws s) (hz : Wz ws) (hex : s.ex ≤ 700000) (F : PS → Et × PS) (hF : ∀ u, u.at' < ws.length → Pk 0 0 ws u (F u).2)
    (kb : ∀ W u, Ps W b p c ws u → Pk 0 0 ws s u → Calls Tryz.prog 81 #[.pointer (some ⟨b, 0, none⟩)] W (Gives ws (fun k => W.heap.size ≤ k) W b p c (F u))) :
    Calls Tryz.prog 149 #[.pointer (some ⟨b, 0, none⟩)] w (Gives ws (fun k => w.heap.size ≤ k) w b p c (listF ws F s)) := by
  have hold := H.old
  have lb := lt_of_row H.row
  have few := H.few
  obtain ⟨w2, hw2⟩ : ∃ w2, put ((w.alloc (.cells #[.int .i64 0, .string ⟨#[]⟩, .int .i64 0, .bool false, .int .i64 0, .string ⟨#[]⟩, .slice none 0 0, .slice none 0 0, .slice none 0 0, .slice none 0 0] 28)).alloc (.cells #[.int .i64 0, .string ⟨#[]⟩, .int .i64 0, .bool false, .int .i64 0, .string ⟨#[]⟩, .slice none 0 0, .slice none 0 0, .slice none 0 0, .slice none 0 0] 28)) (w.heap.size + 1) #[.int .i64 7, .string ⟨#[]⟩, .int .i64 0, .bool false, .int .i64 0, .string ⟨#[]⟩, .slice none 0 0, .slice none 0 0, .slice none 0 0, .slice none 0 0] = w2 := ⟨_, rfl⟩
  have ra : ((w.alloc (.cells #[.int .i64 0, .string ⟨#[]⟩, .int .i64 0, .bool false, .int .i64 0, .string ⟨#[]⟩, .slice none 0 0, .slice none 0 0, .slice none 0 0, .slice none 0 0] 28)).alloc (.cells #[.int .i64 0, .string ⟨#[]⟩, .int .i64 0, .bool false, .int .i64 0, .string ⟨#[]⟩, .slice none 0 0, .slice none 0 0, .slice none 0 0, .slice none 0 0] 28)).heap[w.heap.size + 1]? = some (.cells zero10 28 (0, 0)) := two_new _ _ _
  have hb2 : Below w.heap.size w w2 := by rw [← hw2]; exact put_below (((Below.refl _ w).alloc (Nat.le_refl _) _).alloc (by simp) _) _ (Nat.le_succ _) _
  have hs2 : w2.heap.size = w.heap.size + 1 + 1 := by rw [← hw2, put_size]; simp
  have rx2 : w2.heap[w.heap.size + 1]? = some (.cells #[.int .i64 7, .string ⟨#[]⟩, .int .i64 0, .bool false, .int .i64 0, .string ⟨#[]⟩, .slice none 0 0, .slice none 0 0, .slice none 0 0, .slice none 0 0] 28 (0, 0)) := by rw [← hw2]; exact put_row _ ra rfl
  have rz2 : w2.heap[w.heap.size]? = some (.cells zero10 28 (0, 0)) := by rw [← hw2, put_other (by omega), Below.heap_alloc _ _ _ (by simp)]; exact heap_alloc_new _ _
  have ki := is_any (H.later hb2) 6 ⟨#[93]⟩
  have hI : isW (wAt ws s.at') 6 ⟨#[93]⟩ = isP (wAt ws s.at') 6 [93] := isW_isP _ _ _
  rw [hI] at ki
  unfold listF
  have HH : Hid (Ps w b p c ws s ∧ Below w.heap.size w w2 ∧ ((w.alloc (.cells #[.int .i64 0, .string ⟨#[]⟩, .int .i64 0, .bool false, .int .i64 0, .string ⟨#[]⟩, .slice none 0 0, .slice none 0 0, .slice none 0 0, .slice none 0 0] 28)).alloc (.cells #[.int .i64 0, .string ⟨#[]⟩, .int .i64 0, .bool false, .int .i64 0, .string ⟨#[]⟩, .slice none 0 0, .slice none 0 0, .slice none 0 0, .slice none 0 0] 28)).heap[w.heap.size + 1]? = some (.cells zero10 28 (0, 0))) := ⟨H, hb2, ra⟩
  clear hI ra hb2
  by_cases hy : isP (wAt ws s.at') 6 [93] = true
  · rw [if_pos hy]
    rw [hy] at ki
    have HM : Hid (mustP ws s 6 ⟨#[93]⟩ = takeP s) := by
      have h1 := mustP_mustQ ws s 6 [93]
      unfold mustQ at h1
      rw [if_pos hy] at h1
      exact h1
    clear H hy kb hF
    go_enter Tryz.func149, Tryz.ntmps149
    go_wp2_with (first | (refine wpList_put rfl 28 (.tmp 3) (.tmp 4) rfl rfl rfl rfl HH.out.2.2 rfl info28 (by simp [Value.oneCell']) ?_; rw [hw2]) | fail)
    refine ki.mono ?_
    rintro q w3 ⟨rfl, hb3⟩
    have s3 := hb3.size
    have rx3 := (hb3.block _ (by omega)).trans rx2
    have rz3 := (hb3.block _ (by omega)).trans rz2
    have ks := psign_any ((HH.out.1.later HH.out.2.1).later hb3) hz ⟨#[93]⟩
    rw [HM.out] at ks
    have HB3 : Hid (Below w2.heap.size w2 w3) := hb3
    clear ki hb3 rx2 rz2 hw2
    go_wp2_with fail
    refine ks.mono ?_
    rintro q w4 ⟨rfl, hP4, hO4⟩
    have s4 := hO4.size
    have rx4 := (hO4.block _ (by omega) (by omega)).trans rx3
    have rz4 := (hO4.block _ (by omega) (by omega)).trans rz3
    have kw := whole_any hP4 (show (takeP s).ex ≤ 1000000 from Nat.le_trans hex (by omega)) (nodeE 7 ⟨#[]⟩ 0) none 0 none 0
    have kw' : Calls Tryz.prog 148 #[.pointer (some ⟨b, 0, none⟩), .agg #[.int .i64 7, .string ⟨#[]⟩, .int .i64 0, .bool false, .int .i64 0, .string ⟨#[]⟩, .slice none 0 0, .slice none 0 0, .slice none 0 0, .slice none 0 0]] w4 fun r w' => r = .returned (.agg #[.int .i64 7, .string ⟨#[]⟩, .int .i64 0, .bool false, .int .i64 0, .string ⟨#[]⟩, .slice none 0 0, .slice none 0 0, .slice none 0 0, .slice none 0 0]) ∧ Ps w' b p c ws (wholeP ws (takeP s)) ∧ Onl b w4 w' := kw
    have H4 : Hid (Onl b w3 w4 ∧ w4.heap[w.heap.size + 1]? = some (.cells #[.int .i64 7, .string ⟨#[]⟩, .int .i64 0, .bool false, .int .i64 0, .string ⟨#[]⟩, .slice none 0 0, .slice none 0 0, .slice none 0 0, .slice none 0 0] 28 (0, 0))) := ⟨hO4, rx4⟩
    clear ks kw hP4 hO4 rx3 rz3 rx4
    go_wp2_with (first | (refine wpList_get rfl 28 (.tmp 3) rfl rfl H4.out.2 Tryz.underlying28 rfl info28 ?_; simp only [Act.put, List.setIfInBounds_toArray, List.set_cons_zero, List.set_cons_succ]) | fail)
    refine kw'.mono ?_
    rintro q w5 ⟨rfl, hP5, hO5⟩
    have s5 := hO5.size
    have rz5 := (hO5.block _ (by omega) (by omega)).trans rz4
    have H5 : Hid (Ps w5 b p c ws (wholeP ws (takeP s)) ∧ Onl b w4 w5 ∧ w5.heap[w.heap.size]? = some (.cells zero10 28 (0, 0))) := ⟨hP5, hO5, rz5⟩
    clear kw' hP5 hO5 rz4 rz5
    go_wp2_with (first | (refine wpList_put rfl 28 (.tmp 2) (.tmp 17) rfl rfl rfl rfl H5.out.2.2 rfl info28 (by simp [Value.oneCell']) ?_) | fail)
    obtain ⟨hP5, hO5, rz5⟩ := H5.out
    refine bodyPost_ret (results_cell_row Tryz.results149 _ _ w.heap.size 28 _ (0, 0) _ rfl (put_row _ rz5 rfl) Tryz.underlying28 rfl info28) rfl ⟨1, _, rfl, ?_, hP5.put lb hold _, ?_⟩
    · exact LiesE.leaf _ _ (nodeE 7 ⟨#[]⟩ 0) rfl rfl _
    · exact (((((Onl.of HH.out.2.1).trans (Onl.of HB3.out)).trans H4.out.1)).trans hO5).put _ (Nat.le_refl _) _
  · rw [if_neg hy]
    have hf : isP (wAt ws s.at') 6 [93] = false := by simpa using hy
    rw [hf] at ki
    have hpc := Pk.commas hz hF 33 [] s (Pk.refl H.lt)
    have hxb := hpc.exb few
    have kc := fun W (hP : Ps W b p c ws s) => commasE_any hP hz F hF (fun W u hP hk => (kb W u hP hk).mono (fun r w' hg => by
      obtain ⟨d, v, h1, h2, h3, h4⟩ := hg
      obtain ⟨V, hV, -, -⟩ := h2.agg
      subst hV
      exact ⟨_, V.toList, h1, rfl, ⟨d, h2⟩, h3, h4⟩))
    obtain ⟨X, hX⟩ : ∃ X, comF ws F 33 [] s = X := ⟨_, rfl⟩
    rw [hX] at kc hpc hxb ⊢
    have HM : Hid (mustP ws X.2 6 ⟨#[93]⟩ = mustQ ws X.2 6 [93]) := mustP_mustQ _ _ _ _
    have hme : (mustQ ws X.2 6 [93]).ex ≤ 1000000 := by
      have := (hpc.must hz (k := 6) (by decide) [93]).exb few
      omega
    have hmf : ∀ (fn : Fn) (first cap : Array Value) (w : World), (Instr.makeFunc fn first cap).run Tryz.prog w = .ok (.func fn first cap) w := fun _ _ _ _ => rfl
    clear H hy hf kb hF hX hpc hxb
    go_enter Tryz.func149, Tryz.ntmps149
    go_wp2_with (first | (refine wpList_put rfl 28 (.tmp 3) (.tmp 4) rfl rfl rfl rfl HH.out.2.2 rfl info28 (by simp [Value.oneCell']) ?_; rw [hw2]) | fail)
    refine ki.mono ?_
    rintro q w3 ⟨rfl, hb3⟩
    have s3 := hb3.size
    have rx3 := (hb3.block _ (by omega)).trans rx2
    have rz3 := (hb3.block _ (by omega)).trans rz2
    have k4 := kc w3 ((HH.out.1.later HH.out.2.1).later hb3)
    have HB3 : Hid (Below w2.heap.size w2 w3) := hb3
    clear ki hb3 rx2 rz2 hw2 kc
    go_wp2_with fail
    refine k4.mono ?_
    rintro q w4 ⟨v4, rfl, G4⟩
    have s4 := G4.onl.size
    have rx4 := (G4.onl.block _ (by omega) (by omega)).trans rx3
    have rz4 := (G4.onl.block _ (by omega) (by omega)).trans rz3
    obtain ⟨L, hown, hels⟩ := G4.own
    obtain ⟨kp, kc, rfl, hK, d, hd⟩ := kds_own hown hels (fun k hk => hk.1)
    have x8 := cell_of_row w4 _ 8 _ _ _ rx4
    have f8 := frozen_of_row w4 _ 8 _ _ rx4
    obtain ⟨w5, hw5⟩ : ∃ w5, w4.setCell ⟨w.heap.size + 1, 8, none⟩ (.slice kp X.1.length kc) = w5 := ⟨_, rfl⟩
    have rx5 : w5.heap[w.heap.size + 1]? = some (.cells #[.int .i64 7, .string ⟨#[]⟩, .int .i64 0, .bool false, .int .i64 0, .string ⟨#[]⟩, .slice none 0 0, .slice none 0 0, .slice kp X.1.length kc, .slice none 0 0] 28 (0, 0)) := by rw [← hw5]; exact heap_setCell_same _ _ 8 _ _ _ rx4
    have oth5 : ∀ j, j ≠ w.heap.size + 1 → w5.heap[j]? = w4.heap[j]? := fun j hj => by rw [← hw5]; exact Below.heap_setCell _ _ _ j hj
    have s5 : w5.heap.size = w4.heap.size := by rw [← hw5]; simp [World.setCell]
    have rz5 := (oth5 w.heap.size (by omega)).trans rz4
    have hP5 : Ps w5 b p c ws X.2 := G4.ps.kept (z := w.heap.size + 1) (by omega) (fun g hg => by have := hold g hg; omega) oth5 (by omega)
    have hO5 : Onl b w w5 := by
      have h0 := (((Onl.of HH.out.2.1).trans (Onl.of HB3.out)).trans G4.onl)
      have hb0 : Below 0 w4 w5 := by rw [← hw5]; exact (Below.refl 0 w4).setCell (p := ⟨w.heap.size + 1, 8, none⟩) (Nat.zero_le _) _
      exact ⟨hb0.os.trans h0.os, hb0.tape.trans h0.tape, hb0.output.trans h0.output, by have := h0.size; omega, fun k hk hb => (oth5 k (by omega)).trans (h0.block k hk hb)⟩
    have hS5 : Since (fun k => w3.heap.size ≤ k) w4 w5 := ⟨by omega, fun k hk _ => oth5 k (by omega)⟩
    have ks := psign_any hP5 hz ⟨#[93]⟩
    rw [HM.out] at ks
    have H5 : Hid (Onl b w w5 ∧ Kds w5 (fun k => w3.heap.size ≤ k) kp X.1.length kc (fun i j => L.getD (i * 10 + j) undef) ∧ (∀ i, i < X.1.length → LiesE w5 (fun k => w3.heap.size ≤ k) d (X.1.getD i zeroT) (row10 fun j => L.getD (i * 10 + j) undef))) := ⟨hO5, hK.since hS5, fun i hi => (hd i hi).since hS5⟩
    clear k4 G4 rx3 rz3 rx4 rz4 hown hels hK hd oth5 hP5 hO5 hS5
    go_wp2_with fail
    refine ks.mono ?_
    rintro q w6 ⟨rfl, hP6, hO6⟩
    have s6 := hO6.size
    have rx6 := (hO6.block _ (by omega) (by omega)).trans rx5
    have rz6 := (hO6.block _ (by omega) (by omega)).trans rz5
    have kw := whole_any hP6 hme (nodeE 7 ⟨#[]⟩ X.1.length) kp kc none 0
    have kw' : Calls Tryz.prog 148 #[.pointer (some ⟨b, 0, none⟩), .agg #[.int .i64 7, .string ⟨#[]⟩, .int .i64 0, .bool false, .int .i64 0, .string ⟨#[]⟩, .slice none 0 0, .slice none 0 0, .slice kp X.1.length kc, .slice none 0 0]] w6 fun r w' => r = .returned (.agg #[.int .i64 7, .string ⟨#[]⟩, .int .i64 0, .bool false, .int .i64 0, .string ⟨#[]⟩, .slice none 0 0, .slice none 0 0, .slice kp X.1.length kc, .slice none 0 0]) ∧ Ps w' b p c ws (wholeP ws (mustQ ws X.2 6 [93])) ∧ Onl b w6 w' := kw
    have H6 : Hid (Onl b w5 w6 ∧ w6.heap[w.heap.size + 1]? = some (.cells #[.int .i64 7, .string ⟨#[]⟩, .int .i64 0, .bool false, .int .i64 0, .string ⟨#[]⟩, .slice none 0 0, .slice none 0 0, .slice kp X.1.length kc, .slice none 0 0] 28 (0, 0))) := ⟨hO6, rx6⟩
    clear ks kw hP6 hO6 rx5 rz5 rx6 hw5 x8 f8
    go_wp2_with (first | (refine wpList_get rfl 28 (.tmp 3) rfl rfl H6.out.2 Tryz.underlying28 rfl info28 ?_; simp only [Act.put, List.setIfInBounds_toArray, List.set_cons_zero, List.set_cons_succ]) | fail)
    refine kw'.mono ?_
    rintro q w7 ⟨rfl, hP7, hO7⟩
    have s7 := hO7.size
    have rz7 := (hO7.block _ (by omega) (by omega)).trans rz6
    have H7 : Hid (Ps w7 b p c ws (wholeP ws (mustQ ws X.2 6 [93])) ∧ Onl b w6 w7 ∧ w7.heap[w.heap.size]? = some (.cells zero10 28 (0, 0))) := ⟨hP7, hO7, rz7⟩
    clear kw' hP7 hO7 rz6 rz7
    go_wp2_with (first | (refine wpList_put rfl 28 (.tmp 2) (.tmp 17) rfl rfl rfl rfl H7.out.2.2 rfl info28 (by simp [Value.oneCell']) ?_) | fail)
    obtain ⟨hP7, hO7, rz7⟩ := H7.out
    obtain ⟨hO5, hK, hd⟩ := H5.out
    refine bodyPost_ret (results_cell_row Tryz.results149 _ _ w.heap.size 28 _ (0, 0) _ rfl (put_row _ rz7 rfl) Tryz.underlying28 rfl info28) rfl ⟨d + 1, _, rfl, ?_, hP7.put lb hold _, ?_⟩
    · have hS : Since (fun k => w3.heap.size ≤ k) w5 (put w7 w.heap.size #[.int .i64 7, .string ⟨#[]⟩, .int .i64 0, .bool false, .int .i64 0, .string ⟨#[]⟩, .slice none 0 0, .slice none 0 0, .slice kp X.1.length kc, .slice none 0 0]) := ((Since.onl H6.out.1 (by omega)).trans (Since.onl hO7 (by omega))).trans (Since.put (by omega) _ _)
      exact ⟨kp, kc, none, 0, _, rfl, Nms.none _ _ _, (hK.since hS).imp fun k hk _ => by omega, fun i hi => ((hd i hi).since hS).imp fun k hk _ => by omega⟩
    · exact ((hO5.trans H6.out.1).trans hO7).put _ (Nat.le_refl _) _
end Go.Proofs.YtcniebkehekliaaGreatDoor
namespace Go.Proofs.YtcniebkehekliaaGreatDoor
open Go.RowKit Go.Shelf
attribute [local go_sem] Oper.semAt_some fw0 fw1 fw2
theorem own_mono {w : World} {base b2 T z : Nat} {v : Value} {n : Nat} {L : List Value} (h : w.ownsRow base T z v n L) (hb : b2 ≤ base) : w.ownsRow b2 T z v n L := by
  refine ⟨h.1, ?_⟩
  rcases h.2 with hn | ⟨g, cap, cur, hv, hg, rest⟩
  · exact .inl hn
  · exact .inr ⟨g, cap, cur, hv, Nat.le_trans hb hg, rest⟩
theorem comF_len {α : Type} (ws : List Wd) (one : PS → α × PS) : ∀ (n : Nat) (l : List α) (s : PS), (comF ws one n l s).1.length ≤ l.length + n
  | 0, l, s => Nat.le_refl _
  | n + 1, l, s => by
    unfold comF
    split
    · simp
    · split
      · have := comF_len ws one n (l ++ [(one s).1]) (takeP (one s).2)
        simp only [List.length_append, List.length_cons, List.length_nil] at this
        omega
      · simp
set_option maxRecDepth 100000 in
set_option maxHeartbeats 8000000 in
theorem structure_any {w : World} {b : Nat} {p : Option Addr} {c : Nat} {ws : List Wd} {s : PS} (H : Ps w b p c ws s) (hz : Wz ws) (hex : s.ex ≤ 700000) (F : PS → Et × PS) (hF : ∀ u, u.at' < ws.length → Pk 0 0 ws u (F u).2)
    (kb : ∀ W u, Ps W b p c ws u → Pk 0 0 ws s u → Calls Tryz.prog 81 #[.pointer (some ⟨b, 0, none⟩)] W (Gives ws (fun k => W.heap.size ≤ k) W b p c (F u))) :
    Calls Tryz.prog 150 #[.pointer (some ⟨b, 0, none⟩)] w (Gives ws (fun k => w.heap.size ≤ k) w b p c (structF ws F s)) := by
  have hold := H.old
  have lb := lt_of_row H.row
  have few := H.few
  obtain ⟨w2, hw2⟩ : ∃ w2, put ((w.alloc (.cells #[.int .i64 0, .string ⟨#[]⟩, .int .i64 0, .bool false, .int .i64 0, .string ⟨#[]⟩, .slice none 0 0, .slice none 0 0, .slice none 0 0, .slice none 0 0] 28)).alloc (.cells #[.int .i64 0, .string ⟨#[]⟩, .int .i64 0, .bool false, .int .i64 0, .string ⟨#[]⟩, .slice none 0 0, .slice none 0 0, .slice none 0 0, .slice none 0 0] 28)) (w.heap.size + 1) #[.int .i64 8, .string ⟨#[]⟩, .int .i64 0, .bool false, .int .i64 0, .string ⟨#[]⟩, .slice none 0 0, .slice none 0 0, .slice none 0 0, .slice none 0 0] = w2 := ⟨_, rfl⟩
  have ra : ((w.alloc (.cells #[.int .i64 0, .string ⟨#[]⟩, .int .i64 0, .bool false, .int .i64 0, .string ⟨#[]⟩, .slice none 0 0, .slice none 0 0, .slice none 0 0, .slice none 0 0] 28)).alloc (.cells #[.int .i64 0, .string ⟨#[]⟩, .int .i64 0, .bool false, .int .i64 0, .string ⟨#[]⟩, .slice none 0 0, .slice none 0 0, .slice none 0 0, .slice none 0 0] 28)).heap[w.heap.size + 1]? = some (.cells zero10 28 (0, 0)) := two_new _ _ _
  have hb2 : Below w.heap.size w w2 := by rw [← hw2]; exact put_below (((Below.refl _ w).alloc (Nat.le_refl _) _).alloc (by simp) _) _ (Nat.le_succ _) _
  have hs2 : w2.heap.size = w.heap.size + 1 + 1 := by rw [← hw2, put_size]; simp
  have rx2 : w2.heap[w.heap.size + 1]? = some (.cells #[.int .i64 8, .string ⟨#[]⟩, .int .i64 0, .bool false, .int .i64 0, .string ⟨#[]⟩, .slice none 0 0, .slice none 0 0, .slice none 0 0, .slice none 0 0] 28 (0, 0)) := by rw [← hw2]; exact put_row _ ra rfl
  have rz2 : w2.heap[w.heap.size]? = some (.cells zero10 28 (0, 0)) := by rw [← hw2, put_other (by omega), Below.heap_alloc _ _ _ (by simp)]; exact heap_alloc_new _ _
  have ki := is_any (H.later hb2) 6 ⟨#[125]⟩
  have hI : isW (wAt ws s.at') 6 ⟨#[125]⟩ = isP (wAt ws s.at') 6 [125] := isW_isP _ _ _
  rw [hI] at ki
  unfold structF
  have HH : Hid (Ps w b p c ws s ∧ Below w.heap.size w w2 ∧ ((w.alloc (.cells #[.int .i64 0, .string ⟨#[]⟩, .int .i64 0, .bool false, .int .i64 0, .string ⟨#[]⟩, .slice none 0 0, .slice none 0 0, .slice none 0 0, .slice none 0 0] 28)).alloc (.cells #[.int .i64 0, .string ⟨#[]⟩, .int .i64 0, .bool false, .int .i64 0, .string ⟨#[]⟩, .slice none 0 0, .slice none 0 0, .slice none 0 0, .slice none 0 0] 28)).heap[w.heap.size + 1]? = some (.cells zero10 28 (0, 0))) := ⟨H, hb2, ra⟩
  clear hI ra hb2
  by_cases hy : isP (wAt ws s.at') 6 [125] = true
  · rw [if_pos hy]
    rw [hy] at ki
    have HM : Hid (mustP ws s 6 ⟨#[125]⟩ = takeP s) := by
      have h1 := mustP_mustQ ws s 6 [125]
      unfold mustQ at h1
      rw [if_pos hy] at h1
      exact h1
    clear H hy kb hF
    go_enter Tryz.func150, Tryz.ntmps150
    go_wp2_with (first | (refine wpList_put rfl 28 (.tmp 3) (.tmp 4) rfl rfl rfl rfl HH.out.2.2 rfl info28 (by simp [Value.oneCell']) ?_; rw [hw2]) | fail)
    refine ki.mono ?_
    rintro q w3 ⟨rfl, hb3⟩
    have s3 := hb3.size
    have rx3 := (hb3.block _ (by omega)).trans rx2
    have rz3 := (hb3.block _ (by omega)).trans rz2
    have ks := psign_any ((HH.out.1.later HH.out.2.1).later hb3) hz ⟨#[125]⟩
    rw [HM.out] at ks
    have HB3 : Hid (Below w2.heap.size w2 w3) := hb3
    clear ki hb3 rx2 rz2 hw2
    go_wp2_with fail
    refine ks.mono ?_
    rintro q w4 ⟨rfl, hP4, hO4⟩
    have s4 := hO4.size
    have rx4 := (hO4.block _ (by omega) (by omega)).trans rx3
    have rz4 := (hO4.block _ (by omega) (by omega)).trans rz3
    have kw := whole_any hP4 (show (takeP s).ex ≤ 1000000 from Nat.le_trans hex (by omega)) (nodeE 8 ⟨#[]⟩ 0) none 0 none 0
    have kw' : Calls Tryz.prog 148 #[.pointer (some ⟨b, 0, none⟩), .agg #[.int .i64 8, .string ⟨#[]⟩, .int .i64 0, .bool false, .int .i64 0, .string ⟨#[]⟩, .slice none 0 0, .slice none 0 0, .slice none 0 0, .slice none 0 0]] w4 fun r w' => r = .returned (.agg #[.int .i64 8, .string ⟨#[]⟩, .int .i64 0, .bool false, .int .i64 0, .string ⟨#[]⟩, .slice none 0 0, .slice none 0 0, .slice none 0 0, .slice none 0 0]) ∧ Ps w' b p c ws (wholeP ws (takeP s)) ∧ Onl b w4 w' := kw
    have H4 : Hid (Onl b w3 w4 ∧ w4.heap[w.heap.size + 1]? = some (.cells #[.int .i64 8, .string ⟨#[]⟩, .int .i64 0, .bool false, .int .i64 0, .string ⟨#[]⟩, .slice none 0 0, .slice none 0 0, .slice none 0 0, .slice none 0 0] 28 (0, 0))) := ⟨hO4, rx4⟩
    clear ks kw hP4 hO4 rx3 rz3 rx4
    go_wp2_with (first | (refine wpList_get rfl 28 (.tmp 3) rfl rfl H4.out.2 Tryz.underlying28 rfl info28 ?_; simp only [Act.put, List.setIfInBounds_toArray, List.set_cons_zero, List.set_cons_succ]) | fail)
    refine kw'.mono ?_
    rintro q w5 ⟨rfl, hP5, hO5⟩
    have s5 := hO5.size
    have rz5 := (hO5.block _ (by omega) (by omega)).trans rz4
    have H5 : Hid (Ps w5 b p c ws (wholeP ws (takeP s)) ∧ Onl b w4 w5 ∧ w5.heap[w.heap.size]? = some (.cells zero10 28 (0, 0))) := ⟨hP5, hO5, rz5⟩
    clear kw' hP5 hO5 rz4 rz5
    go_wp2_with (first | (refine wpList_put rfl 28 (.tmp 2) (.tmp 22) rfl rfl rfl rfl H5.out.2.2 rfl info28 (by simp [Value.oneCell']) ?_) | fail)
    obtain ⟨hP5, hO5, rz5⟩ := H5.out
    refine bodyPost_ret (results_cell_row Tryz.results150 _ _ w.heap.size 28 _ (0, 0) _ rfl (put_row _ rz5 rfl) Tryz.underlying28 rfl info28) rfl ⟨1, _, rfl, ?_, hP5.put lb hold _, ?_⟩
    · exact LiesE.leaf _ _ (⟨8, ⟨#[]⟩, 0, false, 0, ⟨#[]⟩, 0, 0, fun i => (([] : List (ByteArray × Et)).getD i (⟨#[]⟩, zeroT)).1⟩ : En) rfl rfl _
    · exact (((((Onl.of HH.out.2.1).trans (Onl.of HB3.out)).trans H4.out.1)).trans hO5).put _ (Nat.le_refl _) _
  · rw [if_neg hy]
    have hf : isP (wAt ws s.at') 6 [125] = false := by simpa using hy
    rw [hf] at ki
    have hFn : ∀ u, u.at' < ws.length → Pk 0 0 ws u (namedF ws F [58] u).2 := fun u hu => Pk.named hz hF [58] (Pk.refl hu)
    have hpc := Pk.commas hz hFn 33 [] s (Pk.refl H.lt)
    have hlen := comF_len ws (namedF ws F [58]) 33 [] s
    have hxb := hpc.exb few
    have kc := fun W (hP : Ps W b p c ws s) => commasP_any hP hz (namedF ws F [58]) hFn (fun W u hP hk => part_any hP _ (fun W2 hP2 => named_any hP2 hz [58] F (fun W3 hP3 => kb W3 _ hP3 ((hk.name hz).must hz (by decide) [58]))))
    obtain ⟨X, hX⟩ : ∃ X, comF ws (namedF ws F [58]) 33 [] s = X := ⟨_, rfl⟩
    rw [hX] at kc hpc hxb hlen ⊢
    have HM : Hid (mustP ws X.2 6 ⟨#[125]⟩ = mustQ ws X.2 6 [125]) := mustP_mustQ _ _ _ _
    have hme : (mustQ ws X.2 6 [125]).ex ≤ 1000000 := by
      have := (hpc.must hz (k := 6) (by decide) [125]).exb few
      omega
    have hmf : ∀ (fn : Fn) (first cap : Array Value) (w : World), (Instr.makeFunc fn first cap).run Tryz.prog w = .ok (.func fn first cap) w := fun _ _ _ _ => rfl
    clear H hy hf kb hF hX hpc hxb hFn
    go_enter Tryz.func150, Tryz.ntmps150
    go_wp2_with (first | (refine wpList_put rfl 28 (.tmp 3) (.tmp 4) rfl rfl rfl rfl HH.out.2.2 rfl info28 (by simp [Value.oneCell']) ?_; rw [hw2]) | fail)
    refine ki.mono ?_
    rintro q w3 ⟨rfl, hb3⟩
    have s3 := hb3.size
    have rx3 := (hb3.block _ (by omega)).trans rx2
    have rz3 := (hb3.block _ (by omega)).trans rz2
    have k4 := kc w3 ((HH.out.1.later HH.out.2.1).later hb3)
    have HB3 : Hid (Below w2.heap.size w2 w3) := hb3
    clear ki hb3 rx2 rz2 hw2 kc
    go_wp2_with fail
    refine k4.mono ?_
    rintro q w4 ⟨v4, rfl, G4⟩
    have s4 := G4.onl.size
    have rx4 := (G4.onl.block _ (by omega) (by omega)).trans rx3
    have rz4 := (G4.onl.block _ (by omega) (by omega)).trans rz3
    obtain ⟨L, hown, hels⟩ := G4.own
    have ka := apart_any hown (Els.imp eFld (R := fun k => (w3.heap.size ≤ k ∧ v4.ownBlock ≠ some k) ∧ k < w4.heap.size) (fun k hk hl => ⟨hk, hl⟩) hels) (fun k hk => hk.2) (by omega)
    have HG4 : Hid (Ps w4 b p c ws X.2 ∧ Onl b w3 w4) := ⟨G4.ps, G4.onl⟩
    clear k4 G4 rx3 rz3 hown hels
    go_wp2_with fail
    refine ka.mono ?_
    rintro q w5 ⟨v1, v2, L1, L2, rfl, o1, e1, o2, e2, hb5⟩
    have s5 := hb5.size
    have lm1 : (X.1.map (·.1)).length = X.1.length := by simp
    have lm2 : (X.1.map (·.2)).length = X.1.length := by simp
    rw [← lm1] at o1
    rw [← lm2] at o2
    obtain ⟨np, nc, rfl, hN⟩ := nms_own o1 e1
    have o2' : w5.ownsRow w3.heap.size 28 10 v2 (X.1.map (·.2)).length L2 := own_mono o2 (by omega)
    obtain ⟨kp, kc, rfl, hK, d, hd⟩ := kds_own o2' e2 (fun k hk => hk.1.1)
    rw [lm1] at hN
    rw [lm2] at hK hd
    simp only [lm1, lm2]
    have rx5 := (hb5.block _ (by omega)).trans rx4
    have rz5 := (hb5.block _ (by omega)).trans rz4
    have x8 := cell_of_row w5 _ 8 _ _ _ rx5
    have f8 := frozen_of_row w5 _ 8 _ _ rx5
    have x9 := cell_of_row w5 _ 9 _ _ _ rx5
    have f9 := frozen_of_row w5 _ 9 _ _ rx5
    obtain ⟨w6, hw6⟩ : ∃ w6, (w5.setCell ⟨w.heap.size + 1, 9, none⟩ (.slice np X.1.length nc)).setCell ⟨w.heap.size + 1, 8, none⟩ (.slice kp X.1.length kc) = w6 := ⟨_, rfl⟩
    have rx6 : w6.heap[w.heap.size + 1]? = some (.cells #[.int .i64 8, .string ⟨#[]⟩, .int .i64 0, .bool false, .int .i64 0, .string ⟨#[]⟩, .slice none 0 0, .slice none 0 0, .slice kp X.1.length kc, .slice np X.1.length nc] 28 (0, 0)) := by
      rw [← hw6]
      have h9 := heap_setCell_same w5 _ 9 _ _ (.slice np X.1.length nc) rx5
      exact heap_setCell_same _ _ 8 _ _ _ h9
    have oth6 : ∀ j, j ≠ w.heap.size + 1 → w6.heap[j]? = w5.heap[j]? := fun j hj => by rw [← hw6, Below.heap_setCell _ _ _ j hj, Below.heap_setCell _ _ _ j hj]
    have s6 : w6.heap.size = w5.heap.size := by rw [← hw6]; simp [World.setCell]
    have rz6 := (oth6 w.heap.size (by omega)).trans rz5
    have hP6 : Ps w6 b p c ws X.2 := (HG4.out.1.later hb5).kept (z := w.heap.size + 1) (by omega) (fun g hg => by have := hold g hg; omega) oth6 (by omega)
    have hO6 : Onl b w w6 := by
      have h0 := ((((Onl.of HH.out.2.1).trans (Onl.of HB3.out)).trans HG4.out.2).trans (Onl.of hb5))
      have hb0 : Below 0 w5 w6 := by rw [← hw6]; exact ((Below.refl 0 w5).setCell (p := ⟨w.heap.size + 1, 9, none⟩) (Nat.zero_le _) _).setCell (p := ⟨w.heap.size + 1, 8, none⟩) (Nat.zero_le _) _
      exact ⟨hb0.os.trans h0.os, hb0.tape.trans h0.tape, hb0.output.trans h0.output, by have := h0.size; omega, fun k hk hb => (oth6 k (by omega)).trans (h0.block k hk hb)⟩
    have hS6 : Since (fun k => w3.heap.size ≤ k) w5 w6 := ⟨by omega, fun k hk _ => oth6 k (by omega)⟩
    have ks := psign_any hP6 hz ⟨#[125]⟩
    rw [HM.out] at ks
    have H6 : Hid (Onl b w w6 ∧ Nms w6 (fun k => w3.heap.size ≤ k) np X.1.length nc (fun i => (X.1.map (·.1)).getD i ⟨#[]⟩) ∧ Kds w6 (fun k => w3.heap.size ≤ k) kp X.1.length kc (fun i j => L2.getD (i * 10 + j) undef) ∧ (∀ i, i < X.1.length → LiesE w6 (fun k => w3.heap.size ≤ k) d ((X.1.map (·.2)).getD i zeroT) (row10 fun j => L2.getD (i * 10 + j) undef))) := ⟨hO6, (hN.imp fun k hk _ => by omega).since hS6, hK.since hS6, fun i hi => (hd i hi).since hS6⟩
    clear ka rx4 rz4 rx5 rz5 o1 e1 o2 o2' e2 hb5 hN hK hd oth6 hP6 hO6 hS6 lm1 lm2 hlen
    go_wp2_with fail
    refine ks.mono ?_
    rintro q w7 ⟨rfl, hP7, hO7⟩
    have s7 := hO7.size
    have rx7 := (hO7.block _ (by omega) (by omega)).trans rx6
    have rz7 := (hO7.block _ (by omega) (by omega)).trans rz6
    have kw := whole_any hP7 hme (⟨8, ⟨#[]⟩, 0, false, 0, ⟨#[]⟩, X.1.length, X.1.length, fun _ => ⟨#[]⟩⟩ : En) kp kc np nc
    have kw' : Calls Tryz.prog 148 #[.pointer (some ⟨b, 0, none⟩), .agg #[.int .i64 8, .string ⟨#[]⟩, .int .i64 0, .bool false, .int .i64 0, .string ⟨#[]⟩, .slice none 0 0, .slice none 0 0, .slice kp X.1.length kc, .slice np X.1.length nc]] w7 fun r w' => r = .returned (.agg #[.int .i64 8, .string ⟨#[]⟩, .int .i64 0, .bool false, .int .i64 0, .string ⟨#[]⟩, .slice none 0 0, .slice none 0 0, .slice kp X.1.length kc, .slice np X.1.length nc]) ∧ Ps w' b p c ws (wholeP ws (mustQ ws X.2 6 [125])) ∧ Onl b w7 w' := kw
    have H7 : Hid (Onl b w6 w7 ∧ w7.heap[w.heap.size + 1]? = some (.cells #[.int .i64 8, .string ⟨#[]⟩, .int .i64 0, .bool false, .int .i64 0, .string ⟨#[]⟩, .slice none 0 0, .slice none 0 0, .slice kp X.1.length kc, .slice np X.1.length nc] 28 (0, 0))) := ⟨hO7, rx7⟩
    clear ks kw hP7 hO7 rx6 rz6 rx7 hw6 x8 f8 x9 f9
    go_wp2_with (first | (refine wpList_get rfl 28 (.tmp 3) rfl rfl H7.out.2 Tryz.underlying28 rfl info28 ?_; simp only [Act.put, List.setIfInBounds_toArray, List.set_cons_zero, List.set_cons_succ]) | fail)
    refine kw'.mono ?_
    rintro q w8 ⟨rfl, hP8, hO8⟩
    have s8 := hO8.size
    have rz8 := (hO8.block _ (by omega) (by omega)).trans rz7
    have H8 : Hid (Ps w8 b p c ws (wholeP ws (mustQ ws X.2 6 [125])) ∧ Onl b w7 w8 ∧ w8.heap[w.heap.size]? = some (.cells zero10 28 (0, 0))) := ⟨hP8, hO8, rz8⟩
    clear kw' hP8 hO8 rz7 rz8
    go_wp2_with (first | (refine wpList_put rfl 28 (.tmp 2) (.tmp 22) rfl rfl rfl rfl H8.out.2.2 rfl info28 (by simp [Value.oneCell']) ?_) | fail)
    obtain ⟨hP8, hO8, rz8⟩ := H8.out
    obtain ⟨hO6, hN, hK, hd⟩ := H6.out
    refine bodyPost_ret (results_cell_row Tryz.results150 _ _ w.heap.size 28 _ (0, 0) _ rfl (put_row _ rz8 rfl) Tryz.underlying28 rfl info28) rfl ⟨d + 1, _, rfl, ?_, hP8.put lb hold _, ?_⟩
    · have hS : Since (fun k => w3.heap.size ≤ k) w6 (put w8 w.heap.size #[.int .i64 8, .string ⟨#[]⟩, .int .i64 0, .bool false, .int .i64 0, .string ⟨#[]⟩, .slice none 0 0, .slice none 0 0, .slice kp X.1.length kc, .slice np X.1.length nc]) := ((Since.onl H7.out.1 (by omega)).trans (Since.onl hO8 (by omega))).trans (Since.put (by omega) _ _)
      have en : (fun i => (X.1.map (·.1)).getD i ⟨#[]⟩) = fun i => (X.1.getD i (⟨#[]⟩, zeroT)).1 := by
        funext i
        rw [List.getD_eq_getElem?_getD, List.getD_eq_getElem?_getD, List.getElem?_map]
        cases X.1[i]? <;> rfl
      have ek : ∀ i, (X.1.map (·.2)).getD i zeroT = (X.1.getD i (⟨#[]⟩, zeroT)).2 := by
        intro i
        rw [List.getD_eq_getElem?_getD, List.getD_eq_getElem?_getD, List.getElem?_map]
        cases X.1[i]? <;> rfl
      rw [en] at hN
      refine ⟨kp, kc, np, nc, _, rfl, (hN.since hS).imp fun k hk _ => by omega, (hK.since hS).imp fun k hk _ => by omega, fun i hi => ?_⟩
      have h := ((hd i hi).since hS).imp (R := fun k => w.heap.size ≤ k) fun k hk _ => by omega
      rw [ek i] at h
      exact h
    · exact ((hO6.trans H7.out.1).trans hO8).put _ (Nat.le_refl _) _
end Go.Proofs.YtcniebkehekliaaGreatDoor
namespace Go.Proofs.YtcniebkehekliaaGreatDoor
open Go.RowKit Go.Shelf
attribute [local go_sem] Oper.semAt_some fw0 fw1 fw2
theorem tookSign_no {w : World} {b : Nat} {p : Option Addr} {c : Nat} {ws : List Wd} {s : PS} (H : Ps w b p c ws s) (hz : Wz ws) (l : List UInt8) (h : isP (wAt ws s.at') 6 l = false) :
    Calls Tryz.prog 112 #[.pointer (some ⟨b, 0, none⟩), .string ⟨l.toArray⟩] w fun r w' => r = .returned (.bool false) ∧ Ps w' b p c ws s ∧ Onl b w w' := by
  have k := tookSign_any H hz ⟨l.toArray⟩
  rw [isW_isP, h] at k
  unfold tookP at k
  rw [isW_isP, h, if_neg Bool.false_ne_true] at k
  exact k
theorem tookSign_yes {w : World} {b : Nat} {p : Option Addr} {c : Nat} {ws : List Wd} {s : PS} (H : Ps w b p c ws s) (hz : Wz ws) (l : List UInt8) (h : isP (wAt ws s.at') 6 l = true) :
    Calls Tryz.prog 112 #[.pointer (some ⟨b, 0, none⟩), .string ⟨l.toArray⟩] w fun r w' => r = .returned (.bool true) ∧ Ps w' b p c ws (takeP s) ∧ Onl b w w' := by
  have k := tookSign_any H hz ⟨l.toArray⟩
  rw [isW_isP, h] at k
  unfold tookP at k
  rw [isW_isP, h, if_pos rfl] at k
  exact k
theorem tookKey_no {w : World} {b : Nat} {p : Option Addr} {c : Nat} {ws : List Wd} {s : PS} (H : Ps w b p c ws s) (hz : Wz ws) (l : List UInt8) (h : isP (wAt ws s.at') 2 l = false) :
    Calls Tryz.prog 57 #[.pointer (some ⟨b, 0, none⟩), .string ⟨l.toArray⟩] w fun r w' => r = .returned (.bool false) ∧ Ps w' b p c ws s ∧ Onl b w w' := by
  have k := tookKey_any H hz ⟨l.toArray⟩
  rw [isW_isP, h] at k
  unfold tookP at k
  rw [isW_isP, h, if_neg Bool.false_ne_true] at k
  exact k
theorem tookKey_yes {w : World} {b : Nat} {p : Option Addr} {c : Nat} {ws : List Wd} {s : PS} (H : Ps w b p c ws s) (hz : Wz ws) (l : List UInt8) (h : isP (wAt ws s.at') 2 l = true) :
    Calls Tryz.prog 57 #[.pointer (some ⟨b, 0, none⟩), .string ⟨l.toArray⟩] w fun r w' => r = .returned (.bool true) ∧ Ps w' b p c ws (takeP s) ∧ Onl b w w' := by
  have k := tookKey_any H hz ⟨l.toArray⟩
  rw [isW_isP, h] at k
  unfold tookP at k
  rw [isW_isP, h, if_pos rfl] at k
  exact k
theorem pkey_q {w : World} {b : Nat} {p : Option Addr} {c : Nat} {ws : List Wd} {s : PS} (H : Ps w b p c ws s) (hz : Wz ws) (l : List UInt8) :
    Calls Tryz.prog 79 #[.pointer (some ⟨b, 0, none⟩), .string ⟨l.toArray⟩] w fun r w' => r = .returned (.tuple #[]) ∧ Ps w' b p c ws (mustQ ws s 2 l) ∧ Onl b w w' := by
  have k := pkey_any H hz ⟨l.toArray⟩
  rw [mustP_mustQ] at k
  exact k
theorem psign_q {w : World} {b : Nat} {p : Option Addr} {c : Nat} {ws : List Wd} {s : PS} (H : Ps w b p c ws s) (hz : Wz ws) (l : List UInt8) :
    Calls Tryz.prog 110 #[.pointer (some ⟨b, 0, none⟩), .string ⟨l.toArray⟩] w fun r w' => r = .returned (.tuple #[]) ∧ Ps w' b p c ws (mustQ ws s 6 l) ∧ Onl b w w' := by
  have k := psign_any H hz ⟨l.toArray⟩
  rw [mustP_mustQ] at k
  exact k
theorem deepP_ne (ws : List Wd) (s : PS) : (deepP ws s).ne = s.ne + 1 := by
  unfold deepP failP
  split
  · split
    · rfl
    · rfl
  · rfl
theorem deepP_ex (ws : List Wd) (s : PS) : (deepP ws s).ex = s.ex := by
  unfold deepP failP
  split
  · split
    · rfl
    · rfl
  · rfl
/- What lies behind all of one's own: the value's box, then back. -/
set_option maxRecDepth 100000 in
set_option maxHeartbeats 8000000 in
theorem strongest_path {w : World} {b : Nat} {p : Option Addr} {c : Nat} {ws : List Wd} {s : PS} (H : Ps w b p c ws s) (hz : Wz ws) (hne : s.ne ≤ 100) (hex : s.ex ≤ 600000) (go : Nat → PS → Et × PS) (hl : Wl ws) (hgo : ∀ r u, u.at' < ws.length → Pk 0 0 ws u (go r u).2) (h1 : (wAt ws (deepP ws s).at').k = 1) :
    Calls Tryz.prog 132 #[.pointer (some ⟨b, 0, none⟩)] w (Gives ws (fun k => w.heap.size ≤ k) w b p c (strF ws go s)) := by
  have hold := H.old
  have lb := lt_of_row H.row
  have few := H.few
  obtain ⟨w1, hw1⟩ : ∃ w1, w.alloc (.cells #[.int .i64 0, .string ⟨#[]⟩, .int .i64 0, .bool false, .int .i64 0, .string ⟨#[]⟩, .slice none 0 0, .slice none 0 0, .slice none 0 0, .slice none 0 0] 28) = w1 := ⟨_, rfl⟩
  have hb1 : Below w.heap.size w w1 := by rw [← hw1]; exact (Below.refl _ w).alloc (Nat.le_refl _) _
  have hs1 : w1.heap.size = w.heap.size + 1 := by rw [← hw1]; simp
  have rz1 : w1.heap[w.heap.size]? = some (.cells zero10 28 (0, 0)) := by rw [← hw1]; exact heap_alloc_new _ _
  have kd := deeper_any (H.later hb1) (by omega)
  have hne1 := deepP_ne ws s
  have hex1 := deepP_ex ws s
  have htl := (Pk.refl (ws := ws) H.lt).deep.lt
  obtain ⟨t, ht⟩ : ∃ t, deepP ws s = t := ⟨_, rfl⟩
  rw [ht] at kd h1 hne1 hex1 htl
  unfold strF
  rw [ht]
  have HH : Hid (Below w.heap.size w w1) := hb1
  clear H hb1 ht
  have hS : strB ws go t = (fieldT (pathF ws t).1, wholeP ws (pathF ws t).2) := by unfold strB; rw [if_pos h1]
  have hpk := (Pk.refl (ws := ws) htl).str hz hgo
  have hnn := hpk.ne
  rw [hS] at hnn ⊢
  have hpx : (pathF ws t).2.ex ≤ 1000000 := by
    have := (Pk.path (c := 0) (e := 0) hz ws.length [nameS ws t] (nameP ws t) ((Pk.refl htl).name hz)).exb few
    have e : (pathF ws t).2 = (pathL ws ws.length [nameS ws t] (nameP ws t)).2 := rfl
    rw [e]
    omega
  clear hpk hS
  obtain ⟨X, hX⟩ : ∃ X, pathF ws t = X := ⟨_, rfl⟩
  have kp := fun W (hP : Ps W b p c ws t) => path_any hP hz hl
  rw [hX] at kp hpx hnn ⊢
  dsimp only at hnn ⊢
  clear hX hgo
  go_enter_defers Tryz.func132, Tryz.ntmps132
  go_wp2_with fail
  refine kd.mono ?_
  rintro q w2 ⟨rfl, hP2, hO2⟩
  have s2 := hO2.size
  have rz2 := (hO2.block _ (by omega) (by omega)).trans rz1
  have kw := word_any hP2
  unfold wdV at kw
  have HP2 : Hid (Ps w2 b p c ws t ∧ Onl b w1 w2) := ⟨hP2, hO2⟩
  clear kd hP2 hO2 rz1 hw1
  have hk' : ((wAt ws t.at').k : Int) = 1 := by omega
  rw [hk'] at kw
  clear hk'
  go_wp2_with fail
  refine kw.mono ?_
  rintro q w3 ⟨rfl, hb3⟩
  have s3 := hb3.size
  have rz3 := (hb3.block _ (by omega)).trans rz2
  have hP3 := HP2.out.1.later hb3
  have HO3 : Hid (Onl b w w3) := ((Onl.of HH.out).trans HP2.out.2).trans (Onl.of hb3)
  clear kw hb3 rz2 HP2
  have k3 := kp w3 hP3
  clear hP3 kp
  go_wp2_with fail
  refine k3.mono ?_
  rintro q w4 ⟨rfl, hP4, hO4⟩
  have s4 := hO4.size
  have rz4 := (hO4.block _ (by omega) (by omega)).trans rz3
  have HO4 : Hid (Onl b w w4) := HO3.out.trans hO4
  have kq := whole_any hP4 hpx (nodeE 2 X.1 0) none 0 none 0
  have kq' : Calls Tryz.prog 148 #[.pointer (some ⟨b, 0, none⟩), .agg #[.int .i64 2, .string X.1, .int .i64 0, .bool false, .int .i64 0, .string ⟨#[]⟩, .slice none 0 0, .slice none 0 0, .slice none 0 0, .slice none 0 0]] w4 fun r w' => r = .returned (enV (nodeE 2 X.1 0) none 0 none 0) ∧ Ps w' b p c ws (wholeP ws X.2) ∧ Onl b w4 w' := kq
  clear k3 kq hP4 hO4 rz3 HO3
  go_wp2_with fail
  refine kq'.mono ?_
  rintro q w5 ⟨rfl, hP5, hO5⟩
  have s5 := hO5.size
  have rz5 := (hO5.block _ (by omega) (by omega)).trans rz4
  have HO5 : Hid (Onl b w w5) := HO4.out.trans hO5
  obtain ⟨V, hV, h10, hon⟩ := enV_ones (nodeE 2 X.1 0) none 0 none 0
  rw [hV]
  have hL5 : LiesE w5 (fun k => w.heap.size + 1 ≤ k) 1 (fieldT X.1) (.agg V) := by rw [← hV]; exact LiesE.leaf _ _ (nodeE 2 X.1 0) rfl rfl _
  clear hV
  clear kq' hO5 rz4 HO4
  have hL0 : LiesE (put w5 w.heap.size V) (fun k => w.heap.size + 1 ≤ k) _ (fieldT X.1, wholeP ws X.2).1 (.agg V) := hL5.since (Since.put (by omega) _ _)
  have hP0 : Ps (put w5 w.heap.size V) b p c ws (fieldT X.1, wholeP ws X.2).2 := hP5.put lb hold V
  have hO0 := HO5.out.put w.heap.size (Nat.le_refl _) V
  have r0 := put_row V rz5 h10
  have hsp := put_size w5 w.heap.size V
  have HF : Hid (w5.heap[w.heap.size]? = some (.cells zero10 28 (0, 0)) ∧ V.size = 10 ∧ V.all (·.oneCell') = true) := ⟨rz5, h10, hon⟩
  obtain ⟨w0, hw0⟩ : ∃ w0, put w5 w.heap.size V = w0 := ⟨_, rfl⟩
  rw [hw0] at hL0 hP0 hO0 r0 hsp
  have H0 : Hid (LiesE w0 (fun k => w.heap.size + 1 ≤ k) _ (fieldT X.1, wholeP ws X.2).1 (.agg V) ∧ Ps w0 b p c ws (fieldT X.1, wholeP ws X.2).2 ∧ Onl b w w0 ∧ w0.heap[w.heap.size]? = some (.cells V 28 (0, 0))) := ⟨hL0, hP0, hO0, r0⟩
  clear hL5 hP5 HO5 rz5 h10 hon hL0 hP0 hO0 r0
  go_wp2_with (first | (refine wpList_put rfl 28 (.tmp 2) (.tmp 15) rfl rfl rfl rfl HF.out.1 HF.out.2.1 (i28 HF.out.2.1) HF.out.2.2 ?_; rw [hw0]) | fail)
  obtain ⟨hL0, hP0, hO0, r0⟩ := H0.out
  refine leaves_cons (f := 163) (args := #[.pointer (some ⟨b, 0, none⟩)]) (by simp) (by simp [go_sem]) ?_
  refine (back_d hP0 (by omega) (by omega) .returning).mono ?_
  rintro e u' w9 ⟨rfl, rfl, hP9, hO9⟩
  have r9 := (hO9.block _ (by omega) (by omega)).trans r0
  exact ⟨_, results_cell_row Tryz.results132 _ _ w.heap.size 28 _ (0, 0) _ rfl r9 Tryz.underlying28 rfl (i28 HF.out.2.1), _, .agg V, rfl, (hL0.since (Since.onl hO9 (by omega))).imp fun k hk _ => by omega, hP9, hO0.trans hO9⟩
set_option maxRecDepth 100000 in
set_option maxHeartbeats 8000000 in
theorem strongest_minus {w : World} {b : Nat} {p : Option Addr} {c : Nat} {ws : List Wd} {s : PS} (H : Ps w b p c ws s) (hz : Wz ws) (hne : s.ne ≤ 100) (hex : s.ex ≤ 600000) (go : Nat → PS → Et × PS) (hgo : ∀ r u, u.at' < ws.length → Pk 0 0 ws u (go r u).2) (hkn : ¬ (wAt ws (deepP ws s).at').k = 1) (h1 : isP (wAt ws (deepP ws s).at') 6 [45] = true)
    (kr : isP (wAt ws (deepP ws s).at') 6 [45] = true → ∀ W, Ps W b p c ws (takeP (deepP ws s)) → Calls Tryz.prog 132 #[.pointer (some ⟨b, 0, none⟩)] W (Gives ws (fun k => W.heap.size ≤ k) W b p c (go 6 (takeP (deepP ws s))))) :
    Calls Tryz.prog 132 #[.pointer (some ⟨b, 0, none⟩)] w (Gives ws (fun k => w.heap.size ≤ k) w b p c (strF ws go s)) := by
  have hold := H.old
  have lb := lt_of_row H.row
  have few := H.few
  obtain ⟨w1, hw1⟩ : ∃ w1, w.alloc (.cells #[.int .i64 0, .string ⟨#[]⟩, .int .i64 0, .bool false, .int .i64 0, .string ⟨#[]⟩, .slice none 0 0, .slice none 0 0, .slice none 0 0, .slice none 0 0] 28) = w1 := ⟨_, rfl⟩
  have hb1 : Below w.heap.size w w1 := by rw [← hw1]; exact (Below.refl _ w).alloc (Nat.le_refl _) _
  have hs1 : w1.heap.size = w.heap.size + 1 := by rw [← hw1]; simp
  have rz1 : w1.heap[w.heap.size]? = some (.cells zero10 28 (0, 0)) := by rw [← hw1]; exact heap_alloc_new _ _
  have kd := deeper_any (H.later hb1) (by omega)
  have hne1 := deepP_ne ws s
  have hex1 := deepP_ex ws s
  have htl := (Pk.refl (ws := ws) H.lt).deep.lt
  obtain ⟨t, ht⟩ : ∃ t, deepP ws s = t := ⟨_, rfl⟩
  rw [ht] at kd hkn h1 kr hne1 hex1 htl
  unfold strF
  rw [ht]
  have HH : Hid (Below w.heap.size w w1) := hb1
  clear H hb1 ht
  have hS : strB ws go t = (oneT 3 (go 6 (takeP t)).1, wholeP ws (go 6 (takeP t)).2) := by unfold strB; rw [if_neg hkn, if_pos h1]
  have hpk := (Pk.refl (ws := ws) htl).str hz hgo
  have hnn := hpk.ne
  rw [hS] at hnn ⊢
  have htk : (takeP t).at' < ws.length := hz.next htl (by rw [isP_kind h1]; decide)
  clear hpk hS
  have hgx : (go 6 (takeP t)).2.ex ≤ 1000000 := by
    have := (hgo 6 (takeP t) htk).exb few
    have e : (takeP t).ex = t.ex := rfl
    omega
  dsimp only at hnn ⊢
  have kr := kr h1
  obtain ⟨X, hX⟩ : ∃ X, go 6 (takeP t) = X := ⟨_, rfl⟩
  rw [hX] at kr hgx hnn ⊢
  clear hX hgo
  go_enter_defers Tryz.func132, Tryz.ntmps132
  go_wp2_with fail
  refine kd.mono ?_
  rintro q w2 ⟨rfl, hP2, hO2⟩
  have s2 := hO2.size
  have rz2 := (hO2.block _ (by omega) (by omega)).trans rz1
  have kw := word_any hP2
  unfold wdV at kw
  have HP2 : Hid (Ps w2 b p c ws t ∧ Onl b w1 w2) := ⟨hP2, hO2⟩
  clear kd hP2 hO2 rz1 hw1
  have hk' : ¬ ((wAt ws t.at').k : Int) = 1 := by omega
  generalize ((wAt ws t.at').k : Int) = kk at kw hk'
  go_wp2_with fail
  refine kw.mono ?_
  rintro q w3 ⟨rfl, hb3⟩
  have s3 := hb3.size
  have rz3 := (hb3.block _ (by omega)).trans rz2
  have hP3 := HP2.out.1.later hb3
  have HO3 : Hid (Onl b w w3) := ((Onl.of HH.out).trans HP2.out.2).trans (Onl.of hb3)
  clear kw hb3 rz2 HP2
  have k3 := tookSign_yes hP3 hz [45] h1
  have HP3 : Hid True := trivial
  clear hP3 HP3
  go_wp2_with fail
  refine k3.mono ?_
  rintro q w4 ⟨rfl, hP4, hO4⟩
  have s4 := hO4.size
  have rz4 := (hO4.block _ (by omega) (by omega)).trans rz3
  have HO4 : Hid (Onl b w w4) := HO3.out.trans hO4
  clear k3 hO4 rz3 HO3
  have k4 := kr w4 hP4
  clear hP4
  go_wp2_with fail
  refine k4.mono ?_
  rintro q w5 ⟨d5, v5, rfl, hL5, hP5, hO5⟩
  have s5 := hO5.size
  have rz5 := (hO5.block _ (by omega) (by omega)).trans rz4
  have HO5 : Hid (Onl b w w5) := HO4.out.trans hO5
  clear k4 hO5 rz4 HO4
  have k5 := around_any hP5 hgx 3 (S := fun k => w4.heap.size ≤ k) ⟨by omega, fun k hk => by omega⟩ hL5
  obtain ⟨R5, rfl⟩ := hL5.row
  unfold rowX at k5 ⊢
  clear hP5 hL5 kr
  go_wp2_with fail
  refine k5.mono ?_
  rintro q w6 ⟨v6, rfl, hL6, hP6, hO6⟩
  have s6 := hO6.size
  have rz6 := (hO6.block _ (by omega) (by omega)).trans rz5
  have HO6 : Hid (Onl b w w6) := HO5.out.trans hO6
  clear k5 hO6 rz5 HO5 h1
  obtain ⟨V, rfl, h10, hon⟩ := hL6.agg
  have hL0 : LiesE (put w6 w.heap.size V) (fun k => w4.heap.size ≤ k) _ (oneT 3 X.1, wholeP ws X.2).1 (.agg V) := hL6.since (Since.put (by omega) _ _)
  have hP0 : Ps (put w6 w.heap.size V) b p c ws (oneT 3 X.1, wholeP ws X.2).2 := hP6.put lb hold V
  have hO0 := HO6.out.put w.heap.size (Nat.le_refl _) V
  have r0 := put_row V rz6 h10
  have hsp := put_size w6 w.heap.size V
  have HF : Hid (w6.heap[w.heap.size]? = some (.cells zero10 28 (0, 0)) ∧ V.size = 10 ∧ V.all (·.oneCell') = true) := ⟨rz6, h10, hon⟩
  obtain ⟨w0, hw0⟩ : ∃ w0, put w6 w.heap.size V = w0 := ⟨_, rfl⟩
  rw [hw0] at hL0 hP0 hO0 r0 hsp
  have H0 : Hid (LiesE w0 (fun k => w4.heap.size ≤ k) _ (oneT 3 X.1, wholeP ws X.2).1 (.agg V) ∧ Ps w0 b p c ws (oneT 3 X.1, wholeP ws X.2).2 ∧ Onl b w w0 ∧ w0.heap[w.heap.size]? = some (.cells V 28 (0, 0))) := ⟨hL0, hP0, hO0, r0⟩
  clear hL6 hP6 HO6 rz6 h10 hon hL0 hP0 hO0 r0
  go_wp2_with (first | (refine wpList_put rfl 28 (.tmp 2) (.tmp 22) rfl rfl rfl rfl HF.out.1 HF.out.2.1 (i28 HF.out.2.1) HF.out.2.2 ?_; rw [hw0]) | fail)
  obtain ⟨hL0, hP0, hO0, r0⟩ := H0.out
  refine leaves_cons (f := 163) (args := #[.pointer (some ⟨b, 0, none⟩)]) (by simp) (by simp [go_sem]) ?_
  refine (back_d hP0 (by omega) (by omega) .returning).mono ?_
  rintro e u' w9 ⟨rfl, rfl, hP9, hO9⟩
  have r9 := (hO9.block _ (by omega) (by omega)).trans r0
  exact ⟨_, results_cell_row Tryz.results132 _ _ w.heap.size 28 _ (0, 0) _ rfl r9 Tryz.underlying28 rfl (i28 HF.out.2.1), _, .agg V, rfl, (hL0.since (Since.onl hO9 (by omega))).imp fun k hk _ => by omega, hP9, hO0.trans hO9⟩
set_option maxRecDepth 100000 in
set_option maxHeartbeats 8000000 in
theorem strongest_brackets {w : World} {b : Nat} {p : Option Addr} {c : Nat} {ws : List Wd} {s : PS} (H : Ps w b p c ws s) (hz : Wz ws) (hne : s.ne ≤ 100) (_hex : s.ex ≤ 600000) (go : Nat → PS → Et × PS) (hgo : ∀ r u, u.at' < ws.length → Pk 0 0 ws u (go r u).2) (hkn : ¬ (wAt ws (deepP ws s).at').k = 1) (n45 : isP (wAt ws (deepP ws s).at') 6 [45] = false) (h1 : isP (wAt ws (deepP ws s).at') 6 [40] = true)
    (kr : ∀ W u, Ps W b p c ws u → Pk 0 0 ws (takeP (deepP ws s)) u → Calls Tryz.prog 81 #[.pointer (some ⟨b, 0, none⟩)] W (Gives ws (fun k => W.heap.size ≤ k) W b p c (go 0 u))) :
    Calls Tryz.prog 132 #[.pointer (some ⟨b, 0, none⟩)] w (Gives ws (fun k => w.heap.size ≤ k) w b p c (strF ws go s)) := by
  have hold := H.old
  have lb := lt_of_row H.row
  have few := H.few
  obtain ⟨w1, hw1⟩ : ∃ w1, w.alloc (.cells #[.int .i64 0, .string ⟨#[]⟩, .int .i64 0, .bool false, .int .i64 0, .string ⟨#[]⟩, .slice none 0 0, .slice none 0 0, .slice none 0 0, .slice none 0 0] 28) = w1 := ⟨_, rfl⟩
  have hb1 : Below w.heap.size w w1 := by rw [← hw1]; exact (Below.refl _ w).alloc (Nat.le_refl _) _
  have hs1 : w1.heap.size = w.heap.size + 1 := by rw [← hw1]; simp
  have rz1 : w1.heap[w.heap.size]? = some (.cells zero10 28 (0, 0)) := by rw [← hw1]; exact heap_alloc_new _ _
  have kd := deeper_any (H.later hb1) (by omega)
  have hne1 := deepP_ne ws s
  have hex1 := deepP_ex ws s
  have htl := (Pk.refl (ws := ws) H.lt).deep.lt
  obtain ⟨t, ht⟩ : ∃ t, deepP ws s = t := ⟨_, rfl⟩
  rw [ht] at kd hkn n45 h1 kr hne1 hex1 htl
  unfold strF
  rw [ht]
  have HH : Hid (Below w.heap.size w w1) := hb1
  clear H hb1 ht
  have hS : strB ws go t = ((go 0 (takeP t)).1, mustQ ws (go 0 (takeP t)).2 6 [41]) := by unfold strB; rw [if_neg hkn, if_neg (by rw [n45]; exact Bool.false_ne_true), if_pos h1]
  have hpk := (Pk.refl (ws := ws) htl).str hz hgo
  have hnn := hpk.ne
  rw [hS] at hnn ⊢
  have htk : (takeP t).at' < ws.length := hz.next htl (by rw [isP_kind h1]; decide)
  clear hpk hS
  dsimp only at hnn ⊢
  obtain ⟨X, hX⟩ : ∃ X, go 0 (takeP t) = X := ⟨_, rfl⟩
  have kr := fun W hP => kr W (takeP t) hP (Pk.refl htk)
  rw [hX] at kr hnn ⊢
  clear hX hgo
  go_enter_defers Tryz.func132, Tryz.ntmps132
  go_wp2_with fail
  refine kd.mono ?_
  rintro q w2 ⟨rfl, hP2, hO2⟩
  have s2 := hO2.size
  have rz2 := (hO2.block _ (by omega) (by omega)).trans rz1
  have kw := word_any hP2
  unfold wdV at kw
  have HP2 : Hid (Ps w2 b p c ws t ∧ Onl b w1 w2) := ⟨hP2, hO2⟩
  clear kd hP2 hO2 rz1 hw1
  have hk' : ¬ ((wAt ws t.at').k : Int) = 1 := by omega
  generalize ((wAt ws t.at').k : Int) = kk at kw hk'
  go_wp2_with fail
  refine kw.mono ?_
  rintro q w3 ⟨rfl, hb3⟩
  have s3 := hb3.size
  have rz3 := (hb3.block _ (by omega)).trans rz2
  have hP3 := HP2.out.1.later hb3
  have HO3 : Hid (Onl b w w3) := ((Onl.of HH.out).trans HP2.out.2).trans (Onl.of hb3)
  clear kw hb3 rz2 HP2
  have k3 := tookSign_no hP3 hz [45] n45
  have HP3 : Hid True := trivial
  clear hP3 HP3
  go_wp2_with fail
  refine k3.mono ?_
  rintro q w4 ⟨rfl, hP4, hO4⟩
  have s4 := hO4.size
  have rz4 := (hO4.block _ (by omega) (by omega)).trans rz3
  have HO4 : Hid (Onl b w w4) := HO3.out.trans hO4
  clear k3 hO4 rz3 HO3
  have k4 := tookSign_yes hP4 hz [40] h1
  have HP4 : Hid True := trivial
  clear hP4 HP4
  go_wp2_with fail
  refine k4.mono ?_
  rintro q w5 ⟨rfl, hP5, hO5⟩
  have s5 := hO5.size
  have rz5 := (hO5.block _ (by omega) (by omega)).trans rz4
  have HO5 : Hid (Onl b w w5) := HO4.out.trans hO5
  clear k4 hO5 rz4 HO4
  have k5 := kr w5 hP5
  clear hP5
  go_wp2_with fail
  refine k5.mono ?_
  rintro q w6 ⟨d6, v6, rfl, hL6, hP6, hO6⟩
  have s6 := hO6.size
  have rz6 := (hO6.block _ (by omega) (by omega)).trans rz5
  have HO6 : Hid (Onl b w w6) := HO5.out.trans hO6
  clear k5 hO6 rz5 HO5
  obtain ⟨V, rfl, h10, hon⟩ := hL6.agg
  obtain ⟨w7, hw7⟩ : ∃ w7, put (w6.alloc (.cells #[.int .i64 0, .string ⟨#[]⟩, .int .i64 0, .bool false, .int .i64 0, .string ⟨#[]⟩, .slice none 0 0, .slice none 0 0, .slice none 0 0, .slice none 0 0] 28)) w6.heap.size V = w7 := ⟨_, rfl⟩
  have ra : (w6.alloc (.cells #[.int .i64 0, .string ⟨#[]⟩, .int .i64 0, .bool false, .int .i64 0, .string ⟨#[]⟩, .slice none 0 0, .slice none 0 0, .slice none 0 0, .slice none 0 0] 28)).heap[w6.heap.size]? = some (.cells zero10 28 (0, 0)) := heap_alloc_new _ _
  have hb7 : Below w6.heap.size w6 w7 := by rw [← hw7]; exact put_below ((Below.refl _ w6).alloc (Nat.le_refl _) _) _ (Nat.le_refl _) _
  have s7 : w7.heap.size = w6.heap.size + 1 := by rw [← hw7, put_size]; simp
  have rx7 : w7.heap[w6.heap.size]? = some (.cells V 28 (0, 0)) := by rw [← hw7]; exact put_row _ ra h10
  have rz7 := (hb7.block _ (by omega)).trans rz6
  have k7 := psign_q (hP6.later hb7) hz [41]
  have H7 : Hid (LiesE w7 (fun k => w5.heap.size ≤ k) d6 X.1 (.agg V) ∧ Onl b w w7 ∧ (w6.alloc (.cells #[.int .i64 0, .string ⟨#[]⟩, .int .i64 0, .bool false, .int .i64 0, .string ⟨#[]⟩, .slice none 0 0, .slice none 0 0, .slice none 0 0, .slice none 0 0] 28)).heap[w6.heap.size]? = some (.cells zero10 28 (0, 0)) ∧ V.size = 10 ∧ V.all (·.oneCell') = true ∧ w7.heap[w6.heap.size]? = some (.cells V 28 (0, 0))) := ⟨hL6.since (Since.below hb7), HO6.out.trans (Onl.of hb7), ra, h10, hon, rx7⟩
  clear hL6 hP6 HO6 hb7 rx7 rz6 ra h10 hon
  go_wp2_with (first | (refine wpList_put rfl 28 (.tmp 3) (.tmp 27) rfl rfl rfl rfl H7.out.2.2.1 H7.out.2.2.2.1 (i28 H7.out.2.2.2.1) H7.out.2.2.2.2.1 ?_; rw [hw7]) | fail)
  refine k7.mono ?_
  rintro q w8 ⟨rfl, hP8, hO8⟩
  have s8 := hO8.size
  have rz8 := (hO8.block _ (by omega) (by omega)).trans rz7
  have rx8 := (hO8.block _ (by omega) (by omega)).trans H7.out.2.2.2.2.2
  have HO8 : Hid (Onl b w w8) := H7.out.2.1.trans hO8
  have hL8 : LiesE w8 (fun k => w5.heap.size ≤ k) d6 X.1 (.agg V) := H7.out.1.since (Since.onl hO8 (by omega))
  have h10 := H7.out.2.2.2.1
  have HX8 : Hid (w8.heap[w6.heap.size]? = some (.cells V 28 (0, 0)) ∧ V.size = 10) := ⟨rx8, h10⟩
  clear k7 hO8 rz7 rx8 hw7 h1
  have hon := H7.out.2.2.2.2.1
  have hL0 : LiesE (put w8 w.heap.size V) (fun k => w5.heap.size ≤ k) _ (X.1, mustQ ws X.2 6 [41]).1 (.agg V) := hL8.since (Since.put (by omega) _ _)
  have hP0 : Ps (put w8 w.heap.size V) b p c ws (X.1, mustQ ws X.2 6 [41]).2 := hP8.put lb hold V
  have hO0 := HO8.out.put w.heap.size (Nat.le_refl _) V
  have r0 := put_row V rz8 h10
  have hsp := put_size w8 w.heap.size V
  have HF : Hid (w8.heap[w.heap.size]? = some (.cells zero10 28 (0, 0)) ∧ V.size = 10 ∧ V.all (·.oneCell') = true) := ⟨rz8, h10, hon⟩
  obtain ⟨w0, hw0⟩ : ∃ w0, put w8 w.heap.size V = w0 := ⟨_, rfl⟩
  rw [hw0] at hL0 hP0 hO0 r0 hsp
  have H0 : Hid (LiesE w0 (fun k => w5.heap.size ≤ k) _ (X.1, mustQ ws X.2 6 [41]).1 (.agg V) ∧ Ps w0 b p c ws (X.1, mustQ ws X.2 6 [41]).2 ∧ Onl b w w0 ∧ w0.heap[w.heap.size]? = some (.cells V 28 (0, 0))) := ⟨hL0, hP0, hO0, r0⟩
  clear hL8 hP8 HO8 rz8 h10 hon hL0 hP0 hO0 r0
  go_wp2_with (first | (refine wpList_get rfl 28 (.tmp 3) rfl rfl HX8.out.1 Tryz.underlying28 rfl (i28 HX8.out.2) ?_; simp only [Act.put, List.setIfInBounds_toArray, List.set_cons_zero, List.set_cons_succ]) | (refine wpList_put rfl 28 (.tmp 2) (.tmp 30) rfl rfl rfl rfl HF.out.1 HF.out.2.1 (i28 HF.out.2.1) HF.out.2.2 ?_; rw [hw0]) | fail)
  obtain ⟨hL0, hP0, hO0, r0⟩ := H0.out
  refine leaves_cons (f := 163) (args := #[.pointer (some ⟨b, 0, none⟩)]) (by simp) (by simp [go_sem]) ?_
  refine (back_d hP0 (by omega) (by omega) .returning).mono ?_
  rintro e u' w9 ⟨rfl, rfl, hP9, hO9⟩
  have r9 := (hO9.block _ (by omega) (by omega)).trans r0
  exact ⟨_, results_cell_row Tryz.results132 _ _ w.heap.size 28 _ (0, 0) _ rfl r9 Tryz.underlying28 rfl (i28 HF.out.2.1), _, .agg V, rfl, (hL0.since (Since.onl hO9 (by omega))).imp fun k hk _ => by omega, hP9, hO0.trans hO9⟩
set_option maxRecDepth 100000 in
set_option maxHeartbeats 8000000 in
theorem strongest_list {w : World} {b : Nat} {p : Option Addr} {c : Nat} {ws : List Wd} {s : PS} (H : Ps w b p c ws s) (hz : Wz ws) (hne : s.ne ≤ 100) (hex : s.ex ≤ 600000) (go : Nat → PS → Et × PS) (hgo : ∀ r u, u.at' < ws.length → Pk 0 0 ws u (go r u).2) (hkn : ¬ (wAt ws (deepP ws s).at').k = 1) (n45 : isP (wAt ws (deepP ws s).at') 6 [45] = false) (n40 : isP (wAt ws (deepP ws s).at') 6 [40] = false) (h1 : isP (wAt ws (deepP ws s).at') 6 [91] = true)
    (kr : ∀ W u, Ps W b p c ws u → Pk 0 0 ws (takeP (deepP ws s)) u → Calls Tryz.prog 81 #[.pointer (some ⟨b, 0, none⟩)] W (Gives ws (fun k => W.heap.size ≤ k) W b p c (go 0 u))) :
    Calls Tryz.prog 132 #[.pointer (some ⟨b, 0, none⟩)] w (Gives ws (fun k => w.heap.size ≤ k) w b p c (strF ws go s)) := by
  have hold := H.old
  have lb := lt_of_row H.row
  have few := H.few
  obtain ⟨w1, hw1⟩ : ∃ w1, w.alloc (.cells #[.int .i64 0, .string ⟨#[]⟩, .int .i64 0, .bool false, .int .i64 0, .string ⟨#[]⟩, .slice none 0 0, .slice none 0 0, .slice none 0 0, .slice none 0 0] 28) = w1 := ⟨_, rfl⟩
  have hb1 : Below w.heap.size w w1 := by rw [← hw1]; exact (Below.refl _ w).alloc (Nat.le_refl _) _
  have hs1 : w1.heap.size = w.heap.size + 1 := by rw [← hw1]; simp
  have rz1 : w1.heap[w.heap.size]? = some (.cells zero10 28 (0, 0)) := by rw [← hw1]; exact heap_alloc_new _ _
  have kd := deeper_any (H.later hb1) (by omega)
  have hne1 := deepP_ne ws s
  have hex1 := deepP_ex ws s
  have htl := (Pk.refl (ws := ws) H.lt).deep.lt
  obtain ⟨t, ht⟩ : ∃ t, deepP ws s = t := ⟨_, rfl⟩
  rw [ht] at kd hkn n45 n40 h1 kr hne1 hex1 htl
  unfold strF
  rw [ht]
  have HH : Hid (Below w.heap.size w w1) := hb1
  clear H hb1 ht
  have hS : strB ws go t = listF ws (go 0) (takeP t) := by unfold strB; rw [if_neg hkn, if_neg (by rw [n45]; exact Bool.false_ne_true), if_neg (by rw [n40]; exact Bool.false_ne_true), if_pos h1]
  have hpk := (Pk.refl (ws := ws) htl).str hz hgo
  have hnn := hpk.ne
  rw [hS] at hnn ⊢
  have htk : (takeP t).at' < ws.length := hz.next htl (by rw [isP_kind h1]; decide)
  clear hpk hS
  have kr := fun W (hP : Ps W b p c ws (takeP t)) => list_any hP hz (show (takeP t).ex ≤ 700000 by have e : (takeP t).ex = t.ex := rfl; omega) (go 0) (hgo 0) kr
  obtain ⟨X, hX⟩ : ∃ X, listF ws (go 0) (takeP t) = X := ⟨_, rfl⟩
  rw [hX] at kr hnn ⊢
  clear hX hgo
  go_enter_defers Tryz.func132, Tryz.ntmps132
  go_wp2_with fail
  refine kd.mono ?_
  rintro q w2 ⟨rfl, hP2, hO2⟩
  have s2 := hO2.size
  have rz2 := (hO2.block _ (by omega) (by omega)).trans rz1
  have kw := word_any hP2
  unfold wdV at kw
  have HP2 : Hid (Ps w2 b p c ws t ∧ Onl b w1 w2) := ⟨hP2, hO2⟩
  clear kd hP2 hO2 rz1 hw1
  have hk' : ¬ ((wAt ws t.at').k : Int) = 1 := by omega
  generalize ((wAt ws t.at').k : Int) = kk at kw hk'
  go_wp2_with fail
  refine kw.mono ?_
  rintro q w3 ⟨rfl, hb3⟩
  have s3 := hb3.size
  have rz3 := (hb3.block _ (by omega)).trans rz2
  have hP3 := HP2.out.1.later hb3
  have HO3 : Hid (Onl b w w3) := ((Onl.of HH.out).trans HP2.out.2).trans (Onl.of hb3)
  clear kw hb3 rz2 HP2
  have k3 := tookSign_no hP3 hz [45] n45
  have HP3 : Hid True := trivial
  clear hP3 HP3
  go_wp2_with fail
  refine k3.mono ?_
  rintro q w4 ⟨rfl, hP4, hO4⟩
  have s4 := hO4.size
  have rz4 := (hO4.block _ (by omega) (by omega)).trans rz3
  have HO4 : Hid (Onl b w w4) := HO3.out.trans hO4
  clear k3 hO4 rz3 HO3
  have k4 := tookSign_no hP4 hz [40] n40
  have HP4 : Hid True := trivial
  clear hP4 HP4
  go_wp2_with fail
  refine k4.mono ?_
  rintro q w5 ⟨rfl, hP5, hO5⟩
  have s5 := hO5.size
  have rz5 := (hO5.block _ (by omega) (by omega)).trans rz4
  have HO5 : Hid (Onl b w w5) := HO4.out.trans hO5
  clear k4 hO5 rz4 HO4
  have k5 := tookSign_yes hP5 hz [91] h1
  have HP5 : Hid True := trivial
  clear hP5 HP5
  go_wp2_with fail
  refine k5.mono ?_
  rintro q w6 ⟨rfl, hP6, hO6⟩
  have s6 := hO6.size
  have rz6 := (hO6.block _ (by omega) (by omega)).trans rz5
  have HO6 : Hid (Onl b w w6) := HO5.out.trans hO6
  clear k5 hO6 rz5 HO5
  have k6 := kr w6 hP6
  clear hP6
  go_wp2_with fail
  refine k6.mono ?_
  rintro q w7 ⟨d7, v7, rfl, hL7, hP7, hO7⟩
  have s7 := hO7.size
  have rz7 := (hO7.block _ (by omega) (by omega)).trans rz6
  have HO7 : Hid (Onl b w w7) := HO6.out.trans hO7
  clear k6 hO7 rz6 HO6
  clear h1 kr
  obtain ⟨V, rfl, h10, hon⟩ := hL7.agg
  have hL0 : LiesE (put w7 w.heap.size V) (fun k => w6.heap.size ≤ k) _ X.1 (.agg V) := hL7.since (Since.put (by omega) _ _)
  have hP0 : Ps (put w7 w.heap.size V) b p c ws X.2 := hP7.put lb hold V
  have hO0 := HO7.out.put w.heap.size (Nat.le_refl _) V
  have r0 := put_row V rz7 h10
  have hsp := put_size w7 w.heap.size V
  have HF : Hid (w7.heap[w.heap.size]? = some (.cells zero10 28 (0, 0)) ∧ V.size = 10 ∧ V.all (·.oneCell') = true) := ⟨rz7, h10, hon⟩
  obtain ⟨w0, hw0⟩ : ∃ w0, put w7 w.heap.size V = w0 := ⟨_, rfl⟩
  rw [hw0] at hL0 hP0 hO0 r0 hsp
  have H0 : Hid (LiesE w0 (fun k => w6.heap.size ≤ k) _ X.1 (.agg V) ∧ Ps w0 b p c ws X.2 ∧ Onl b w w0 ∧ w0.heap[w.heap.size]? = some (.cells V 28 (0, 0))) := ⟨hL0, hP0, hO0, r0⟩
  clear hL7 hP7 HO7 rz7 h10 hon hL0 hP0 hO0 r0
  go_wp2_with (first | (refine wpList_put rfl 28 (.tmp 2) (.tmp 35) rfl rfl rfl rfl HF.out.1 HF.out.2.1 (i28 HF.out.2.1) HF.out.2.2 ?_; rw [hw0]) | fail)
  obtain ⟨hL0, hP0, hO0, r0⟩ := H0.out
  refine leaves_cons (f := 163) (args := #[.pointer (some ⟨b, 0, none⟩)]) (by simp) (by simp [go_sem]) ?_
  refine (back_d hP0 (by omega) (by omega) .returning).mono ?_
  rintro e u' w9 ⟨rfl, rfl, hP9, hO9⟩
  have r9 := (hO9.block _ (by omega) (by omega)).trans r0
  exact ⟨_, results_cell_row Tryz.results132 _ _ w.heap.size 28 _ (0, 0) _ rfl r9 Tryz.underlying28 rfl (i28 HF.out.2.1), _, .agg V, rfl, (hL0.since (Since.onl hO9 (by omega))).imp fun k hk _ => by omega, hP9, hO0.trans hO9⟩
set_option maxRecDepth 100000 in
set_option maxHeartbeats 8000000 in
theorem strongest_struct {w : World} {b : Nat} {p : Option Addr} {c : Nat} {ws : List Wd} {s : PS} (H : Ps w b p c ws s) (hz : Wz ws) (hne : s.ne ≤ 100) (hex : s.ex ≤ 600000) (go : Nat → PS → Et × PS) (hgo : ∀ r u, u.at' < ws.length → Pk 0 0 ws u (go r u).2) (hkn : ¬ (wAt ws (deepP ws s).at').k = 1) (n45 : isP (wAt ws (deepP ws s).at') 6 [45] = false) (n40 : isP (wAt ws (deepP ws s).at') 6 [40] = false) (n91 : isP (wAt ws (deepP ws s).at') 6 [91] = false) (h1 : isP (wAt ws (deepP ws s).at') 6 [123] = true)
    (kr : ∀ W u, Ps W b p c ws u → Pk 0 0 ws (takeP (deepP ws s)) u → Calls Tryz.prog 81 #[.pointer (some ⟨b, 0, none⟩)] W (Gives ws (fun k => W.heap.size ≤ k) W b p c (go 0 u))) :
    Calls Tryz.prog 132 #[.pointer (some ⟨b, 0, none⟩)] w (Gives ws (fun k => w.heap.size ≤ k) w b p c (strF ws go s)) := by
  have hold := H.old
  have lb := lt_of_row H.row
  have few := H.few
  obtain ⟨w1, hw1⟩ : ∃ w1, w.alloc (.cells #[.int .i64 0, .string ⟨#[]⟩, .int .i64 0, .bool false, .int .i64 0, .string ⟨#[]⟩, .slice none 0 0, .slice none 0 0, .slice none 0 0, .slice none 0 0] 28) = w1 := ⟨_, rfl⟩
  have hb1 : Below w.heap.size w w1 := by rw [← hw1]; exact (Below.refl _ w).alloc (Nat.le_refl _) _
  have hs1 : w1.heap.size = w.heap.size + 1 := by rw [← hw1]; simp
  have rz1 : w1.heap[w.heap.size]? = some (.cells zero10 28 (0, 0)) := by rw [← hw1]; exact heap_alloc_new _ _
  have kd := deeper_any (H.later hb1) (by omega)
  have hne1 := deepP_ne ws s
  have hex1 := deepP_ex ws s
  have htl := (Pk.refl (ws := ws) H.lt).deep.lt
  obtain ⟨t, ht⟩ : ∃ t, deepP ws s = t := ⟨_, rfl⟩
  rw [ht] at kd hkn n45 n40 n91 h1 kr hne1 hex1 htl
  unfold strF
  rw [ht]
  have HH : Hid (Below w.heap.size w w1) := hb1
  clear H hb1 ht
  have hS : strB ws go t = structF ws (go 0) (takeP t) := by unfold strB; rw [if_neg hkn, if_neg (by rw [n45]; exact Bool.false_ne_true), if_neg (by rw [n40]; exact Bool.false_ne_true), if_neg (by rw [n91]; exact Bool.false_ne_true), if_pos h1]
  have hpk := (Pk.refl (ws := ws) htl).str hz hgo
  have hnn := hpk.ne
  rw [hS] at hnn ⊢
  have htk : (takeP t).at' < ws.length := hz.next htl (by rw [isP_kind h1]; decide)
  clear hpk hS
  have kr := fun W (hP : Ps W b p c ws (takeP t)) => structure_any hP hz (show (takeP t).ex ≤ 700000 by have e : (takeP t).ex = t.ex := rfl; omega) (go 0) (hgo 0) kr
  obtain ⟨X, hX⟩ : ∃ X, structF ws (go 0) (takeP t) = X := ⟨_, rfl⟩
  rw [hX] at kr hnn ⊢
  clear hX hgo
  go_enter_defers Tryz.func132, Tryz.ntmps132
  go_wp2_with fail
  refine kd.mono ?_
  rintro q w2 ⟨rfl, hP2, hO2⟩
  have s2 := hO2.size
  have rz2 := (hO2.block _ (by omega) (by omega)).trans rz1
  have kw := word_any hP2
  unfold wdV at kw
  have HP2 : Hid (Ps w2 b p c ws t ∧ Onl b w1 w2) := ⟨hP2, hO2⟩
  clear kd hP2 hO2 rz1 hw1
  have hk' : ¬ ((wAt ws t.at').k : Int) = 1 := by omega
  generalize ((wAt ws t.at').k : Int) = kk at kw hk'
  go_wp2_with fail
  refine kw.mono ?_
  rintro q w3 ⟨rfl, hb3⟩
  have s3 := hb3.size
  have rz3 := (hb3.block _ (by omega)).trans rz2
  have hP3 := HP2.out.1.later hb3
  have HO3 : Hid (Onl b w w3) := ((Onl.of HH.out).trans HP2.out.2).trans (Onl.of hb3)
  clear kw hb3 rz2 HP2
  have k3 := tookSign_no hP3 hz [45] n45
  have HP3 : Hid True := trivial
  clear hP3 HP3
  go_wp2_with fail
  refine k3.mono ?_
  rintro q w4 ⟨rfl, hP4, hO4⟩
  have s4 := hO4.size
  have rz4 := (hO4.block _ (by omega) (by omega)).trans rz3
  have HO4 : Hid (Onl b w w4) := HO3.out.trans hO4
  clear k3 hO4 rz3 HO3
  have k4 := tookSign_no hP4 hz [40] n40
  have HP4 : Hid True := trivial
  clear hP4 HP4
  go_wp2_with fail
  refine k4.mono ?_
  rintro q w5 ⟨rfl, hP5, hO5⟩
  have s5 := hO5.size
  have rz5 := (hO5.block _ (by omega) (by omega)).trans rz4
  have HO5 : Hid (Onl b w w5) := HO4.out.trans hO5
  clear k4 hO5 rz4 HO4
  have k5 := tookSign_no hP5 hz [91] n91
  have HP5 : Hid True := trivial
  clear hP5 HP5
  go_wp2_with fail
  refine k5.mono ?_
  rintro q w6 ⟨rfl, hP6, hO6⟩
  have s6 := hO6.size
  have rz6 := (hO6.block _ (by omega) (by omega)).trans rz5
  have HO6 : Hid (Onl b w w6) := HO5.out.trans hO6
  clear k5 hO6 rz5 HO5
  have k6 := tookSign_yes hP6 hz [123] h1
  have HP6 : Hid True := trivial
  clear hP6 HP6
  go_wp2_with fail
  refine k6.mono ?_
  rintro q w7 ⟨rfl, hP7, hO7⟩
  have s7 := hO7.size
  have rz7 := (hO7.block _ (by omega) (by omega)).trans rz6
  have HO7 : Hid (Onl b w w7) := HO6.out.trans hO7
  clear k6 hO7 rz6 HO6
  have k7 := kr w7 hP7
  clear hP7
  go_wp2_with fail
  refine k7.mono ?_
  rintro q w8 ⟨d8, v8, rfl, hL8, hP8, hO8⟩
  have s8 := hO8.size
  have rz8 := (hO8.block _ (by omega) (by omega)).trans rz7
  have HO8 : Hid (Onl b w w8) := HO7.out.trans hO8
  clear k7 hO8 rz7 HO7
  clear h1 kr
  obtain ⟨V, rfl, h10, hon⟩ := hL8.agg
  have hL0 : LiesE (put w8 w.heap.size V) (fun k => w7.heap.size ≤ k) _ X.1 (.agg V) := hL8.since (Since.put (by omega) _ _)
  have hP0 : Ps (put w8 w.heap.size V) b p c ws X.2 := hP8.put lb hold V
  have hO0 := HO8.out.put w.heap.size (Nat.le_refl _) V
  have r0 := put_row V rz8 h10
  have hsp := put_size w8 w.heap.size V
  have HF : Hid (w8.heap[w.heap.size]? = some (.cells zero10 28 (0, 0)) ∧ V.size = 10 ∧ V.all (·.oneCell') = true) := ⟨rz8, h10, hon⟩
  obtain ⟨w0, hw0⟩ : ∃ w0, put w8 w.heap.size V = w0 := ⟨_, rfl⟩
  rw [hw0] at hL0 hP0 hO0 r0 hsp
  have H0 : Hid (LiesE w0 (fun k => w7.heap.size ≤ k) _ X.1 (.agg V) ∧ Ps w0 b p c ws X.2 ∧ Onl b w w0 ∧ w0.heap[w.heap.size]? = some (.cells V 28 (0, 0))) := ⟨hL0, hP0, hO0, r0⟩
  clear hL8 hP8 HO8 rz8 h10 hon hL0 hP0 hO0 r0
  go_wp2_with (first | (refine wpList_put rfl 28 (.tmp 2) (.tmp 40) rfl rfl rfl rfl HF.out.1 HF.out.2.1 (i28 HF.out.2.1) HF.out.2.2 ?_; rw [hw0]) | fail)
  obtain ⟨hL0, hP0, hO0, r0⟩ := H0.out
  refine leaves_cons (f := 163) (args := #[.pointer (some ⟨b, 0, none⟩)]) (by simp) (by simp [go_sem]) ?_
  refine (back_d hP0 (by omega) (by omega) .returning).mono ?_
  rintro e u' w9 ⟨rfl, rfl, hP9, hO9⟩
  have r9 := (hO9.block _ (by omega) (by omega)).trans r0
  exact ⟨_, results_cell_row Tryz.results132 _ _ w.heap.size 28 _ (0, 0) _ rfl r9 Tryz.underlying28 rfl (i28 HF.out.2.1), _, .agg V, rfl, (hL0.since (Since.onl hO9 (by omega))).imp fun k hk _ => by omega, hP9, hO0.trans hO9⟩
set_option maxRecDepth 100000 in
set_option maxHeartbeats 8000000 in
theorem strongest_literal {w : World} {b : Nat} {p : Option Addr} {c : Nat} {ws : List Wd} {s : PS} (H : Ps w b p c ws s) (hz : Wz ws) (hne : s.ne ≤ 100) (hex : s.ex ≤ 600000) (go : Nat → PS → Et × PS) (hl : Wl ws) (hgo : ∀ r u, u.at' < ws.length → Pk 0 0 ws u (go r u).2) (hkn : ¬ (wAt ws (deepP ws s).at').k = 1) (n45 : isP (wAt ws (deepP ws s).at') 6 [45] = false) (n40 : isP (wAt ws (deepP ws s).at') 6 [40] = false) (n91 : isP (wAt ws (deepP ws s).at') 6 [91] = false) (n123 : isP (wAt ws (deepP ws s).at') 6 [123] = false) :
    Calls Tryz.prog 132 #[.pointer (some ⟨b, 0, none⟩)] w (Gives ws (fun k => w.heap.size ≤ k) w b p c (strF ws go s)) := by
  have hold := H.old
  have lb := lt_of_row H.row
  have few := H.few
  obtain ⟨w1, hw1⟩ : ∃ w1, w.alloc (.cells #[.int .i64 0, .string ⟨#[]⟩, .int .i64 0, .bool false, .int .i64 0, .string ⟨#[]⟩, .slice none 0 0, .slice none 0 0, .slice none 0 0, .slice none 0 0] 28) = w1 := ⟨_, rfl⟩
  have hb1 : Below w.heap.size w w1 := by rw [← hw1]; exact (Below.refl _ w).alloc (Nat.le_refl _) _
  have hs1 : w1.heap.size = w.heap.size + 1 := by rw [← hw1]; simp
  have rz1 : w1.heap[w.heap.size]? = some (.cells zero10 28 (0, 0)) := by rw [← hw1]; exact heap_alloc_new _ _
  have kd := deeper_any (H.later hb1) (by omega)
  have hne1 := deepP_ne ws s
  have hex1 := deepP_ex ws s
  have htl := (Pk.refl (ws := ws) H.lt).deep.lt
  obtain ⟨t, ht⟩ : ∃ t, deepP ws s = t := ⟨_, rfl⟩
  rw [ht] at kd hkn n45 n40 n91 n123 hne1 hex1 htl
  unfold strF
  rw [ht]
  have HH : Hid (Below w.heap.size w w1) := hb1
  clear H hb1 ht
  have hS : strB ws go t = litF ws t := by unfold strB; rw [if_neg hkn, if_neg (by rw [n45]; exact Bool.false_ne_true), if_neg (by rw [n40]; exact Bool.false_ne_true), if_neg (by rw [n91]; exact Bool.false_ne_true), if_neg (by rw [n123]; exact Bool.false_ne_true)]
  have hpk := (Pk.refl (ws := ws) htl).str hz hgo
  have hnn := hpk.ne
  rw [hS] at hnn ⊢
  clear hpk hS
  have kr := fun W (hP : Ps W b p c ws t) => literal_any hP hz (by omega) (hl t.at').1 (hl t.at').2
  obtain ⟨X, hX⟩ : ∃ X, litF ws t = X := ⟨_, rfl⟩
  rw [hX] at kr hnn ⊢
  clear hX hgo
  go_enter_defers Tryz.func132, Tryz.ntmps132
  go_wp2_with fail
  refine kd.mono ?_
  rintro q w2 ⟨rfl, hP2, hO2⟩
  have s2 := hO2.size
  have rz2 := (hO2.block _ (by omega) (by omega)).trans rz1
  have kw := word_any hP2
  unfold wdV at kw
  have HP2 : Hid (Ps w2 b p c ws t ∧ Onl b w1 w2) := ⟨hP2, hO2⟩
  clear kd hP2 hO2 rz1 hw1
  have hk' : ¬ ((wAt ws t.at').k : Int) = 1 := by omega
  generalize ((wAt ws t.at').k : Int) = kk at kw hk'
  go_wp2_with fail
  refine kw.mono ?_
  rintro q w3 ⟨rfl, hb3⟩
  have s3 := hb3.size
  have rz3 := (hb3.block _ (by omega)).trans rz2
  have hP3 := HP2.out.1.later hb3
  have HO3 : Hid (Onl b w w3) := ((Onl.of HH.out).trans HP2.out.2).trans (Onl.of hb3)
  clear kw hb3 rz2 HP2
  have k3 := tookSign_no hP3 hz [45] n45
  have HP3 : Hid True := trivial
  clear hP3 HP3
  go_wp2_with fail
  refine k3.mono ?_
  rintro q w4 ⟨rfl, hP4, hO4⟩
  have s4 := hO4.size
  have rz4 := (hO4.block _ (by omega) (by omega)).trans rz3
  have HO4 : Hid (Onl b w w4) := HO3.out.trans hO4
  clear k3 hO4 rz3 HO3
  have k4 := tookSign_no hP4 hz [40] n40
  have HP4 : Hid True := trivial
  clear hP4 HP4
  go_wp2_with fail
  refine k4.mono ?_
  rintro q w5 ⟨rfl, hP5, hO5⟩
  have s5 := hO5.size
  have rz5 := (hO5.block _ (by omega) (by omega)).trans rz4
  have HO5 : Hid (Onl b w w5) := HO4.out.trans hO5
  clear k4 hO5 rz4 HO4
  have k5 := tookSign_no hP5 hz [91] n91
  have HP5 : Hid True := trivial
  clear hP5 HP5
  go_wp2_with fail
  refine k5.mono ?_
  rintro q w6 ⟨rfl, hP6, hO6⟩
  have s6 := hO6.size
  have rz6 := (hO6.block _ (by omega) (by omega)).trans rz5
  have HO6 : Hid (Onl b w w6) := HO5.out.trans hO6
  clear k5 hO6 rz5 HO5
  have k6 := tookSign_no hP6 hz [123] n123
  have HP6 : Hid True := trivial
  clear hP6 HP6
  go_wp2_with fail
  refine k6.mono ?_
  rintro q w7 ⟨rfl, hP7, hO7⟩
  have s7 := hO7.size
  have rz7 := (hO7.block _ (by omega) (by omega)).trans rz6
  have HO7 : Hid (Onl b w w7) := HO6.out.trans hO7
  clear k6 hO7 rz6 HO6
  have k7 := kr w7 hP7
  clear hP7
  go_wp2_with fail
  refine k7.mono ?_
  rintro q w8 ⟨d8, v8, rfl, hL8, hP8, hO8⟩
  have s8 := hO8.size
  have rz8 := (hO8.block _ (by omega) (by omega)).trans rz7
  have HO8 : Hid (Onl b w w8) := HO7.out.trans hO8
  clear k7 hO8 rz7 HO7
  clear kr
  obtain ⟨V, rfl, h10, hon⟩ := hL8.agg
  have hL0 : LiesE (put w8 w.heap.size V) (fun k => w7.heap.size ≤ k) _ X.1 (.agg V) := hL8.since (Since.put (by omega) _ _)
  have hP0 : Ps (put w8 w.heap.size V) b p c ws X.2 := hP8.put lb hold V
  have hO0 := HO8.out.put w.heap.size (Nat.le_refl _) V
  have r0 := put_row V rz8 h10
  have hsp := put_size w8 w.heap.size V
  have HF : Hid (w8.heap[w.heap.size]? = some (.cells zero10 28 (0, 0)) ∧ V.size = 10 ∧ V.all (·.oneCell') = true) := ⟨rz8, h10, hon⟩
  obtain ⟨w0, hw0⟩ : ∃ w0, put w8 w.heap.size V = w0 := ⟨_, rfl⟩
  rw [hw0] at hL0 hP0 hO0 r0 hsp
  have H0 : Hid (LiesE w0 (fun k => w7.heap.size ≤ k) _ X.1 (.agg V) ∧ Ps w0 b p c ws X.2 ∧ Onl b w w0 ∧ w0.heap[w.heap.size]? = some (.cells V 28 (0, 0))) := ⟨hL0, hP0, hO0, r0⟩
  clear hL8 hP8 HO8 rz8 h10 hon hL0 hP0 hO0 r0
  go_wp2_with (first | (refine wpList_put rfl 28 (.tmp 2) (.tmp 42) rfl rfl rfl rfl HF.out.1 HF.out.2.1 (i28 HF.out.2.1) HF.out.2.2 ?_; rw [hw0]) | fail)
  obtain ⟨hL0, hP0, hO0, r0⟩ := H0.out
  refine leaves_cons (f := 163) (args := #[.pointer (some ⟨b, 0, none⟩)]) (by simp) (by simp [go_sem]) ?_
  refine (back_d hP0 (by omega) (by omega) .returning).mono ?_
  rintro e u' w9 ⟨rfl, rfl, hP9, hO9⟩
  have r9 := (hO9.block _ (by omega) (by omega)).trans r0
  exact ⟨_, results_cell_row Tryz.results132 _ _ w.heap.size 28 _ (0, 0) _ rfl r9 Tryz.underlying28 rfl (i28 HF.out.2.1), _, .agg V, rfl, (hL0.since (Since.onl hO9 (by omega))).imp fun k hk _ => by omega, hP9, hO0.trans hO9⟩
end Go.Proofs.YtcniebkehekliaaGreatDoor
