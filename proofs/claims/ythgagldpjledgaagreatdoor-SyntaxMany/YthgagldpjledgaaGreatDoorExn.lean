/- An expression of any strength (expression); a name, a sign and an expression (named, part, assignment). -/
import Derived.Test.YthgagldpjledgaaGreatDoorCmx
namespace Go.Proofs.YthgagldpjledgaaGreatDoor
open Go.RowKit Go.Shelf
attribute [local go_sem] Oper.semAt_some fw0 fw1 fw2
def zero11 : Array Value := #[.string ⟨#[]⟩, .int .i64 0, .string ⟨#[]⟩, .int .i64 0, .bool false, .int .i64 0, .string ⟨#[]⟩, .slice none 0 0, .slice none 0 0, .slice none 0 0, .slice none 0 0]
theorem i98 {V : Array Value} (h : V.size = 11) : (Tryz.prog.info? 98).map (·.size) = some V.size := info98.trans (congrArg some h.symm)
set_option maxRecDepth 100000 in
set_option maxHeartbeats 8000000 in
theorem expression_any {w : World} {b : Nat} {p : Option Addr} {c : Nat} {ws : List Wd} {s : PS} (H : Ps w b p c ws s) (X : Et × PS)
    (kb : ∀ W, Ps W b p c ws s → Calls Tryz.prog 92 #[.pointer (some ⟨b, 0, none⟩), .int .i64 0] W (Gives ws (fun k => W.heap.size ≤ k) W b p c X)) :
    Calls Tryz.prog 64 #[.pointer (some ⟨b, 0, none⟩)] w (Gives ws (fun k => w.heap.size ≤ k) w b p c X) := by
  have hold := H.old
  have lb := lt_of_row H.row
  obtain ⟨w1, hw1⟩ : ∃ w1, w.alloc (.cells #[.int .i64 0, .string ⟨#[]⟩, .int .i64 0, .bool false, .int .i64 0, .string ⟨#[]⟩, .slice none 0 0, .slice none 0 0, .slice none 0 0, .slice none 0 0] 28) = w1 := ⟨_, rfl⟩
  have hb1 : Below w.heap.size w w1 := by rw [← hw1]; exact (Below.refl _ w).alloc (Nat.le_refl _) _
  have hs1 : w1.heap.size = w.heap.size + 1 := by rw [← hw1]; simp
  have rz1 : w1.heap[w.heap.size]? = some (.cells zero10 28 (0, 0)) := by rw [← hw1]; exact heap_alloc_new _ _
  have k1 := kb w1 (H.later hb1)
  have HB : Hid (Below w.heap.size w w1) := hb1
  clear H hb1 kb
  go_enter Tryz.func64, Tryz.ntmps64
  go_wp2_with fail
  refine k1.mono ?_
  rintro q w6 ⟨d6, v6, rfl, hL6, hP6, hO6⟩
  have s6 := hO6.size
  have rz6 := (hO6.block _ (by omega) (by omega)).trans rz1
  obtain ⟨V, rfl, h10, hon⟩ := hL6.agg
  have H6 : Hid (LiesE w6 (fun k => w1.heap.size ≤ k) d6 X.1 (.agg V) ∧ Ps w6 b p c ws X.2 ∧ Onl b w1 w6 ∧ w6.heap[w.heap.size]? = some (.cells zero10 28 (0, 0)) ∧ V.size = 10 ∧ V.all (·.oneCell') = true) := ⟨hL6, hP6, hO6, rz6, h10, hon⟩
  clear k1 hL6 hP6 hO6 rz6 rz1 hw1 h10 hon
  go_wp2_with (refine wpList_put rfl 28 (.tmp 2) (.tmp 4) rfl rfl rfl rfl H6.out.2.2.2.1 H6.out.2.2.2.2.1 (i28 H6.out.2.2.2.2.1) H6.out.2.2.2.2.2 ?_)
  obtain ⟨hL6, hP6, hO6, rz6, h10, hon⟩ := H6.out
  refine bodyPost_ret (results_cell_row Tryz.results64 _ _ w.heap.size 28 _ (0, 0) _ rfl (put_row V rz6 h10) Tryz.underlying28 rfl (i28 h10)) rfl ⟨d6, .agg V, rfl, ?_, hP6.put lb hold V, ?_⟩
  · exact (hL6.since (Since.put (by omega) w6 _)).imp fun k hk _ => by omega
  · exact ((Onl.of HB.out).trans hO6).put _ (Nat.le_refl _) _
/- What a function of a name and its expression answers. -/
def GivesF (ws : List Wd) (w : World) (b : Nat) (p : Option Addr) (c : Nat) (x : (ByteArray × Et) × PS) (r : Ending) (w' : World) : Prop :=
  ∃ v d, r = .returned v ∧ v = .agg d.toArray ∧ EFld w' (fun k => w.heap.size ≤ k) x.1 d ∧ Ps w' b p c ws x.2 ∧ Onl b w w'
set_option maxRecDepth 100000 in
set_option maxHeartbeats 8000000 in
theorem named_any {w : World} {b : Nat} {p : Option Addr} {c : Nat} {ws : List Wd} {s : PS} (H : Ps w b p c ws s) (hz : Wz ws) (l : List UInt8) (F : PS → Et × PS)
    (kb : ∀ W, Ps W b p c ws (mustQ ws (nameP ws s) 6 l) → Calls Tryz.prog 64 #[.pointer (some ⟨b, 0, none⟩)] W (Gives ws (fun k => W.heap.size ≤ k) W b p c (F (mustQ ws (nameP ws s) 6 l)))) :
    Calls Tryz.prog 94 #[.pointer (some ⟨b, 0, none⟩), .string ⟨l.toArray⟩] w (GivesF ws w b p c (namedF ws F l s)) := by
  have hold := H.old
  have lb := lt_of_row H.row
  obtain ⟨w1, hw1⟩ : ∃ w1, w.alloc (.cells #[.string ⟨#[]⟩, .int .i64 0, .string ⟨#[]⟩, .int .i64 0, .bool false, .int .i64 0, .string ⟨#[]⟩, .slice none 0 0, .slice none 0 0, .slice none 0 0, .slice none 0 0] 98) = w1 := ⟨_, rfl⟩
  have hb1 : Below w.heap.size w w1 := by rw [← hw1]; exact (Below.refl _ w).alloc (Nat.le_refl _) _
  have hs1 : w1.heap.size = w.heap.size + 1 := by rw [← hw1]; simp
  have rz1 : w1.heap[w.heap.size]? = some (.cells zero11 98 (0, 0)) := by rw [← hw1]; exact heap_alloc_new _ _
  unfold namedF
  have k1 := pname_any (H.later hb1) hz
  obtain ⟨X, hX⟩ : ∃ X, F (mustQ ws (nameP ws s) 6 l) = X := ⟨_, rfl⟩
  rw [hX] at kb ⊢
  obtain ⟨x, hx⟩ : ∃ x, nameS ws s = x := ⟨_, rfl⟩
  rw [hx] at k1 ⊢
  have HB : Hid (Below w.heap.size w w1) := hb1
  have HM : Hid (mustP ws (nameP ws s) 6 ⟨l.toArray⟩ = mustQ ws (nameP ws s) 6 l) := mustP_mustQ _ _ _ _
  obtain ⟨bt, hbt⟩ : ∃ bt : ByteArray, ⟨l.toArray⟩ = bt := ⟨_, rfl⟩
  rw [hbt] at HM ⊢
  clear H hb1 hX hx hbt
  go_enter Tryz.func94, Tryz.ntmps94
  go_wp2_with fail
  refine k1.mono ?_
  rintro q w2 ⟨rfl, hP2, hO2⟩
  have s2 := hO2.size
  have rz2 := (hO2.block _ (by omega) (by omega)).trans rz1
  have k2 := psign_any hP2 hz bt
  rw [HM.out] at k2
  have HO2 : Hid (Onl b w1 w2) := hO2
  clear k1 hP2 hO2 rz1 hw1
  go_wp2_with fail
  refine k2.mono ?_
  rintro q w3 ⟨rfl, hP3, hO3⟩
  have s3 := hO3.size
  have rz3 := (hO3.block _ (by omega) (by omega)).trans rz2
  have k3 := kb w3 hP3
  have HO3 : Hid (Onl b w2 w3) := hO3
  clear k2 hP3 hO3 rz2 kb
  go_wp2_with fail
  refine k3.mono ?_
  rintro q w6 ⟨d6, v6, rfl, hL6, hP6, hO6⟩
  have s6 := hO6.size
  have rz6 := (hO6.block _ (by omega) (by omega)).trans rz3
  obtain ⟨R, rfl⟩ := hL6.row
  have H6 : Hid (LiesE w6 (fun k => w3.heap.size ≤ k) d6 X.1 (rowX R) ∧ Ps w6 b p c ws X.2 ∧ Onl b w3 w6 ∧ w6.heap[w.heap.size]? = some (.cells zero11 98 (0, 0))) := ⟨hL6, hP6, hO6, rz6⟩
  clear k3 hL6 hP6 hO6 rz6 rz3 HM
  unfold rowX
  go_wp2_with (refine wpList_put rfl 98 (.tmp 4) (.tmp 14) rfl rfl rfl rfl H6.out.2.2.2 rfl info98 (by simp [Value.oneCell']) ?_)
  obtain ⟨hL6, hP6, hO6, rz6⟩ := H6.out
  refine bodyPost_ret (results_cell_row Tryz.results94 _ _ w.heap.size 98 _ (0, 0) _ rfl (put_row _ rz6 rfl) Tryz.underlying98 rfl info98) rfl ⟨_, [.string x, .int .i64 R.k, .string R.s, .int .i64 R.vk, .bool R.vb, .int .i64 R.vn, .string R.vs, .slice none 0 0, .slice none 0 0, .slice R.kp R.n R.kc, .slice R.np R.m R.nc], rfl, rfl, ?_, hP6.put lb hold _, ?_⟩
  · exact ⟨_, rfl, d6, (hL6.since (Since.put (by omega) w6 _)).imp fun k hk _ => by omega⟩
  · exact ((((Onl.of HB.out).trans HO2.out).trans HO3.out).trans hO6).put _ (Nat.le_refl _) _
set_option maxRecDepth 100000 in
set_option maxHeartbeats 8000000 in
theorem part_any {w : World} {b : Nat} {p : Option Addr} {c : Nat} {ws : List Wd} {s : PS} (H : Ps w b p c ws s) (X : (ByteArray × Et) × PS)
    (kb : ∀ W, Ps W b p c ws s → Calls Tryz.prog 94 #[.pointer (some ⟨b, 0, none⟩), .string ⟨#[58]⟩] W (GivesF ws W b p c X)) :
    Calls Tryz.prog 152 #[.pointer (some ⟨b, 0, none⟩)] w (GivesF ws w b p c X) := by
  have hold := H.old
  have lb := lt_of_row H.row
  obtain ⟨w1, hw1⟩ : ∃ w1, w.alloc (.cells #[.string ⟨#[]⟩, .int .i64 0, .string ⟨#[]⟩, .int .i64 0, .bool false, .int .i64 0, .string ⟨#[]⟩, .slice none 0 0, .slice none 0 0, .slice none 0 0, .slice none 0 0] 98) = w1 := ⟨_, rfl⟩
  have hb1 : Below w.heap.size w w1 := by rw [← hw1]; exact (Below.refl _ w).alloc (Nat.le_refl _) _
  have hs1 : w1.heap.size = w.heap.size + 1 := by rw [← hw1]; simp
  have rz1 : w1.heap[w.heap.size]? = some (.cells zero11 98 (0, 0)) := by rw [← hw1]; exact heap_alloc_new _ _
  have k1 := kb w1 (H.later hb1)
  have HB : Hid (Below w.heap.size w w1) := hb1
  clear H hb1 kb
  go_enter Tryz.func152, Tryz.ntmps152
  go_wp2_with fail
  refine k1.mono ?_
  rintro q w6 ⟨v6, d6, rfl, hv6, hE6, hP6, hO6⟩
  have s6 := hO6.size
  have rz6 := (hO6.block _ (by omega) (by omega)).trans rz1
  have h11 := eFld.len hE6
  have hon : d6.toArray.all (·.oneCell') = true := all_oneCell_toArray (eFld.ones hE6)
  subst hv6
  obtain ⟨V, hV⟩ : ∃ V, d6.toArray = V := ⟨_, rfl⟩
  have h11' : V.size = 11 := by rw [← hV]; simpa using h11
  rw [hV] at hon ⊢
  have H6 : Hid (EFld w6 (fun k => w1.heap.size ≤ k) X.1 d6 ∧ Ps w6 b p c ws X.2 ∧ Onl b w1 w6 ∧ w6.heap[w.heap.size]? = some (.cells zero11 98 (0, 0)) ∧ V.size = 11 ∧ V.all (·.oneCell') = true ∧ d6.toArray = V) := ⟨hE6, hP6, hO6, rz6, h11', hon, hV⟩
  clear k1 hE6 hP6 hO6 rz6 rz1 hw1 h11 h11' hon hV
  go_wp2_with (refine wpList_put rfl 98 (.tmp 2) (.tmp 4) rfl rfl rfl rfl H6.out.2.2.2.1 H6.out.2.2.2.2.1 (i98 H6.out.2.2.2.2.1) H6.out.2.2.2.2.2.1 ?_)
  obtain ⟨hE6, hP6, hO6, rz6, h11, hon, hV⟩ := H6.out
  refine bodyPost_ret (results_cell_row Tryz.results152 _ _ w.heap.size 98 _ (0, 0) _ rfl (put_row V rz6 h11) Tryz.underlying98 rfl (i98 h11)) rfl ⟨.agg V, d6, rfl, by rw [hV], ?_, hP6.put lb hold V, ?_⟩
  · exact eFld.imp (fun k hk _ => by omega) (eFld.since hE6 (Since.put (by omega) w6 V))
  · exact ((Onl.of HB.out).trans hO6).put _ (Nat.le_refl _) _
set_option maxRecDepth 100000 in
set_option maxHeartbeats 8000000 in
theorem assignment_any {w : World} {b : Nat} {p : Option Addr} {c : Nat} {ws : List Wd} {s : PS} (H : Ps w b p c ws s) (X : (ByteArray × Et) × PS)
    (kb : ∀ W, Ps W b p c ws s → Calls Tryz.prog 94 #[.pointer (some ⟨b, 0, none⟩), .string ⟨#[61]⟩] W (GivesF ws W b p c X)) :
    Calls Tryz.prog 67 #[.pointer (some ⟨b, 0, none⟩)] w (GivesF ws w b p c X) := by
  have hold := H.old
  have lb := lt_of_row H.row
  obtain ⟨w1, hw1⟩ : ∃ w1, w.alloc (.cells #[.string ⟨#[]⟩, .int .i64 0, .string ⟨#[]⟩, .int .i64 0, .bool false, .int .i64 0, .string ⟨#[]⟩, .slice none 0 0, .slice none 0 0, .slice none 0 0, .slice none 0 0] 98) = w1 := ⟨_, rfl⟩
  have hb1 : Below w.heap.size w w1 := by rw [← hw1]; exact (Below.refl _ w).alloc (Nat.le_refl _) _
  have hs1 : w1.heap.size = w.heap.size + 1 := by rw [← hw1]; simp
  have rz1 : w1.heap[w.heap.size]? = some (.cells zero11 98 (0, 0)) := by rw [← hw1]; exact heap_alloc_new _ _
  have k1 := kb w1 (H.later hb1)
  have HB : Hid (Below w.heap.size w w1) := hb1
  clear H hb1 kb
  go_enter Tryz.func67, Tryz.ntmps67
  go_wp2_with fail
  refine k1.mono ?_
  rintro q w6 ⟨v6, d6, rfl, hv6, hE6, hP6, hO6⟩
  have s6 := hO6.size
  have rz6 := (hO6.block _ (by omega) (by omega)).trans rz1
  have h11 := eFld.len hE6
  have hon : d6.toArray.all (·.oneCell') = true := all_oneCell_toArray (eFld.ones hE6)
  subst hv6
  obtain ⟨V, hV⟩ : ∃ V, d6.toArray = V := ⟨_, rfl⟩
  have h11' : V.size = 11 := by rw [← hV]; simpa using h11
  rw [hV] at hon ⊢
  have H6 : Hid (EFld w6 (fun k => w1.heap.size ≤ k) X.1 d6 ∧ Ps w6 b p c ws X.2 ∧ Onl b w1 w6 ∧ w6.heap[w.heap.size]? = some (.cells zero11 98 (0, 0)) ∧ V.size = 11 ∧ V.all (·.oneCell') = true ∧ d6.toArray = V) := ⟨hE6, hP6, hO6, rz6, h11', hon, hV⟩
  clear k1 hE6 hP6 hO6 rz6 rz1 hw1 h11 h11' hon hV
  go_wp2_with (refine wpList_put rfl 98 (.tmp 2) (.tmp 4) rfl rfl rfl rfl H6.out.2.2.2.1 H6.out.2.2.2.2.1 (i98 H6.out.2.2.2.2.1) H6.out.2.2.2.2.2.1 ?_)
  obtain ⟨hE6, hP6, hO6, rz6, h11, hon, hV⟩ := H6.out
  refine bodyPost_ret (results_cell_row Tryz.results67 _ _ w.heap.size 98 _ (0, 0) _ rfl (put_row V rz6 h11) Tryz.underlying98 rfl (i98 h11)) rfl ⟨.agg V, d6, rfl, by rw [hV], ?_, hP6.put lb hold V, ?_⟩
  · exact eFld.imp (fun k hk _ => by omega) (eFld.since hE6 (Since.put (by omega) w6 V))
  · exact ((Onl.of HB.out).trans hO6).put _ (Nat.le_refl _) _
end Go.Proofs.YthgagldpjledgaaGreatDoor
