/- The law BtreeNone as a walk: of any two texts the call returns true, and nothing that was there has changed. -/
import Derived.Test.YtiplmlalhmldbaaAwk
namespace Go.Proofs.Ytiplmlalhmldbaa
open Go.RowKit Go.Shelf
attribute [local go_sem] Oper.semAt_some
set_option maxHeartbeats 1000000 in
theorem nget (k : ByteArray) (w : World) : Calls Try.prog 12 #[.pointer none, .string k] w fun e w' => e = .returned (.tuple #[.string ⟨#[]⟩, .bool false]) ∧ w' = w := by
  go_enter Try.func12, Try.ntmps12
  go_wp2
  exact bodyPost_ret (results_tmp2 rfl _ _ _) rfl ⟨rfl, rfl⟩
set_option maxHeartbeats 1000000 in
theorem nput (k v : ByteArray) (w : World) : Calls Try.prog 14 #[.pointer none, .string k, .string v] w fun e w' => e = .returned (.bool false) ∧ w' = w := by
  go_enter Try.func14, Try.ntmps14
  go_wp2
  go_ret
  exact ⟨rfl, rfl⟩
set_option maxHeartbeats 1000000 in
theorem ndrop (k : ByteArray) (w : World) : Calls Try.prog 10 #[.pointer none, .string k] w fun e w' => e = .returned (.bool false) ∧ w' = w := by
  go_enter Try.func10, Try.ntmps10
  go_wp2_with fail
  refine (nget k _).mono ?_
  rintro e w1 ⟨rfl, rfl⟩
  go_wp2
  go_ret
  exact ⟨rfl, rfl⟩
set_option maxHeartbeats 1000000 in
theorem nlen (w : World) : Calls Try.prog 15 #[.pointer none] w fun e w' => e = .returned (.int .i64 0) ∧ w' = w := by
  go_enter Try.func15, Try.ntmps15
  go_wp2
  go_ret
  exact ⟨rfl, rfl⟩
set_option maxHeartbeats 1000000 in
theorem ndeep (w : World) : Calls Try.prog 16 #[.pointer none] w fun e w' => e = .returned (.int .i64 0) ∧ w' = w := by
  go_enter Try.func16, Try.ntmps16
  go_wp2
  go_ret
  exact ⟨rfl, rfl⟩
set_option maxRecDepth 100000 in
set_option maxHeartbeats 4000000 in
theorem none_walk (k v : ByteArray) (w : World) : Calls Try.prog 6 #[.string k, .string v] w fun e w' => e = .returned (.bool true) ∧ Below w.heap.size w w' := by
  refine (callsIn_wide (n := 0)).1 ?_
  refine callsIn_of_wp_marks Try.func6 rfl trivial ?_ rfl
  simp only [Try.ntmps6, List.size_toArray, List.length_cons, List.length_nil, Nat.reduceAdd, Nat.reduceSub, Array.replicate_succ, Array.replicate_zero, List.push_toArray, List.append_toArray, List.nil_append, List.cons_append]
  gi_wp2_with fail
  refine ⟨trivial, rfl, ?_⟩
  refine (callsIn_wide.2 (awake_any _)).mono ?_
  rintro e w1 ⟨rfl, hb1⟩
  gi_wp2_with fail
  refine ⟨trivial, rfl, ?_⟩
  refine (callsIn_wide.2 (nget k _)).mono ?_
  rintro e w2 ⟨rfl, hw2⟩
  have hw2' := hw2.symm
  subst hw2'
  clear hw2
  gi_wp2_with fail
  refine ⟨trivial, rfl, ?_⟩
  refine (callsIn_wide.2 (range_nil ⟨#[]⟩ ⟨#[]⟩ _)).mono ?_
  rintro e w3 ⟨bn, bs, rfl, hbn, hbs, rn, rs, hb3⟩
  have hs3 := hb3.size
  rw [World.size_alloc] at hs3 hbn hbs hb3
  have bl0 : Below w1.heap.size w1 (w1.alloc (.cells #[.int .i64 0] 3)) := (Below.refl _ w1).alloc (Nat.le_refl _) _
  have b3 : Below w.heap.size w w3 := (hb1.trans (bl0.mono hb1.size)).trans (hb3.mono (Nat.le_trans hb1.size (Nat.le_succ _)))
  have r3 : w3.heap[w1.heap.size]? = some (.cells #[.int .i64 0] 3 (0, 0)) := (hb3.block _ (Nat.lt_succ_self _)).trans (heap_alloc_new _ _)
  have ltn := lt_of_row rn
  have lts := lt_of_row rs
  have sq := span0_seq [] ris0 (by decide) ⟨#[]⟩ ⟨#[]⟩ none 0 none 0 bn bs w w3 (Sl.nil w) b3 rn rs
  have e0 : spanL [] ⟨#[]⟩ ⟨#[]⟩ (posK [] ⟨#[]⟩) = [] := rfl
  rw [e0] at sq
  have sz1 := hb1.size
  gi_wp2
  refine range_b (gf := 38) (lb := #[.pointer (some ⟨bn, 0, none⟩), .pointer (some ⟨bs, 0, none⟩)]) rfl (enters_of Try.func38 (by kernel_rfl) rfl) sq (fun _ => rfl) (fun k => k = w1.heap.size)
    (fun k hk => ⟨by omega, by omega⟩) (fun k hk => by omega)
    (fun _ W => W.heap[w1.heap.size]? = some (.cells #[.int .i64 0] 3 (0, 0)) ∧ Below w.heap.size w W)
    (fun _ _ _ => False)
    (fun s U V ⟨h0, h1⟩ hb => ⟨(hb.block _ (by omega)).trans h0, h1.trans (hb.mono (by omega))⟩)
    (fun _ _ _ _ h _ => h) ⟨r3, b3⟩ (fun x => { tmps := Array.foldl (fun t (p, v) => t.setIfInBounds p v) #[Value.string k, Value.string v, undef, undef, Value.bool false, Value.pointer none, Value.string ⟨#[]⟩, Value.bool false, Value.pointer (some ⟨w1.heap.size, 0, none⟩), Value.bool true, Value.bool false, Value.tuple #[Value.string ⟨#[]⟩, Value.bool false], Value.pointer none, Value.string k, Value.tuple #[Value.string ⟨#[]⟩, Value.bool false], Value.string ⟨#[]⟩, Value.bool false, Value.pointer none, Value.agg #[Value.string ⟨#[]⟩, Value.string ⟨#[]⟩], Value.func (Fn.func 38) #[] #[Value.pointer (some ⟨bn, 0, none⟩), Value.pointer (some ⟨bs, 0, none⟩)], undef, undef, undef, undef, undef, undef, undef, undef, undef, undef, undef, undef, undef, undef, undef, undef, undef, undef, undef, undef, undef, undef, undef, undef, undef, undef, undef, undef, undef, undef, undef, undef, undef] (#[20, 21].zip #[Value.string x.1, Value.string x.2]), defers := [] }) ?assign ?body ?done ?stop
  case assign =>
    intro l x W K hK
    exact wpIn_skip hK
  case body =>
    rintro l pre x W _ hp
    exact absurd (List.prefix_nil.1 hp) (by simp)
  case done =>
    rintro W ⟨h0, h1⟩ hkc hD
    have c0 := cell_of_row W _ 0 _ _ _ h0
    gi_wp2_with fail
    refine ⟨trivial, rfl, ?_⟩
    refine (callsIn_wide.2 (nput k v _)).mono ?_
    rintro e w4 ⟨rfl, hw⟩
    have hw' := hw.symm
    subst hw'
    clear hw
    gi_wp2_with fail
    refine ⟨trivial, rfl, ?_⟩
    refine (callsIn_wide.2 (ndrop k _)).mono ?_
    rintro e w4 ⟨rfl, hw⟩
    have hw' := hw.symm
    subst hw'
    clear hw
    gi_wp2_with fail
    refine ⟨trivial, rfl, ?_⟩
    refine (callsIn_wide.2 (nlen _)).mono ?_
    rintro e w4 ⟨rfl, hw⟩
    have hw' := hw.symm
    subst hw'
    clear hw
    gi_wp2_with fail
    refine ⟨trivial, rfl, ?_⟩
    refine (callsIn_wide.2 (ndeep _)).mono ?_
    rintro e w4 ⟨rfl, hw⟩
    have hw' := hw.symm
    subst hw'
    clear hw
    gi_wp2
    refine ⟨by simp, .inl ⟨_, _, rfl, run_takeDeferred hD, ?_⟩⟩
    exact ⟨_, results_tmp rfl _ _ _, rfl, h1.trans (putObj_below _ _ (by omega))⟩
  case stop =>
    rintro c pre W _ h
    exact h.elim
end Go.Proofs.Ytiplmlalhmldbaa
