/- slices.Clone of revisions and own, called. -/
import Derived.Test.YtaocbkloafhmeaaDoorOwn2
namespace Go.Proofs.YtaocbkloafhmeaaDoor
open Go.RowKit
theorem eql_slice (w : World) (a : Option Addr) (l c : Nat) : (binOp .eql 36 (.slice a l c) (.slice none 0 0)).run Tryd.prog w = .ok (.bool a.isNone) w := by
  simp [binOp, run_equal_slice_nil w 36 24 a l c Tryd.underlying36, Result.andThen]
theorem info24r : (Tryd.prog.info? 24).map (fun i => (i.zero, i.size, i.bytes)) = some (some (.agg #[.int .i64 0, .string ⟨#[]⟩, .string ⟨#[]⟩, .int .u64 0, .int .u64 0, .string ⟨#[]⟩, .string ⟨#[]⟩, .bool false]), 8, 96) := by kernel_rfl
theorem append_none (W : World) (g c : Nat) (a : Addr) : (Builtin.append_ #[36, 36] 36 #[.slice (some ⟨g, 0, none⟩) 0 0, .slice (some a) 0 c]).run Tryd.prog W = .ok (.slice (some ⟨g, 0, none⟩) 0 0) W := by
  simp [Builtin.append_, go_sem, Builtin.lenOf, Builtin.firstCells]
set_option maxRecDepth 100000 in
set_option maxHeartbeats 1000000 in
theorem clone_0 (a : Addr) (c : Nat) (w : World) : Calls Tryd.prog 89 #[.slice (some a) 0 c] w fun e w' => e = .returned (.slice (some ⟨w.heap.size, 0, none⟩) 0 0) ∧ Below w.heap.size w w' := by
  have heq := eql_slice w (some a) 0 c
  have hap := append_none (w.alloc (.cells #[] 24)) w.heap.size c a
  go_enter Tryd.func89, Tryd.ntmps89
  go_wp2
  go_ret
  exact ⟨rfl, (Below.refl _ w).alloc (Nat.le_refl _) _⟩
def revC (R : Nat → Rv) (n : Nat) : List Value := (List.range n).flatMap (fun i => (R i).cs.toList)
theorem revC_succ (R : Nat → Rv) (n : Nat) : revC R (n + 1) = revC R n ++ (R n).cs.toList := by
  simp [revC, List.range_succ]
theorem revC_len (R : Nat → Rv) (n : Nat) : (revC R n).length = n * 8 := by
  induction n with
  | zero => rfl
  | succ n ih =>
    have : (R n).cs.toList.length = 8 := rfl
    rw [revC_succ, List.length_append, ih, this]
    omega
theorem revC_at (R : Nat → Rv) (n i k : Nat) (hi : i < n) (hk : k < 8) : (revC R n)[i * 8 + k]? = (R i).cs[k]? := by
  induction n with
  | zero => omega
  | succ n ih =>
    have hl := revC_len R n
    rw [revC_succ]
    by_cases e : i < n
    · rw [List.getElem?_append_left (by omega)]
      exact ih e
    · obtain rfl : i = n := by omega
      rw [List.getElem?_append_right (by omega), hl, Nat.add_sub_cancel_left]
      simp
theorem revC_split {R : Nat → Rv} {n j : Nat} {u : Value} (h : (revC R n)[j]? = some u) : j / 8 < n ∧ (R (j / 8)).cs[j % 8]? = some u := by
  have hj : j < n * 8 := by
    have := (List.getElem?_eq_some_iff.1 h).1
    rw [revC_len] at this
    exact this
  refine ⟨by omega, ?_⟩
  rw [← revC_at R n (j / 8) (j % 8) (by omega) (by omega), show j / 8 * 8 + j % 8 = j by omega]
  exact h
theorem revC_one (R : Nat → Rv) (n : Nat) : ∀ u ∈ revC R n, u.oneCell' = true := by
  intro u hu
  obtain ⟨j, hj⟩ := List.mem_iff_getElem?.1 hu
  obtain ⟨_, h⟩ := revC_split hj
  have h2 : u ∈ (R (j / 8)).cs := Array.mem_of_getElem? h
  simp only [Rv.cs, List.mem_toArray, List.mem_cons, List.not_mem_nil, or_false] at h2
  rcases h2 with rfl | rfl | rfl | rfl | rfl | rfl | rfl | rfl <;> rfl
theorem At8.get {w : World} {b o : Nat} {r : Rv} (h : At8 w b o r) {k : Nat} (hk : k < 8) : w.cell? ⟨b, o + k, none⟩ = r.cs[k]? := by
  obtain rfl | rfl | rfl | rfl | rfl | rfl | rfl | rfl : k = 0 ∨ k = 1 ∨ k = 2 ∨ k = 3 ∨ k = 4 ∨ k = 5 ∨ k = 6 ∨ k = 7 := by omega
  · exact h.c0
  · exact h.c1
  · exact h.c2
  · exact h.c3
  · exact h.c4
  · exact h.c5
  · exact h.c6
  · exact h.c7
theorem At8.of_get {w : World} {b o : Nat} {r : Rv} (h : ∀ k, k < 8 → w.cell? ⟨b, o + k, none⟩ = r.cs[k]?) : At8 w b o r :=
  ⟨h 0 (by decide), h 1 (by decide), h 2 (by decide), h 3 (by decide), h 4 (by decide), h 5 (by decide), h 6 (by decide), h 7 (by decide)⟩
/- A row of revisions of the call's own. -/
structure Rowd (w : World) (g n : Nat) (T : Nat) (R : Nat → Rv) : Prop where
  ex : ∃ cur : Array Value, w.heap[g]? = some (.cells cur T (0, 0)) ∧ ∀ i k, i < n → k < 8 → cur[i * 8 + k]? = (R i).cs[k]?
theorem Rowd.revs {w : World} {g n T c : Nat} {R : Nat → Rv} (h : Rowd w g n T R) (hc : n ≤ c ∧ c ≤ maxLen) (hf : ∀ i, i < n → (R i).fit) : Revs w (some ⟨g, 0, none⟩) n c R := by
  obtain ⟨cur, h1, h2⟩ := h.ex
  refine ⟨hc, hf, fun _ => ⟨g, 0, rfl, lt_of_row h1, fun i hi => At8.of_get (fun k hk => ?_)⟩⟩
  rw [cell_of_row w g _ _ _ _ h1, Nat.zero_add]
  exact h2 i k hi hk
theorem Rowd.of_own {w : World} {base g n T cap : Nat} {R : Nat → Rv} (h : w.ownsRow base T 8 (.slice (some ⟨g, 0, none⟩) n cap) n (revC R n)) : Rowd w g n T R ∧ base ≤ g ∧ (n ≤ cap ∧ cap ≤ maxLen) := by
  obtain ⟨hl, h0⟩ := h
  rcases h0 with ⟨hv, _⟩ | ⟨g', cap', cur, hv, h1, h2, h3, h4, h5, h6⟩
  · cases hv
  · injection hv with hv1 hv2 hv3
    injection hv1 with hv1
    injection hv1 with hv1 _ _
    subst hv1
    subst hv3
    refine ⟨⟨cur, h2, fun i k hi hk => ?_⟩, h1, h3, h4⟩
    rw [← revC_at R n i k hi hk, ← h6, List.getElem?_take_of_lt (by omega)]
    simp
set_option maxRecDepth 100000 in
set_option maxHeartbeats 2000000 in
theorem clone_any (n c : Nat) (hn0 : 0 < n) (hn : n ≤ 66) (R : Nat → Rv) (p : Option Addr) (w : World) (hX : Revs w p n c R) :
    Calls Tryd.prog 89 #[.slice p n c] w fun e w' => ∃ g cap, e = .returned (.slice (some ⟨g, 0, none⟩) n cap) ∧ Rowd w' g n 24 R ∧ w.heap.size ≤ g ∧ (n ≤ cap ∧ cap ≤ maxLen) ∧ Below w.heap.size w w' := by
  obtain ⟨i24, hi, hz0, hz1, hz2⟩ := info_parts info24r
  obtain ⟨pb, po, rfl, hpb, hat⟩ := hX.at' hn0
  have hmade : (w.alloc (.cells #[] 24)).ownsRow w.heap.size 24 8 (.slice (some ⟨w.heap.size, 0, none⟩) 0 0) 0 [] := World.ownsRow_made w #[] 0 (Nat.le_refl _) (by unfold maxLen; omega) rfl
  have hnews : ∀ (j : Nat) (u : Value), (revC R n)[j]? = some u → (w.alloc (.cells #[] 24)).cell? ((⟨pb, po, none⟩ : Addr).add j) = some u := fun j u hu => by
    obtain ⟨h1, h2⟩ := revC_split hu
    have hadd : (⟨pb, po, none⟩ : Addr).add j = ⟨pb, po + j / 8 * 8 + j % 8, none⟩ := by
      have e : po + j / 8 * 8 + j % 8 = po + j := by omega
      rw [e]
      unfold Addr.add
      split <;> simp_all
    rw [hadd]
    refine (World.cell?_of_block (a := ⟨pb, po + j / 8 * 8 + j % 8, none⟩) (Below.heap_alloc w _ pb hpb)).trans ?_
    rw [(hat (j / 8) h1).get (by omega), h2]
  have heq := eql_slice w (some ⟨pb, po, none⟩) n c
  have hlen := revC_len R n
  have hone := revC_one R n
  go_enter Tryd.func89, Tryd.ntmps89
  go_wp2_with (at_builtin; refine wpList_append_lies _ (by rfl) (.tmp 5) (.tmp 6) 36 (by rfl) w.heap.size 24 i24 _ 8 96 Tryd.underlying36 hi hz0 hz1 hz2 (by rfl) (by decide) (.slice (some ⟨w.heap.size, 0, none⟩) 0 0) 0 [] (by rfl) hmade ⟨pb, po, none⟩ n c (revC R n) (by rfl) hlen hnews hone hn0 (by unfold maxLen; omega) (by omega) (by simp) _ rfl ?_; intro g6 cap6 w6 hown6 hgr6 hat6 hlt6)
  rw [Nat.zero_add, List.nil_append] at hown6
  go_ret
  obtain ⟨r1, r2, r3⟩ := Rowd.of_own hown6
  exact ⟨g6, cap6, rfl, r1, r2, r3, ((Below.refl _ _).alloc (Nat.le_refl _) _).grown hgr6 (by simp) (fun k hk => (hmade.lt k hk).1)⟩
set_option maxRecDepth 100000 in
set_option maxHeartbeats 1000000 in
theorem clone_nil (c : Nat) (w : World) : Calls Tryd.prog 89 #[.slice none 0 c] w fun e w' => e = .returned (.slice none 0 0) ∧ w' = w := by
  have heq := eql_slice w none 0 c
  go_enter Tryd.func89, Tryd.ntmps89
  go_wp2
  go_ret
  exact ⟨rfl, rfl⟩
/- A list of a call's own: its row, if it has one, lies at or above a place. -/
structure Mine (w : World) (q : Option Addr) (n d base : Nat) (R : Nat → Rv) : Prop where
  revs : Revs w q n d R
  row : 0 < n → ∃ g, q = some ⟨g, 0, none⟩ ∧ Rowd w g n 24 R ∧ base ≤ g
theorem clone_all (n c : Nat) (hn : n ≤ 66) (R : Nat → Rv) (p : Option Addr) (w : World) (hX : Revs w p n c R) :
    Calls Tryd.prog 89 #[.slice p n c] w fun e w' => ∃ q d, e = .returned (.slice q n d) ∧ Mine w' q n d w.heap.size R ∧ Below w.heap.size w w' := by
  by_cases h0 : 0 < n
  · refine (clone_any n c h0 hn R p w hX).mono ?_
    rintro e w' ⟨g, cap, rfl, hR, hg, hc, hb⟩
    exact ⟨_, _, rfl, ⟨hR.revs hc hX.fit, fun _ => ⟨g, rfl, hR, hg⟩⟩, hb⟩
  · obtain rfl : n = 0 := by omega
    have he : ∀ W q, Mine W q 0 0 w.heap.size R := fun W q => ⟨⟨⟨Nat.le_refl _, Nat.zero_le _⟩, fun i hi => absurd hi (by omega), fun h => absurd h (by omega)⟩, fun h => absurd h (by omega)⟩
    cases p with
    | none =>
      refine (clone_nil c w).mono ?_
      rintro e w' ⟨rfl, rfl⟩
      exact ⟨none, 0, rfl, he _ _, Below.refl _ _⟩
    | some a =>
      refine (clone_0 a c w).mono ?_
      rintro e w' ⟨rfl, hb⟩
      exact ⟨_, 0, rfl, he _ _, hb⟩
theorem Rowd.kept {w w' : World} {g n T : Nat} {R : Nat → Rv} (h : Rowd w g n T R) (hk : w'.heap[g]? = w.heap[g]?) : Rowd w' g n T R := by
  obtain ⟨cur, h1, h2⟩ := h.ex
  exact ⟨cur, hk.trans h1, h2⟩
theorem Mine.kept {w w' : World} {q : Option Addr} {n d base : Nat} {R : Nat → Rv} (h : Mine w q n d base R) (hs : w.heap.size ≤ w'.heap.size) (hk : ∀ g, base ≤ g → g < w.heap.size → w'.heap[g]? = w.heap[g]?) : Mine w' q n d base R := by
  refine ⟨⟨h.revs.cap, h.revs.fit, fun h0 => ?_⟩, fun h0 => ?_⟩
  · obtain ⟨g, hq, hR, hg⟩ := h.row h0
    obtain ⟨b, o, h1, h2, h3⟩ := h.revs.at' h0
    rw [hq] at h1
    injection h1 with h1
    injection h1 with h1 h4 _
    subst h1
    subst h4
    exact ⟨g, 0, hq, by omega, fun i hi => (h3 i hi).kept (hk g hg h2)⟩
  · obtain ⟨g, hq, hR, hg⟩ := h.row h0
    obtain ⟨cur, hc, _⟩ := hR.ex
    exact ⟨g, hq, hR.kept (hk g hg (lt_of_row hc)), hg⟩
theorem Mine.later {w w' : World} {q : Option Addr} {n d base : Nat} {R : Nat → Rv} (h : Mine w q n d base R) (hb : Below w.heap.size w w') : Mine w' q n d base R := h.kept hb.size (fun g _ hl => hb.block g hl)
theorem Mine.down {w : World} {q : Option Addr} {n d base b2 : Nat} {R : Nat → Rv} (h : Mine w q n d base R) (hb : b2 ≤ base) : Mine w q n d b2 R :=
  ⟨h.revs, fun h0 => by obtain ⟨g, hq, hR, hg⟩ := h.row h0; exact ⟨g, hq, hR, by omega⟩⟩
set_option maxRecDepth 100000 in
set_option maxHeartbeats 2000000 in
theorem own_any (x : Bk) (hn : x.n ≤ 66) (p : Option Addr) (c : Nat) (w : World) (hX : Revs w p x.n c x.R) :
    Calls Tryd.prog 60 #[x.val p c] w fun e w' => ∃ q d, e = .returned (x.val q d) ∧ Mine w' q x.n d w.heap.size x.R ∧ Below w.heap.size w w' := by
  obtain ⟨seq, prev, tx, n, R⟩ := x
  simp only at hn hX ⊢
  have hv : ∀ q d, (Bk.mk seq prev tx n R).val q d = .agg #[.int .u64 (seq : Int), .string prev, .int .u64 (tx : Int), .slice q n d] := fun _ _ => rfl
  simp only [hv]
  clear hv
  have b0 : ∀ o o', Below w.heap.size w ((w.alloc o).alloc o') := fun o o' => ((Below.refl _ w).alloc (Nat.le_refl _) _).alloc (by simp) _
  have hcl := fun W hX => clone_all n c hn R p W hX
  go_enter Tryd.func60, Tryd.ntmps60
  go_wp2_with fail
  refine (hcl _ (hX.later (b0 _ _))).mono ?_
  rintro e w2 ⟨q, d, rfl, hM, hb2⟩
  have hsz2 := hb2.size
  simp only [World.size_alloc] at hsz2
  have hrow := (hb2.block w.heap.size (by simp; omega)).trans ((Below.heap_alloc _ _ _ (by simp)).trans (heap_alloc_new w (.cells #[.int .u64 (seq : Int), .string prev, .int .u64 (tx : Int), .slice p n c] 38)))
  have hres := (hb2.block (w.heap.size + 1) (by simp)).trans (two_new w _ _)
  have b2 : Below w.heap.size w w2 := (b0 _ _).trans (hb2.mono (by simp; omega))
  have c0 := cell_of_row w2 _ 0 _ _ _ hrow
  have c1 := cell_of_row w2 _ 1 _ _ _ hrow
  have c2 := cell_of_row w2 _ 2 _ _ _ hrow
  have c3 := cell_of_row w2 _ 3 _ _ _ hrow
  have f3 := frozen_of_row w2 _ 3 _ _ hrow
  have r0 := cell_of_row w2 _ 0 _ _ _ hres
  have r1 := cell_of_row w2 _ 1 _ _ _ hres
  have r2 := cell_of_row w2 _ 2 _ _ _ hres
  have r3 := cell_of_row w2 _ 3 _ _ _ hres
  have s0 := frozen_of_row w2 _ 0 _ _ hres
  have s1 := frozen_of_row w2 _ 1 _ _ hres
  have s2 := frozen_of_row w2 _ 2 _ _ hres
  have s3 := frozen_of_row w2 _ 3 _ _ hres
  go_wp2
  have hres3 : (w2.setCell ⟨w.heap.size, 3, none⟩ (.slice q n d)).heap[w.heap.size + 1]? = some (.cells #[.int .u64 0, .string ⟨#[]⟩, .int .u64 0, .slice none 0 0] 38 (0, 0)) := (Below.heap_setCell _ _ _ _ (by simp)).trans hres
  refine bodyPost_ret (v := .agg #[.int .u64 (seq : Int), .string prev, .int .u64 (tx : Int), .slice q n d]) (results_cell_row Tryd.results60 _ _ (w.heap.size + 1) 38 _ (0, 0) _ rfl (set4_row hres3 _ _ _ _) Tryd.underlying38 rfl (by kernel_rfl)) rfl ⟨q, d, rfl, ?_, set4_below (b2.setCell (p := ⟨w.heap.size, 3, none⟩) (Nat.le_refl _) _) (w.heap.size + 1) (by omega) _ _ _ _⟩
  have hM2 : Mine w2 q n d (w.heap.size + 2) R := hM.down (by simp)
  have hM3 : Mine (set4 (w2.setCell ⟨w.heap.size, 3, none⟩ (.slice q n d)) (w.heap.size + 1) (.int .u64 (seq : Int)) (.string prev) (.int .u64 (tx : Int)) (.slice q n d)) q n d (w.heap.size + 2) R := by
    refine hM2.kept (by rw [set4_size]; simp) (fun g hg _ => ?_)
    rw [set4_block _ _ _ _ _ _ _ (by omega)]
    exact Below.heap_setCell _ _ _ _ (by simp; omega)
  exact hM3.down (by omega)
end Go.Proofs.YtaocbkloafhmeaaDoor
