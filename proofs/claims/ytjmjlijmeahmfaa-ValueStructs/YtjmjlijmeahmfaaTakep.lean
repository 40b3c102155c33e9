/- The parts of a list or a struct, taken of bytes (takeParts). -/
import Derived.Test.YtjmjlijmeahmfaaDec
import Derived.Test.YtjmjlijmeahmfaaCuta
import Derived.Deep.RegionLaw
namespace Go.Proofs.Ytjmjlijmeahmfaa
open Go.RowKit
theorem run_ts (s : ByteArray) (six : Bool) (T : Nat → Int → Tak) (x : St) : ∀ n, (runA s six T x n).ts = x.ts ++ (List.range n).map (fun j => (T (nameA s six (runA s six T x j)).o (nameA s six (runA s six T x j)).e).t)
  | 0 => by simp [runA]
  | n + 1 => by rw [runA, stepA, run_ts s six T x n, List.range_succ, List.map_append, List.append_assoc]; rfl
theorem run_ns_len (s : ByteArray) (T : Nat → Int → Tak) (x : St) : ∀ n, (runA s true T x n).ns.length = x.ns.length + n
  | 0 => rfl
  | n + 1 => by rw [runA, stepA]; simp [run_ns_len s T x n]; omega
theorem run_ns_none (s : ByteArray) (T : Nat → Int → Tak) (x : St) : ∀ n, (runA s false T x n).ns = x.ns
  | 0 => rfl
  | n + 1 => by rw [runA, stepA]; simp [run_ns_none s T x n]
theorem only_alloc {b : Nat} {u v : World} (h : Only b u v) (o : Obj) : Only b u (v.alloc o) := h.trans (Only.ofBelow ((Below.refl _ v).alloc (Nat.le_refl _) o))
theorem only_grown {b : Nat} {u v w : World} {row : Option Nat} (h : Only b u v) (hg : v.grownBy w row) (hr : ∀ k, row = some k → u.heap.size ≤ k) : Only b u w :=
  ⟨hg.os.trans h.os, hg.tape.trans h.tape, hg.output.trans h.output, Nat.le_trans h.size hg.size, fun k hk hb => (hg.block k (Nat.lt_of_lt_of_le hk h.size) (fun e => by have := hr k e.symm; omega)).trans (h.block k hk hb)⟩
theorem only_set {b z : Nat} {u v : World} (h : Only b u v) (hz : u.heap.size ≤ z) (j : Nat) (x : Value) : Only b u (v.setCell ⟨z, j, none⟩ x) :=
  ⟨h.os, h.tape, h.output, by simpa using h.size, fun k hk hb => (Below.heap_setCell v ⟨z, j, none⟩ x k (by show k ≠ z; omega)).trans (h.block k hk hb)⟩
set_option maxRecDepth 100000 in
set_option maxHeartbeats 8000000 in
theorem takep_6 {s : ByteArray} (hs : s.size ≤ 4096) (d : Int) (hd0 : 0 ≤ d) (hd8 : d ≤ 100) {T : Nat → Int → Tak} (hT : TakeC s (d + 1) T) (w : World) (b o : Nat) (hcu : Cur w b s (o : Int) 0) (ho : o ≤ s.size) (c : Ans Nat) (hc : countA s o 0 32 = c) (hc32 : c.v ≤ 32) (hco : c.o ≤ s.size) (htx : ∀ o e, o ≤ s.size → (textA s o e 16).o ≤ s.size ∧ (textA s o e 16).v.size ≤ 4096) :
    Calls Try.prog 76 #[.pointer (some ⟨b, 0, none⟩), .agg #[.int .i64 6, .bool false, .int .i64 0, .string ⟨#[]⟩, .slice none 0 0, .slice none 0 0], .int .i64 d] w fun r w' => ∃ A : Ad, r = .returned ((nodeT 6 (runA s true T ⟨[], [], c.o, c.e⟩ c.v)).val A) ∧ LiesS (fun k => w.heap.size ≤ k ∧ k < w'.heap.size) w' (nodeT 6 (runA s true T ⟨[], [], c.o, c.e⟩ c.v)) A ∧ Cur w' b s ((runA s true T ⟨[], [], c.o, c.e⟩ c.v).o : Int) (runA s true T ⟨[], [], c.o, c.e⟩ c.v).e ∧ Only b w w' ∧ (runA s true T ⟨[], [], c.o, c.e⟩ c.v).o ≤ s.size := by
  obtain ⟨X, hX⟩ : ∃ X : Nat → St, X = runA s true T ⟨[], [], c.o, c.e⟩ := ⟨_, rfl⟩
  rw [← hX]
  have hX0 : X 0 = ⟨[], [], c.o, c.e⟩ := by rw [hX]; rfl
  have hXs : ∀ i, X (i + 1) = stepA s true T (X i) := fun i => by rw [hX]; rfl
  obtain ⟨Tf, hTf⟩ : ∃ Tf : Nat → Tr, Tf = fun j => (T (nameA s true (X j)).o (nameA s true (X j)).e).t := ⟨_, rfl⟩
  have hts : ∀ n, (X n).ts = (List.range n).map Tf := fun n => by rw [hX, run_ts, hTf, hX]; rfl
  have hbw := lt_of_row hcu
  have HX0 : Hid (X 0 = ⟨[], [], c.o, c.e⟩) := hX0
  have HXs : Hid (∀ i, X (i + 1) = stepA s true T (X i)) := hXs
  have HTf : Hid (∀ j, Tf j = (T (nameA s true (X j)).o (nameA s true (X j)).e).t) := fun j => by rw [hTf]
  have HTS : Hid (∀ n, (X n).ts = (List.range n).map Tf) := hts
  have HLN : Hid (∀ n, (X n).ns.length = n) := fun n => by rw [hX, run_ns_len]; simp
  have HT : Hid (TakeC s (d + 1) T) := hT
  have HTX : Hid (∀ o e, o ≤ s.size → (textA s o e 16).o ≤ s.size ∧ (textA s o e 16).v.size ≤ 4096) := htx
  have HCC : Hid (countA s o 0 32 = c) := hc
  clear hX hX0 hXs hTf hts hT hc htx
  have hdw : IntKind.i64.wrap (d + 1) = d + 1 := by rw [IntKind.wrap_i64]; omega
  obtain ⟨i0, hi, hz0, hz1, hz2⟩ := info_parts info25
  obtain ⟨j0, hj, hy0, hy1, hy2⟩ := info_parts info9
  have hcur0 : Cur ((w.alloc (.cells #[.int .i64 6, .bool false, .int .i64 0, .string ⟨#[]⟩, .slice none 0 0, .slice none 0 0] 25)).alloc (.cells #[.int .i64 0, .bool false, .int .i64 0, .string ⟨#[]⟩, .slice none 0 0, .slice none 0 0] 25)) b s (o : Int) 0 := hcu.later (((Below.refl _ w).alloc (Nat.le_refl _) _).alloc (by simp) _)
  have r4 : ((w.alloc (.cells #[.int .i64 6, .bool false, .int .i64 0, .string ⟨#[]⟩, .slice none 0 0, .slice none 0 0] 25)).alloc (.cells #[.int .i64 0, .bool false, .int .i64 0, .string ⟨#[]⟩, .slice none 0 0, .slice none 0 0] 25)).heap[w.heap.size]? = some (.cells #[.int .i64 6, .bool false, .int .i64 0, .string ⟨#[]⟩, .slice none 0 0, .slice none 0 0] 25 (0, 0)) := by rw [Below.heap_alloc _ _ _ (by simp)]; exact heap_alloc_new _ _
  have r6 : ((w.alloc (.cells #[.int .i64 6, .bool false, .int .i64 0, .string ⟨#[]⟩, .slice none 0 0, .slice none 0 0] 25)).alloc (.cells #[.int .i64 0, .bool false, .int .i64 0, .string ⟨#[]⟩, .slice none 0 0, .slice none 0 0] 25)).heap[w.heap.size + 1]? = some (.cells #[.int .i64 0, .bool false, .int .i64 0, .string ⟨#[]⟩, .slice none 0 0, .slice none 0 0] 25 (0, 0)) := by have := heap_alloc_new (w.alloc (.cells #[.int .i64 6, .bool false, .int .i64 0, .string ⟨#[]⟩, .slice none 0 0, .slice none 0 0] 25)) (.cells #[.int .i64 0, .bool false, .int .i64 0, .string ⟨#[]⟩, .slice none 0 0, .slice none 0 0] 25); simpa using this
  have hon : Only b w ((w.alloc (.cells #[.int .i64 6, .bool false, .int .i64 0, .string ⟨#[]⟩, .slice none 0 0, .slice none 0 0] 25)).alloc (.cells #[.int .i64 0, .bool false, .int .i64 0, .string ⟨#[]⟩, .slice none 0 0, .slice none 0 0] 25)) := Only.ofBelow (((Below.refl _ w).alloc (Nat.le_refl _) _).alloc (by simp) _)
  go_enter Try.func76, Try.ntmps76
  go_wp2_with fail
  refine (cou_at (m := 32) hcur0 ho hs (by decide)).mono ?_
  rintro e w1 ⟨rfl, hcu1, hon1⟩
  rw [HCC.out] at hcu1 ⊢
  have hb0 : b ≠ w.heap.size := by omega
  have r41 := (hon1.block w.heap.size (by simp; omega) (by omega)).trans r4
  have r61 := (hon1.block (w.heap.size + 1) (by simp) (by omega)).trans r6
  have hon2 : Only b w w1 := hon.trans hon1
  have hsz1 : w.heap.size + 1 + 1 ≤ w1.heap.size := by have := hon1.size; simpa using this
  clear hon1 hon r4 r6 hcur0
  go_wp2_with fail
  go_loopw [9] (fun c9 wr => ∃ (i : Nat) (v u : Value) (A' : Nat → Ad), i ≤ c.v ∧ c9 = .int .i64 (i : Int) ∧ wr.heap[w.heap.size]? = some (.cells #[.int .i64 6, .bool false, .int .i64 0, .string ⟨#[]⟩, v, u] 25 (0, 0)) ∧ wr.heap[w.heap.size + 1]? = some (.cells #[.int .i64 0, .bool false, .int .i64 0, .string ⟨#[]⟩, .slice none 0 0, .slice none 0 0] 25 (0, 0)) ∧ Cur wr b s ((X i).o : Int) (X i).e ∧ (X i).o ≤ s.size ∧ Only b w wr ∧ w.heap.size + 1 + 1 ≤ wr.heap.size ∧ Twin u.ownBlock (w.heap.size + 1 + 1) wr v i Tf A' ∧ Nms (w.heap.size + 1 + 1) wr u (X i).ns ∧ (∀ s ∈ (X i).ns, s.size ≤ maxLen)) (fun c9 _ => c.v - (intOf c9).toNat)
  case atStart =>
    refine ⟨0, .slice none 0 0, .slice none 0 0, fun _ => ⟨none, 0, none, 0⟩, by omega, rfl, r41, r61, ?_, ?_, hon2, hsz1, Twin.start _ _ _ _ _, ?_, ?_⟩
    · rw [HX0.out]; exact hcu1
    · rw [HX0.out]; exact hco
    · rw [HX0.out]; exact Nms.start _ _
    · rw [HX0.out]; intro s hs; cases hs
  case round =>
    clear r41 r61 hon2 hsz1 hcu1
    obtain ⟨i, v, u, A', hi', rfl, hrow, hzero, hcur, hXo, hon, hszr, htw, hnm, hnsz⟩ := hrel
    have hlt4 := lt_of_row hrow
    by_cases him : i < c.v
    · have him' : (i : Int) < (c.v : Int) := by omega
      have e0 := cell_of_row wr _ 0 _ _ _ hrow
      have e5 := cell_of_row wr _ 5 _ _ _ hrow
      have e4 := cell_of_row wr _ 4 _ _ _ hrow
      obtain ⟨tx, htx⟩ : ∃ tx, textA s (X i).o (X i).e 16 = tx := ⟨_, rfl⟩
      have htc : Calls Try.prog 75 #[.pointer (some ⟨b, 0, none⟩), .int .i64 16] wr.drew fun e w' => e = .returned (.string tx.v) ∧ Cur w' b s (tx.o : Int) tx.e ∧ Only b wr w' := by
        rw [← htx]
        refine (text_at (w := wr.drew) hcur hXo hs 16).mono ?_
        rintro e1 w' ⟨h1, h2, h3⟩
        exact ⟨h1, h2, ⟨h3.os, h3.tape, h3.output, h3.size, h3.block⟩⟩
      have htl := HTX.out (X i).o (X i).e hXo
      rw [htx] at htl
      obtain ⟨l, hl⟩ : ∃ l, (X i).ns = l := ⟨_, rfl⟩
      rw [hl] at hnm hnsz
      have hl33 : l.length ≤ 32 := by rw [← hl, HLN.out]; omega
      go_wp2_with fail
      go_region_law ((first | (go_simp; go_at_call 75; refine htc.mono ?_; rintro e w2 ⟨rfl, hcu2, hon2⟩; have hrow2 := (hon2.block _ hlt4 (by omega)).trans hrow; have e52 := cell_of_row w2 _ 5 _ _ _ hrow2; have e5a : ∀ o, (w2.alloc o).cell? ⟨w.heap.size, 5, none⟩ = some u := fun o => cell_kept e52 (Below.heap_alloc w2 o _ (block_lt e52)); have hn2 := hnm.kept (w' := w2) (fun k h1 h2 => hon2.block k h2 (by omega)); dsimp only) | (refine step_append_lies _ (by rfl) (.tmp 15) (.tmp 18) 23 (by rfl) (w.heap.size + 1 + 1) 9 j0 _ 1 16 Try.underlying23 hj hy0 hy1 hy2 (by rfl) (by decide) u l.length _ (by rfl) (hn2.alloc _) ⟨w2.heap.size, 0, none⟩ 1 1 [.string tx.v] (by rfl) (by rfl) (World.news_of_block (heap_alloc_new w2 _)) (fun u hu => by simp at hu; subst hu; rfl) (by decide) (by unfold maxLen; omega) (by omega) (by have := hon2.size; simp; omega) (w2.heap.size + 1) (by simp) ?_; intro g3 cap3 w3 hown3 hgr3 hat3 hlt3; have hrow3 := far_row hgr3 (fun k hk => (own_lt hn2 k hk).1) hrow2 (show w.heap.size < _ by omega); have f53 := frozen_of_row w3 _ 5 _ _ hrow3; have e53 := cell_of_row w3 _ 5 _ _ _ hrow3)))
      all_goals
        have hst : (X (i + 1)).ns = l ++ [tx.v] ∧ (X (i + 1)).o = (T tx.o tx.e).o ∧ (X (i + 1)).e = (T tx.o tx.e).e ∧ Tf i = (T tx.o tx.e).t := by
          have e1 : nameA s true (X i) = tx := htx
          refine ⟨?_, ?_, ?_, ?_⟩
          · rw [HXs.out, stepA, e1, hl]; rfl
          · rw [HXs.out, stepA, e1]
          · rw [HXs.out, stepA, e1]
          · rw [HTf.out, e1]
        have HST : Hid ((X (i + 1)).ns = l ++ [tx.v] ∧ (X (i + 1)).o = (T tx.o tx.e).o ∧ (X (i + 1)).e = (T tx.o tx.e).e ∧ Tf i = (T tx.o tx.e).t) := hst
        clear hst
        have hsz2 := hon2.size
        have htw2 := htw.kept (w' := w2) hon2.size (fun k h1 h2 => hon2.block k h2 (by omega))
        have htwa := htw2.kept (w' := w2.alloc (.cells #[.string tx.v] 9)) (by simp) (fun k _ h2 => Below.heap_alloc w2 _ k h2)
        have hna := hn2.kept (w' := w2.alloc (.cells #[.string tx.v] 9)) (fun k _ h2 => Below.heap_alloc w2 _ k h2)
        have htw3 := Twin.named (c := l.length + 1) (cap := cap3) htwa hna hgr3 (by simpa using hat3)
        have hset : ∀ k, k ≠ w.heap.size → (w3.setCell ⟨w.heap.size, 5, none⟩ (.slice (some ⟨g3, 0, none⟩) (l.length + 1) cap3)).heap[k]? = w3.heap[k]? := fun k hk => Below.heap_setCell _ _ _ k hk
        have htw5 := htw3.kept (w' := w3.setCell ⟨w.heap.size, 5, none⟩ (.slice (some ⟨g3, 0, none⟩) (l.length + 1) cap3)) (by simp) (fun k h1 _ => hset k (by omega))
        have hn3 : Nms (w.heap.size + 1 + 1) w3 (.slice (some ⟨g3, 0, none⟩) (l.length + 1) cap3) (l ++ [tx.v]) := by
          have : strs (l ++ [tx.v]) = strs l ++ [.string tx.v] := by simp [strs]
          unfold Nms
          rw [this, List.length_append]
          exact hown3
        have hn5 := hn3.kept (w' := w3.setCell ⟨w.heap.size, 5, none⟩ (.slice (some ⟨g3, 0, none⟩) (l.length + 1) cap3)) (fun k h1 _ => hset k (by omega))
        have hrow5 := row_setCell (k := 5) hrow3 (.slice (some ⟨g3, 0, none⟩) (l.length + 1) cap3)
        have hge : ∀ k, u.ownBlock = some k → w.heap.size + 1 + 1 ≤ k := fun k hk => (own_lt hn2 k hk).1
        have hzero5 := (hset (w.heap.size + 1) (by omega)).trans (far_row hgr3 hge ((hon2.block _ (lt_of_row hzero) (by omega)).trans hzero) (by omega))
        have hcu5 : Cur (w3.setCell ⟨w.heap.size, 5, none⟩ (.slice (some ⟨g3, 0, none⟩) (l.length + 1) cap3)) b s (tx.o : Int) tx.e := (hset b (by omega)).trans (far_row hgr3 hge hcu2 (by omega))
        have hon5 := only_set (only_grown (only_alloc (hon.trans hon2) (.cells #[.string tx.v] 9)) hgr3 (fun k hk => by have := hge k hk; omega)) (Nat.le_refl w.heap.size) 5 (.slice (some ⟨g3, 0, none⟩) (l.length + 1) cap3)
        have hsz5 : w.heap.size + 1 + 1 ≤ (w3.setCell ⟨w.heap.size, 5, none⟩ (.slice (some ⟨g3, 0, none⟩) (l.length + 1) cap3)).heap.size := by have := hgr3.size; simp at this; simp; omega
        have hns5 : ∀ s ∈ l ++ [tx.v], s.size ≤ maxLen := fun s hs => by
          rcases List.mem_append.1 hs with h | h
          · exact hnsz s h
          · simp at h; subst h; unfold maxLen; omega
        clear hset hn3 htw3 htwa hna htw2 hn2 hgr3 hown3 hat3 hlt3 hrow3 f53 e53 hrow2 e52 e5a hcu2 hon2 hsz2 hge hrow hzero hcur hon hszr htw hnm hnsz e0 e5 e4
        obtain ⟨w5, hw5⟩ : ∃ w5, w3.setCell ⟨w.heap.size, 5, none⟩ (.slice (some ⟨g3, 0, none⟩) (l.length + 1) cap3) = w5 := ⟨_, rfl⟩
        rw [hw5] at htw5 hn5 hrow5 hzero5 hcu5 hon5 hsz5 ⊢
        clear hw5
        replace hrow5 : w5.heap[w.heap.size]? = some (.cells #[.int .i64 6, .bool false, .int .i64 0, .string ⟨#[]⟩, v, .slice (some ⟨g3, 0, none⟩) (l.length + 1) cap3] 25 (0, 0)) := hrow5
        have hlt5 := lt_of_row hrow5
        have p4 := cell_of_row w5 _ 4 _ _ _ hrow5
        have hcu5d : Cur w5.drew b s (tx.o : Int) tx.e := hcu5
        obtain ⟨tk, htk⟩ : ∃ tk, T tx.o tx.e = tk := ⟨_, rfl⟩
        have hcall : Calls Try.prog 42 #[.pointer (some ⟨b, 0, none⟩), .int .i64 (d + 1)] w5.drew fun r w' => ∃ A1 : Ad, r = .returned (.agg #[.int .i64 tk.t.k, .bool tk.t.b, .int .i64 tk.t.n, .string tk.t.s, .slice A1.pa tk.t.m A1.pc, .slice A1.na tk.t.q A1.nc]) ∧ LiesS (fun k => w5.heap.size ≤ k ∧ k < w'.heap.size) w' tk.t A1 ∧ Cur w' b s (tk.o : Int) tk.e ∧ Only b w5 w' ∧ tk.o ≤ s.size := by
          rw [← htk]
          refine (HT.out w5.drew b tx.o tx.e hcu5 htl.1).mono ?_
          rintro e1 w' ⟨A1, h1, h2, h3, h4, h5⟩
          exact ⟨A1, h1, h2, h3, ⟨h4.os, h4.tape, h4.output, h4.size, h4.block⟩, h5⟩
        rw [htk] at HST
        clear hcu5d
        go_wp2_with fail
        go_region_law ((first | (go_simp; go_at_call 42; refine hcall.mono ?_; rintro e w6 ⟨A1, rfl, hL6, hcu6, hon6, ho6⟩; have hrow6 := (hon6.block _ hlt5 (by omega)).trans hrow5; have p46 := cell_of_row w6 _ 4 _ _ _ hrow6; have p4a : ∀ o, (w6.alloc o).cell? ⟨w.heap.size, 4, none⟩ = some v := fun o => cell_kept p46 (Below.heap_alloc w6 o _ (block_lt p46)); have htw6 := htw5.kept (w' := w6) hon6.size (fun k h1 h2 => hon6.block k h2 (by omega)); dsimp only) | (refine step_append_lies _ (by rfl) (.tmp 22) (.tmp 27) 22 (by rfl) (w.heap.size + 1 + 1) 25 i0 _ 6 88 Try.underlying22 hi hz0 hz1 hz2 (by rfl) (by decide) v i _ (by rfl) (htw6.own.alloc _) ⟨w6.heap.size, 0, none⟩ 1 1 (tk.t.cs A1) (by rfl) (by rfl) (World.news_of_block (heap_alloc_new w6 _)) (cs_one tk.t A1) (by decide) (by unfold maxLen; omega) (by omega) (by have := hon6.size; simp; omega) (w6.heap.size + 1) (by simp) ?_; intro g7 cap7 w7 hown7 hgr7 hat7 hlt7; have hrow7 := far_row hgr7 (fun k hk => (own_lt htw6.own k hk).1) hrow6 (show w.heap.size < _ by omega); have f47 := frozen_of_row w7 _ 4 _ _ hrow7; have p47 := cell_of_row w7 _ 4 _ _ _ hrow7)))
        all_goals
          have hsz6 := hon6.size
          have hge7 : ∀ k, v.ownBlock = some k → w.heap.size + 1 + 1 ≤ k := fun k hk => (own_lt htw6.own k hk).1
          have htwa := htw6.kept (w' := w6.alloc (.cells #[.int .i64 tk.t.k, .bool tk.t.b, .int .i64 tk.t.n, .string tk.t.s, .slice A1.pa tk.t.m A1.pc, .slice A1.na tk.t.q A1.nc] 25)) (by simp) (fun k _ h2 => Below.heap_alloc w6 _ k h2)
          have hn6 := hn5.kept (w' := w6) (fun k h1 h2 => hon6.block k h2 (by omega))
          have hna := hn6.kept (w' := w6.alloc (.cells #[.int .i64 tk.t.k, .bool tk.t.b, .int .i64 tk.t.n, .string tk.t.s, .slice A1.pa tk.t.m A1.pc, .slice A1.na tk.t.q A1.nc] 25)) (fun k _ h2 => Below.heap_alloc w6 _ k h2)
          have hLa := lies_alloc hL6 (fun k hk => hk.2) (.cells #[.int .i64 tk.t.k, .bool tk.t.b, .int .i64 tk.t.n, .string tk.t.s, .slice A1.pa tk.t.m A1.pc, .slice A1.na tk.t.q A1.nc] 25)
          have htw7 := Twin.step (wr := w5) (a := A1) (cap := cap7) htwa (by simp; omega) hsz5 (fun k hk => (own_lt htw5.own k hk).2.1) (fun k hk => (own_lt hn5 k hk).2.1) (by rw [HST.out.2.2.2]; exact hLa.up (fun k hk => ⟨hk.1, by simp; omega⟩)) (by rw [HST.out.2.2.2]; exact hown7) hgr7 (by simpa using hat7)
          have hn7 := hna.parts htwa.own hgr7
          have hset : ∀ k, k ≠ w.heap.size → (w7.setCell ⟨w.heap.size, 4, none⟩ (.slice (some ⟨g7, 0, none⟩) (i + 1) cap7)).heap[k]? = w7.heap[k]? := fun k hk => Below.heap_setCell _ _ _ k hk
          have htw8 := htw7.kept (w' := w7.setCell ⟨w.heap.size, 4, none⟩ (.slice (some ⟨g7, 0, none⟩) (i + 1) cap7)) (by simp) (fun k h1 _ => hset k (by omega))
          have hn8 := hn7.kept (w' := w7.setCell ⟨w.heap.size, 4, none⟩ (.slice (some ⟨g7, 0, none⟩) (i + 1) cap7)) (fun k h1 _ => hset k (by omega))
          have hrow8 := row_setCell (k := 4) hrow7 (.slice (some ⟨g7, 0, none⟩) (i + 1) cap7)
          have hzero8 := (hset (w.heap.size + 1) (by omega)).trans (far_row hgr7 hge7 ((hon6.block _ (lt_of_row hzero5) (by omega)).trans hzero5) (by omega))
          have hcu8 : Cur (w7.setCell ⟨w.heap.size, 4, none⟩ (.slice (some ⟨g7, 0, none⟩) (i + 1) cap7)) b s (tk.o : Int) tk.e := (hset b (by omega)).trans (far_row hgr7 hge7 hcu6 (by omega))
          have hon8 := only_set (only_grown (only_alloc (hon5.trans hon6) (.cells #[.int .i64 tk.t.k, .bool tk.t.b, .int .i64 tk.t.n, .string tk.t.s, .slice A1.pa tk.t.m A1.pc, .slice A1.na tk.t.q A1.nc] 25)) hgr7 (fun k hk => by have := hge7 k hk; omega)) (Nat.le_refl w.heap.size) 4 (.slice (some ⟨g7, 0, none⟩) (i + 1) cap7)
          have hsz8 : w.heap.size + 1 + 1 ≤ (w7.setCell ⟨w.heap.size, 4, none⟩ (.slice (some ⟨g7, 0, none⟩) (i + 1) cap7)).heap.size := by have := hgr7.size; simp at this; simp; omega
          clear hset htw7 htwa hna hLa hn6 hgr7 hown7 hat7 hlt7 hrow7 f47 p47 hrow6 p46 p4a hcu6 hon6 hsz6 hge7 hL6 hn7 htw6
          go_wp2
          go_roundw
          case rel =>
            refine ⟨i + 1, _, _, _, by omega, by go_num, hrow8, hzero8, ?_, ?_, hon8, hsz8, htw8, ?_, ?_⟩
            · rw [HST.out.2.1, HST.out.2.2.1]; exact hcu8
            · rw [HST.out.2.1]; exact ho6
            · rw [HST.out.1]; exact hn8
            · rw [HST.out.1]; exact hns5
          case measure => simp [intOf]; omega
    · obtain rfl : i = c.v := by omega
      have a0 := cell_of_row wr _ 0 _ _ _ hzero
      have a1 := cell_of_row wr _ 1 _ _ _ hzero
      have a2 := cell_of_row wr _ 2 _ _ _ hzero
      have a3 := cell_of_row wr _ 3 _ _ _ hzero
      have a4 := cell_of_row wr _ 4 _ _ _ hzero
      have a5 := cell_of_row wr _ 5 _ _ _ hzero
      have b0 := frozen_of_row wr _ 0 _ _ hzero
      have b1 := frozen_of_row wr _ 1 _ _ hzero
      have b2 := frozen_of_row wr _ 2 _ _ hzero
      have b3 := frozen_of_row wr _ 3 _ _ hzero
      have b4 := frozen_of_row wr _ 4 _ _ hzero
      have b5 := frozen_of_row wr _ 5 _ _ hzero
      have e0 := cell_of_row wr _ 0 _ _ _ hrow
      have e1 := cell_of_row wr _ 1 _ _ _ hrow
      have e2 := cell_of_row wr _ 2 _ _ _ hrow
      have e3 := cell_of_row wr _ 3 _ _ _ hrow
      have e4 := cell_of_row wr _ 4 _ _ _ hrow
      have e5 := cell_of_row wr _ 5 _ _ _ hrow
      have hlen : (X c.v).ts.length = c.v := by rw [HTS.out]; simp
      have hget : ∀ i, i < c.v → (X c.v).ts.getD i .no = Tf i := fun i hi => by rw [HTS.out]; simp [List.getD_eq_getElem?_getD, hi]
      obtain ⟨pa', pc', rfl, hpc, hpp, hll⟩ := htw.done (S := fun k => w.heap.size + 1 + 1 ≤ k ∧ k < wr.heap.size) (fun k h1 h2 => ⟨h1, h2⟩)
      obtain ⟨na', nc', rfl, hnk⟩ := hnm.done (S := fun k => w.heap.size + 1 + 1 ≤ k ∧ k < wr.heap.size) hnsz (fun k h1 h2 => ⟨h1, h2⟩)
      have Hn : Hid ((X c.v).ts.length = c.v) := hlen
      have HGET : Hid (∀ i, i < c.v → (X c.v).ts.getD i .no = Tf i) := hget
      obtain ⟨q, hq⟩ : ∃ q, (X c.v).ns.length = q := ⟨_, rfl⟩
      rw [hq] at e5 hrow hnk
      have HQ : Hid ((X c.v).ns.length = q) := hq
      clear hlen hget hq htw hnm hnsz
      go_wp2
      change bodyPost _ _ _ _ _ (set6 wr (w.heap.size + 1) (.int .i64 6) (.bool false) (.int .i64 0) (.string ⟨#[]⟩) (.slice pa' c.v pc') (.slice na' q nc'))
      have hro := set6_row hzero (.int .i64 6) (.bool false) (.int .i64 0) (.string ⟨#[]⟩) (.slice pa' c.v pc') (.slice na' q nc')
      have hkeep : ∀ k1, k1 ≠ w.heap.size + 1 → (set6 wr (w.heap.size + 1) (.int .i64 6) (.bool false) (.int .i64 0) (.string ⟨#[]⟩) (.slice pa' c.v pc') (.slice na' q nc')).heap[k1]? = wr.heap[k1]? := fun k1 h1 => set6_block _ _ _ _ _ _ _ _ k1 h1
      have hsz := set6_size wr (w.heap.size + 1) (.int .i64 6) (.bool false) (.int .i64 0) (.string ⟨#[]⟩) (.slice pa' c.v pc') (.slice na' q nc')
      have hof : Only b w (set6 wr (w.heap.size + 1) (.int .i64 6) (.bool false) (.int .i64 0) (.string ⟨#[]⟩) (.slice pa' c.v pc') (.slice na' q nc')) := only_set (only_set (only_set (only_set (only_set (only_set hon (by omega) 0 _) (by omega) 1 _) (by omega) 2 _) (by omega) 3 _) (by omega) 4 _) (by omega) 5 _
      obtain ⟨wf, hwf⟩ : ∃ wf, set6 wr (w.heap.size + 1) (.int .i64 6) (.bool false) (.int .i64 0) (.string ⟨#[]⟩) (.slice pa' c.v pc') (.slice na' q nc') = wf := ⟨_, rfl⟩
      rw [hwf] at hro hkeep hsz hof ⊢
      clear hwf
      have o0 := cell_of_row wf _ 0 _ _ _ hro
      have o1 := cell_of_row wf _ 1 _ _ _ hro
      have o2 := cell_of_row wf _ 2 _ _ _ hro
      have o3 := cell_of_row wf _ 3 _ _ _ hro
      have o4 := cell_of_row wf _ 4 _ _ _ hro
      have o5 := cell_of_row wf _ 5 _ _ _ hro
      refine bodyPost_ret (v := .agg #[.int .i64 6, .bool false, .int .i64 0, .string ⟨#[]⟩, .slice pa' c.v pc', .slice na' q nc']) (by simp [results, Try.results76, go_sem, o0, o1, o2, o3, o4, o5]) rfl ⟨⟨pa', pc', na', nc'⟩, ?_, ?_, ?_, hof, hXo⟩
      · show Ending.returned (Value.agg #[.int .i64 6, .bool false, .int .i64 0, .string ⟨#[]⟩, .slice pa' c.v pc', .slice na' q nc']) = Ending.returned (Value.agg #[.int .i64 6, .bool false, .int .i64 0, .string ⟨#[]⟩, .slice pa' (X c.v).ts.length pc', .slice na' (X c.v).ns.length nc'])
        rw [Hn.out, HQ.out]
      · have hfin : LiesS (fun k => w.heap.size + 1 + 1 ≤ k ∧ k < wr.heap.size) wr (nodeT 6 (X c.v)) ⟨pa', pc', na', nc'⟩ := by
          refine .mk A' (by decide) (by decide) (Nat.zero_le _) (by rw [Hn.out]; exact hpc) ?_ ?_ (by rw [HQ.out]; exact hnk)
          · intro h0
            rw [Hn.out] at h0
            obtain ⟨bb, oo, h1, h2, h3⟩ := hpp h0
            exact ⟨bb, oo, h1, h2, fun i hi => by rw [Hn.out] at hi; rw [HGET.out i hi]; exact h3 i hi⟩
          · intro i hi
            rw [Hn.out] at hi
            rw [HGET.out i hi]
            exact hll i hi
        refine (hfin.kept (fun k1 hk => hkeep k1 (by omega))).up (fun k1 hk => ⟨by omega, by omega⟩)
      · exact (hkeep b (by omega)).trans hcur
set_option maxRecDepth 100000 in
set_option maxHeartbeats 8000000 in
theorem takep_5 {s : ByteArray} (hs : s.size ≤ 4096) (d : Int) (hd0 : 0 ≤ d) (hd8 : d ≤ 100) {T : Nat → Int → Tak} (hT : TakeC s (d + 1) T) (w : World) (b o : Nat) (hcu : Cur w b s (o : Int) 0) (ho : o ≤ s.size) (c : Ans Nat) (hc : countA s o 0 32 = c) (hc32 : c.v ≤ 32) (hco : c.o ≤ s.size) (htx : ∀ o e, o ≤ s.size → (textA s o e 16).o ≤ s.size ∧ (textA s o e 16).v.size ≤ 4096) :
    Calls Try.prog 76 #[.pointer (some ⟨b, 0, none⟩), .agg #[.int .i64 5, .bool false, .int .i64 0, .string ⟨#[]⟩, .slice none 0 0, .slice none 0 0], .int .i64 d] w fun r w' => ∃ A : Ad, r = .returned ((nodeT 5 (runA s false T ⟨[], [], c.o, c.e⟩ c.v)).val A) ∧ LiesS (fun k => w.heap.size ≤ k ∧ k < w'.heap.size) w' (nodeT 5 (runA s false T ⟨[], [], c.o, c.e⟩ c.v)) A ∧ Cur w' b s ((runA s false T ⟨[], [], c.o, c.e⟩ c.v).o : Int) (runA s false T ⟨[], [], c.o, c.e⟩ c.v).e ∧ Only b w w' ∧ (runA s false T ⟨[], [], c.o, c.e⟩ c.v).o ≤ s.size := by
  obtain ⟨X, hX⟩ : ∃ X : Nat → St, X = runA s false T ⟨[], [], c.o, c.e⟩ := ⟨_, rfl⟩
  rw [← hX]
  have hX0 : X 0 = ⟨[], [], c.o, c.e⟩ := by rw [hX]; rfl
  have hXs : ∀ i, X (i + 1) = stepA s false T (X i) := fun i => by rw [hX]; rfl
  obtain ⟨Tf, hTf⟩ : ∃ Tf : Nat → Tr, Tf = fun j => (T (nameA s false (X j)).o (nameA s false (X j)).e).t := ⟨_, rfl⟩
  have hts : ∀ n, (X n).ts = (List.range n).map Tf := fun n => by rw [hX, run_ts, hTf, hX]; rfl
  have hbw := lt_of_row hcu
  have HX0 : Hid (X 0 = ⟨[], [], c.o, c.e⟩) := hX0
  have HXs : Hid (∀ i, X (i + 1) = stepA s false T (X i)) := hXs
  have HTf : Hid (∀ j, Tf j = (T (nameA s false (X j)).o (nameA s false (X j)).e).t) := fun j => by rw [hTf]
  have HTS : Hid (∀ n, (X n).ts = (List.range n).map Tf) := hts
  have HLN : Hid (∀ n, (X n).ns.length = 0) := fun n => by rw [hX, run_ns_none]; simp
  have HT : Hid (TakeC s (d + 1) T) := hT
  have HTX : Hid (∀ o e, o ≤ s.size → (textA s o e 16).o ≤ s.size ∧ (textA s o e 16).v.size ≤ 4096) := htx
  have HCC : Hid (countA s o 0 32 = c) := hc
  clear hX hX0 hXs hTf hts hT hc htx
  have hdw : IntKind.i64.wrap (d + 1) = d + 1 := by rw [IntKind.wrap_i64]; omega
  obtain ⟨i0, hi, hz0, hz1, hz2⟩ := info_parts info25
  obtain ⟨j0, hj, hy0, hy1, hy2⟩ := info_parts info9
  have hcur0 : Cur ((w.alloc (.cells #[.int .i64 5, .bool false, .int .i64 0, .string ⟨#[]⟩, .slice none 0 0, .slice none 0 0] 25)).alloc (.cells #[.int .i64 0, .bool false, .int .i64 0, .string ⟨#[]⟩, .slice none 0 0, .slice none 0 0] 25)) b s (o : Int) 0 := hcu.later (((Below.refl _ w).alloc (Nat.le_refl _) _).alloc (by simp) _)
  have r4 : ((w.alloc (.cells #[.int .i64 5, .bool false, .int .i64 0, .string ⟨#[]⟩, .slice none 0 0, .slice none 0 0] 25)).alloc (.cells #[.int .i64 0, .bool false, .int .i64 0, .string ⟨#[]⟩, .slice none 0 0, .slice none 0 0] 25)).heap[w.heap.size]? = some (.cells #[.int .i64 5, .bool false, .int .i64 0, .string ⟨#[]⟩, .slice none 0 0, .slice none 0 0] 25 (0, 0)) := by rw [Below.heap_alloc _ _ _ (by simp)]; exact heap_alloc_new _ _
  have r6 : ((w.alloc (.cells #[.int .i64 5, .bool false, .int .i64 0, .string ⟨#[]⟩, .slice none 0 0, .slice none 0 0] 25)).alloc (.cells #[.int .i64 0, .bool false, .int .i64 0, .string ⟨#[]⟩, .slice none 0 0, .slice none 0 0] 25)).heap[w.heap.size + 1]? = some (.cells #[.int .i64 0, .bool false, .int .i64 0, .string ⟨#[]⟩, .slice none 0 0, .slice none 0 0] 25 (0, 0)) := by have := heap_alloc_new (w.alloc (.cells #[.int .i64 5, .bool false, .int .i64 0, .string ⟨#[]⟩, .slice none 0 0, .slice none 0 0] 25)) (.cells #[.int .i64 0, .bool false, .int .i64 0, .string ⟨#[]⟩, .slice none 0 0, .slice none 0 0] 25); simpa using this
  have hon : Only b w ((w.alloc (.cells #[.int .i64 5, .bool false, .int .i64 0, .string ⟨#[]⟩, .slice none 0 0, .slice none 0 0] 25)).alloc (.cells #[.int .i64 0, .bool false, .int .i64 0, .string ⟨#[]⟩, .slice none 0 0, .slice none 0 0] 25)) := Only.ofBelow (((Below.refl _ w).alloc (Nat.le_refl _) _).alloc (by simp) _)
  go_enter Try.func76, Try.ntmps76
  go_wp2_with fail
  refine (cou_at (m := 32) hcur0 ho hs (by decide)).mono ?_
  rintro e w1 ⟨rfl, hcu1, hon1⟩
  rw [HCC.out] at hcu1 ⊢
  have hb0 : b ≠ w.heap.size := by omega
  have r41 := (hon1.block w.heap.size (by simp; omega) (by omega)).trans r4
  have r61 := (hon1.block (w.heap.size + 1) (by simp) (by omega)).trans r6
  have hon2 : Only b w w1 := hon.trans hon1
  have hsz1 : w.heap.size + 1 + 1 ≤ w1.heap.size := by have := hon1.size; simpa using this
  clear hon1 hon r4 r6 hcur0
  go_wp2_with fail
  go_loopw [9] (fun c9 wr => ∃ (i : Nat) (v u : Value) (A' : Nat → Ad), i ≤ c.v ∧ c9 = .int .i64 (i : Int) ∧ wr.heap[w.heap.size]? = some (.cells #[.int .i64 5, .bool false, .int .i64 0, .string ⟨#[]⟩, v, u] 25 (0, 0)) ∧ wr.heap[w.heap.size + 1]? = some (.cells #[.int .i64 0, .bool false, .int .i64 0, .string ⟨#[]⟩, .slice none 0 0, .slice none 0 0] 25 (0, 0)) ∧ Cur wr b s ((X i).o : Int) (X i).e ∧ (X i).o ≤ s.size ∧ Only b w wr ∧ w.heap.size + 1 + 1 ≤ wr.heap.size ∧ Twin u.ownBlock (w.heap.size + 1 + 1) wr v i Tf A' ∧ Nms (w.heap.size + 1 + 1) wr u (X i).ns ∧ (∀ s ∈ (X i).ns, s.size ≤ maxLen)) (fun c9 _ => c.v - (intOf c9).toNat)
  case atStart =>
    refine ⟨0, .slice none 0 0, .slice none 0 0, fun _ => ⟨none, 0, none, 0⟩, by omega, rfl, r41, r61, ?_, ?_, hon2, hsz1, Twin.start _ _ _ _ _, ?_, ?_⟩
    · rw [HX0.out]; exact hcu1
    · rw [HX0.out]; exact hco
    · rw [HX0.out]; exact Nms.start _ _
    · rw [HX0.out]; intro s hs; cases hs
  case round =>
    clear r41 r61 hon2 hsz1 hcu1
    obtain ⟨i, v, u, A', hi', rfl, hrow, hzero, hcur, hXo, hon, hszr, htw, hnm, hnsz⟩ := hrel
    have hlt4 := lt_of_row hrow
    by_cases him : i < c.v
    · have him' : (i : Int) < (c.v : Int) := by omega
      have e0 := cell_of_row wr _ 0 _ _ _ hrow
      have e5 := cell_of_row wr _ 5 _ _ _ hrow
      have e4 := cell_of_row wr _ 4 _ _ _ hrow
      obtain ⟨tx, htx⟩ : ∃ tx : Ans ByteArray, nameA s false (X i) = tx := ⟨_, rfl⟩
      have htxo : tx.o = (X i).o ∧ tx.e = (X i).e := by rw [← htx]; exact ⟨rfl, rfl⟩
      have htl : tx.o ≤ s.size ∧ True := ⟨by rw [htxo.1]; exact hXo, trivial⟩
      rw [← htxo.1, ← htxo.2] at hcur
      have hst : (X (i + 1)).ns = (X i).ns ∧ (X (i + 1)).o = (T tx.o tx.e).o ∧ (X (i + 1)).e = (T tx.o tx.e).e ∧ Tf i = (T tx.o tx.e).t := by
        refine ⟨?_, ?_, ?_, ?_⟩
        · rw [HXs.out, stepA]; rfl
        · rw [HXs.out, stepA, htx]
        · rw [HXs.out, stepA, htx]
        · rw [HTf.out, htx]
      have HST : Hid ((X (i + 1)).ns = (X i).ns ∧ (X (i + 1)).o = (T tx.o tx.e).o ∧ (X (i + 1)).e = (T tx.o tx.e).e ∧ Tf i = (T tx.o tx.e).t) := hst
      clear hst htxo htx
      have hlt5 := lt_of_row hrow
      have p4 := cell_of_row wr _ 4 _ _ _ hrow
      have hcurd : Cur wr.drew b s (tx.o : Int) tx.e := hcur
      obtain ⟨tk, htk⟩ : ∃ tk, T tx.o tx.e = tk := ⟨_, rfl⟩
      have hcall : Calls Try.prog 42 #[.pointer (some ⟨b, 0, none⟩), .int .i64 (d + 1)] wr.drew fun r w' => ∃ A1 : Ad, r = .returned (.agg #[.int .i64 tk.t.k, .bool tk.t.b, .int .i64 tk.t.n, .string tk.t.s, .slice A1.pa tk.t.m A1.pc, .slice A1.na tk.t.q A1.nc]) ∧ LiesS (fun k => wr.heap.size ≤ k ∧ k < w'.heap.size) w' tk.t A1 ∧ Cur w' b s (tk.o : Int) tk.e ∧ Only b wr w' ∧ tk.o ≤ s.size := by
        rw [← htk]
        refine (HT.out wr.drew b tx.o tx.e hcur htl.1).mono ?_
        rintro e1 w' ⟨A1, h1, h2, h3, h4, h5⟩
        exact ⟨A1, h1, h2, h3, ⟨h4.os, h4.tape, h4.output, h4.size, h4.block⟩, h5⟩
      rw [htk] at HST
      clear hcurd
      go_wp2_with fail
      go_region_law ((first | (go_simp; go_at_call 42; refine hcall.mono ?_; rintro e w6 ⟨A1, rfl, hL6, hcu6, hon6, ho6⟩; have hrow6 := (hon6.block _ hlt5 (by omega)).trans hrow; have p46 := cell_of_row w6 _ 4 _ _ _ hrow6; have p4a : ∀ o, (w6.alloc o).cell? ⟨w.heap.size, 4, none⟩ = some v := fun o => cell_kept p46 (Below.heap_alloc w6 o _ (block_lt p46)); have htw6 := htw.kept (w' := w6) hon6.size (fun k h1 h2 => hon6.block k h2 (by omega)); dsimp only) | (refine step_append_lies _ (by rfl) (.tmp 22) (.tmp 27) 22 (by rfl) (w.heap.size + 1 + 1) 25 i0 _ 6 88 Try.underlying22 hi hz0 hz1 hz2 (by rfl) (by decide) v i _ (by rfl) (htw6.own.alloc _) ⟨w6.heap.size, 0, none⟩ 1 1 (tk.t.cs A1) (by rfl) (by rfl) (World.news_of_block (heap_alloc_new w6 _)) (cs_one tk.t A1) (by decide) (by unfold maxLen; omega) (by omega) (by have := hon6.size; simp; omega) (w6.heap.size + 1) (by simp) ?_; intro g7 cap7 w7 hown7 hgr7 hat7 hlt7; have hrow7 := far_row hgr7 (fun k hk => (own_lt htw6.own k hk).1) hrow6 (show w.heap.size < _ by omega); have f47 := frozen_of_row w7 _ 4 _ _ hrow7; have p47 := cell_of_row w7 _ 4 _ _ _ hrow7)))
      all_goals
        have hsz6 := hon6.size
        have hge7 : ∀ k, v.ownBlock = some k → w.heap.size + 1 + 1 ≤ k := fun k hk => (own_lt htw6.own k hk).1
        have htwa := htw6.kept (w' := w6.alloc (.cells #[.int .i64 tk.t.k, .bool tk.t.b, .int .i64 tk.t.n, .string tk.t.s, .slice A1.pa tk.t.m A1.pc, .slice A1.na tk.t.q A1.nc] 25)) (by simp) (fun k _ h2 => Below.heap_alloc w6 _ k h2)
        have hn6 := hnm.kept (w' := w6) (fun k h1 h2 => hon6.block k h2 (by omega))
        have hna := hn6.kept (w' := w6.alloc (.cells #[.int .i64 tk.t.k, .bool tk.t.b, .int .i64 tk.t.n, .string tk.t.s, .slice A1.pa tk.t.m A1.pc, .slice A1.na tk.t.q A1.nc] 25)) (fun k _ h2 => Below.heap_alloc w6 _ k h2)
        have hLa := lies_alloc hL6 (fun k hk => hk.2) (.cells #[.int .i64 tk.t.k, .bool tk.t.b, .int .i64 tk.t.n, .string tk.t.s, .slice A1.pa tk.t.m A1.pc, .slice A1.na tk.t.q A1.nc] 25)
        have htw7 := Twin.step (wr := wr) (a := A1) (cap := cap7) htwa (by simp; omega) hszr (fun k hk => (own_lt htw.own k hk).2.1) (fun k hk => (own_lt hnm k hk).2.1) (by rw [HST.out.2.2.2]; exact hLa.up (fun k hk => ⟨hk.1, by simp; omega⟩)) (by rw [HST.out.2.2.2]; exact hown7) hgr7 (by simpa using hat7)
        have hn7 := hna.parts htwa.own hgr7
        have hset : ∀ k, k ≠ w.heap.size → (w7.setCell ⟨w.heap.size, 4, none⟩ (.slice (some ⟨g7, 0, none⟩) (i + 1) cap7)).heap[k]? = w7.heap[k]? := fun k hk => Below.heap_setCell _ _ _ k hk
        have htw8 := htw7.kept (w' := w7.setCell ⟨w.heap.size, 4, none⟩ (.slice (some ⟨g7, 0, none⟩) (i + 1) cap7)) (by simp) (fun k h1 _ => hset k (by omega))
        have hn8 := hn7.kept (w' := w7.setCell ⟨w.heap.size, 4, none⟩ (.slice (some ⟨g7, 0, none⟩) (i + 1) cap7)) (fun k h1 _ => hset k (by omega))
        have hrow8 := row_setCell (k := 4) hrow7 (.slice (some ⟨g7, 0, none⟩) (i + 1) cap7)
        have hzero8 := (hset (w.heap.size + 1) (by omega)).trans (far_row hgr7 hge7 ((hon6.block _ (lt_of_row hzero) (by omega)).trans hzero) (by omega))
        have hcu8 : Cur (w7.setCell ⟨w.heap.size, 4, none⟩ (.slice (some ⟨g7, 0, none⟩) (i + 1) cap7)) b s (tk.o : Int) tk.e := (hset b (by omega)).trans (far_row hgr7 hge7 hcu6 (by omega))
        have hon8 := only_set (only_grown (only_alloc (hon.trans hon6) (.cells #[.int .i64 tk.t.k, .bool tk.t.b, .int .i64 tk.t.n, .string tk.t.s, .slice A1.pa tk.t.m A1.pc, .slice A1.na tk.t.q A1.nc] 25)) hgr7 (fun k hk => by have := hge7 k hk; omega)) (Nat.le_refl w.heap.size) 4 (.slice (some ⟨g7, 0, none⟩) (i + 1) cap7)
        have hsz8 : w.heap.size + 1 + 1 ≤ (w7.setCell ⟨w.heap.size, 4, none⟩ (.slice (some ⟨g7, 0, none⟩) (i + 1) cap7)).heap.size := by have := hgr7.size; simp at this; simp; omega
        clear hset htw7 htwa hna hLa hn6 hgr7 hown7 hat7 hlt7 hrow7 f47 p47 hrow6 p46 p4a hcu6 hon6 hsz6 hge7 hL6 hn7 htw6
        go_wp2
        go_roundw
        case rel =>
          refine ⟨i + 1, _, _, _, by omega, by go_num, hrow8, hzero8, ?_, ?_, hon8, hsz8, htw8, ?_, ?_⟩
          · rw [HST.out.2.1, HST.out.2.2.1]; exact hcu8
          · rw [HST.out.2.1]; exact ho6
          · rw [HST.out.1]; exact hn8
          · rw [HST.out.1]; exact hnsz
        case measure => simp [intOf]; omega
    · obtain rfl : i = c.v := by omega
      have a0 := cell_of_row wr _ 0 _ _ _ hzero
      have a1 := cell_of_row wr _ 1 _ _ _ hzero
      have a2 := cell_of_row wr _ 2 _ _ _ hzero
      have a3 := cell_of_row wr _ 3 _ _ _ hzero
      have a4 := cell_of_row wr _ 4 _ _ _ hzero
      have a5 := cell_of_row wr _ 5 _ _ _ hzero
      have b0 := frozen_of_row wr _ 0 _ _ hzero
      have b1 := frozen_of_row wr _ 1 _ _ hzero
      have b2 := frozen_of_row wr _ 2 _ _ hzero
      have b3 := frozen_of_row wr _ 3 _ _ hzero
      have b4 := frozen_of_row wr _ 4 _ _ hzero
      have b5 := frozen_of_row wr _ 5 _ _ hzero
      have e0 := cell_of_row wr _ 0 _ _ _ hrow
      have e1 := cell_of_row wr _ 1 _ _ _ hrow
      have e2 := cell_of_row wr _ 2 _ _ _ hrow
      have e3 := cell_of_row wr _ 3 _ _ _ hrow
      have e4 := cell_of_row wr _ 4 _ _ _ hrow
      have e5 := cell_of_row wr _ 5 _ _ _ hrow
      have hlen : (X c.v).ts.length = c.v := by rw [HTS.out]; simp
      have hget : ∀ i, i < c.v → (X c.v).ts.getD i .no = Tf i := fun i hi => by rw [HTS.out]; simp [List.getD_eq_getElem?_getD, hi]
      obtain ⟨pa', pc', rfl, hpc, hpp, hll⟩ := htw.done (S := fun k => w.heap.size + 1 + 1 ≤ k ∧ k < wr.heap.size) (fun k h1 h2 => ⟨h1, h2⟩)
      obtain ⟨na', nc', rfl, hnk⟩ := hnm.done (S := fun k => w.heap.size + 1 + 1 ≤ k ∧ k < wr.heap.size) hnsz (fun k h1 h2 => ⟨h1, h2⟩)
      have H0 : Hid ((X c.v).ts.length = c.v) := hlen
      have HGET : Hid (∀ i, i < c.v → (X c.v).ts.getD i .no = Tf i) := hget
      obtain ⟨q, hq⟩ : ∃ q, (X c.v).ns.length = q := ⟨_, rfl⟩
      rw [hq] at e5 hrow hnk
      have HQ : Hid ((X c.v).ns.length = q) := hq
      clear hlen hget hq htw hnm hnsz
      go_wp2
      change bodyPost _ _ _ _ _ (set6 wr (w.heap.size + 1) (.int .i64 5) (.bool false) (.int .i64 0) (.string ⟨#[]⟩) (.slice pa' c.v pc') (.slice na' q nc'))
      have hro := set6_row hzero (.int .i64 5) (.bool false) (.int .i64 0) (.string ⟨#[]⟩) (.slice pa' c.v pc') (.slice na' q nc')
      have hkeep : ∀ k1, k1 ≠ w.heap.size + 1 → (set6 wr (w.heap.size + 1) (.int .i64 5) (.bool false) (.int .i64 0) (.string ⟨#[]⟩) (.slice pa' c.v pc') (.slice na' q nc')).heap[k1]? = wr.heap[k1]? := fun k1 h1 => set6_block _ _ _ _ _ _ _ _ k1 h1
      have hsz := set6_size wr (w.heap.size + 1) (.int .i64 5) (.bool false) (.int .i64 0) (.string ⟨#[]⟩) (.slice pa' c.v pc') (.slice na' q nc')
      have hof : Only b w (set6 wr (w.heap.size + 1) (.int .i64 5) (.bool false) (.int .i64 0) (.string ⟨#[]⟩) (.slice pa' c.v pc') (.slice na' q nc')) := only_set (only_set (only_set (only_set (only_set (only_set hon (by omega) 0 _) (by omega) 1 _) (by omega) 2 _) (by omega) 3 _) (by omega) 4 _) (by omega) 5 _
      obtain ⟨wf, hwf⟩ : ∃ wf, set6 wr (w.heap.size + 1) (.int .i64 5) (.bool false) (.int .i64 0) (.string ⟨#[]⟩) (.slice pa' c.v pc') (.slice na' q nc') = wf := ⟨_, rfl⟩
      rw [hwf] at hro hkeep hsz hof ⊢
      clear hwf
      have o0 := cell_of_row wf _ 0 _ _ _ hro
      have o1 := cell_of_row wf _ 1 _ _ _ hro
      have o2 := cell_of_row wf _ 2 _ _ _ hro
      have o3 := cell_of_row wf _ 3 _ _ _ hro
      have o4 := cell_of_row wf _ 4 _ _ _ hro
      have o5 := cell_of_row wf _ 5 _ _ _ hro
      refine bodyPost_ret (v := .agg #[.int .i64 5, .bool false, .int .i64 0, .string ⟨#[]⟩, .slice pa' c.v pc', .slice na' q nc']) (by simp [results, Try.results76, go_sem, o0, o1, o2, o3, o4, o5]) rfl ⟨⟨pa', pc', na', nc'⟩, ?_, ?_, ?_, hof, hXo⟩
      · show Ending.returned (Value.agg #[.int .i64 5, .bool false, .int .i64 0, .string ⟨#[]⟩, .slice pa' c.v pc', .slice na' q nc']) = Ending.returned (Value.agg #[.int .i64 5, .bool false, .int .i64 0, .string ⟨#[]⟩, .slice pa' (X c.v).ts.length pc', .slice na' (X c.v).ns.length nc'])
        rw [H0.out, HQ.out]
      · have hfin : LiesS (fun k => w.heap.size + 1 + 1 ≤ k ∧ k < wr.heap.size) wr (nodeT 5 (X c.v)) ⟨pa', pc', na', nc'⟩ := by
          refine .mk A' (by decide) (by decide) (Nat.zero_le _) (by rw [H0.out]; exact hpc) ?_ ?_ (by rw [HQ.out]; exact hnk)
          · intro h0
            rw [H0.out] at h0
            obtain ⟨bb, oo, h1, h2, h3⟩ := hpp h0
            exact ⟨bb, oo, h1, h2, fun i hi => by rw [H0.out] at hi; rw [HGET.out i hi]; exact h3 i hi⟩
          · intro i hi
            rw [H0.out] at hi
            rw [HGET.out i hi]
            exact hll i hi
        refine (hfin.kept (fun k1 hk => hkeep k1 (by omega))).up (fun k1 hk => ⟨by omega, by omega⟩)
      · exact (hkeep b (by omega)).trans hcur
end Go.Proofs.Ytjmjlijmeahmfaa
