/- All frames of a text, and where they end (Scan): of any text of at most 1048576 bytes; nothing that was there has changed. -/
import Derived.Test.YtgjalfcpfgbneaaGreatDoorFItr
import Derived.Maps.AppendAt
namespace Go.Proofs.YtgjalfcpfgbneaaGreatDoor.F
open Go Go.RowKit Go.Shelf
attribute [local go_sem] Oper.semAt_some

def cellsOf (l : List Fr) : List Value := l.flatMap fun x => [.int .i64 (x.at_ : Nat), .string ⟨x.body.toArray⟩, .bool x.good]
theorem cellsOf_len (l : List Fr) : (cellsOf l).length = l.length * 3 := by
  induction l with
  | nil => rfl
  | cons x l ih => simp [cellsOf] at ih ⊢; omega
theorem cellsOf_snoc (l : List Fr) (x : Fr) : cellsOf (l ++ [x]) = cellsOf l ++ [.int .i64 (x.at_ : Nat), .string ⟨x.body.toArray⟩, .bool x.good] := by
  simp [cellsOf]
theorem info43 : (Tryz.prog.info? 113).map (fun i => (i.zero, i.size, i.bytes)) = some (some (.agg #[.int .i64 0, .string ⟨#[]⟩, .bool false]), 3, 32) := by kernel_rfl
/-- What the loop over a text's frames holds between two rounds. -/
structure ScI (w : World) (n1 : Nat) (pre : List Fr) (A : World) : Prop where
  row : ∃ v, Boxed A w.heap.size 109 v ∧ A.ownsRow n1 113 3 v pre.length (cellsOf pre)
  last : Boxed A (w.heap.size + 1) 3 (.int .i64 (lastOf pre : Nat))
  below : Below w.heap.size w A
  size : n1 ≤ A.heap.size
theorem ScI.go {w : World} {n1 : Nat} {pre : List Fr} {A B : World} (h : ScI w n1 pre A) {b : Nat} (hb : w.heap.size + 2 ≤ b) (hB : Below b A B) (hk : ∀ k, n1 ≤ k → k < A.heap.size → B.heap[k]? = A.heap[k]?) : ScI w n1 pre B := by
  obtain ⟨⟨v, hv, hr⟩, hl, hbel, hs⟩ := h
  refine ⟨⟨v, (hB.block _ (by omega)).trans hv, ?_⟩, (hB.block _ (by omega)).trans hl, hbel.trans (hB.mono (by omega)), Nat.le_trans hs hB.size⟩
  refine ⟨hr.1, ?_⟩
  rcases hr.2 with h0 | ⟨g, cap, cur, hv', hg, hcur, rest⟩
  · exact .inl h0
  · exact .inr ⟨g, cap, cur, hv', hg, (hk g hg (Array.getElem?_eq_some_iff.1 hcur).1).trans hcur, rest⟩
theorem scanF_len (s : List UInt8) : ∀ k a, (scanF s k a).length ≤ k
  | 0, _ => Nat.le_refl _
  | k + 1, a => by
    unfold scanF
    split
    · simp; exact scanF_len s k _
    · simp
theorem scan_pre_len {s : List UInt8} {pre : List Fr} {x : Fr} (h : pre ++ [x] <+: scanL s 0) : pre.length + 1 ≤ s.length := by
  have h1 := h.length_le
  have h2 := scanF_len s (s.length - 0) 0
  simp at h1
  unfold scanL at h1
  omega
theorem scanF_mem (s : List UInt8) : ∀ k a (x : Fr), x ∈ scanF s k a → x.at_ ≤ s.length ∧ x.body.length ≤ s.length
  | 0, _, x, h => by cases h
  | k + 1, a, x, h => by
    unfold scanF at h
    split at h
    · rename_i ht0
      have ht := (thereB_iff s a).1 ht0
      rcases List.mem_cons.1 h with rfl | h'
      · have h1 := stop_le s a ht
        have h2 : (frF s a).stop = (frF s a).at_ + (frF s a).body.length := rfl
        omega
      · exact scanF_mem s k _ x h'
    · cases h
theorem scan_pre_mem {s : List UInt8} {pre : List Fr} {x : Fr} (h : pre ++ [x] <+: scanL s 0) : x.at_ ≤ s.length ∧ x.body.length ≤ s.length :=
  scanF_mem s _ 0 x (h.subset (by simp))
theorem cell3_new (W : World) (x y z : Value) (t : TypeId) : ∀ j u, [x, y, z][j]? = some u → (W.alloc (.cells #[x, y, z] t)).cell? ((⟨W.heap.size, 0, none⟩ : Addr).add j) = some u := by
  intro j u h
  have e : (⟨W.heap.size, 0, none⟩ : Addr).add j = ⟨W.heap.size, j, none⟩ := by unfold Addr.add; split <;> simp_all
  rw [e, cell_of_row _ _ _ _ _ _ (heap_new W (.cells #[x, y, z] t))]
  simpa using h
theorem scan_step {w Wb w1 W5 : World} {n1 : Nat} {pre : List Fr} {x : Fr} {v v' u : Value} {tmp : Obj} (hn : w.heap.size + 2 ≤ n1) (hs : n1 ≤ Wb.heap.size)
    (hv : Boxed Wb w.heap.size 109 v) (hrow : Wb.ownsRow n1 113 3 v pre.length (cellsOf pre)) (hl : Boxed Wb (w.heap.size + 1) 3 u) (hbel : Below w.heap.size w Wb)
    (hown' : w1.ownsRow n1 113 3 v' (pre.length + 1) (cellsOf pre ++ [.int .i64 (x.at_ : Nat), .string ⟨x.body.toArray⟩, .bool x.good])) (hgrow : (Wb.alloc tmp).grownBy w1 v.ownBlock)
    (hb5 : Below (w1.setCell ⟨w.heap.size, 0, none⟩ v').heap.size (w1.setCell ⟨w.heap.size, 0, none⟩ v') W5) :
    ScI w n1 (pre ++ [x]) (W5.setCell ⟨w.heap.size + 1, 0, none⟩ (.int .i64 (x.stop : Nat))) ∧ ∀ k, k < n1 → k ≠ w.heap.size → k ≠ w.heap.size + 1 → (W5.setCell ⟨w.heap.size + 1, 0, none⟩ (.int .i64 (x.stop : Nat))).heap[k]? = Wb.heap[k]? := by
  have hv1 : Boxed w1 w.heap.size 109 v := (hv.alloc tmp).kept hgrow (hv.not_row (by decide) hrow)
  have hl1 : Boxed w1 (w.heap.size + 1) 3 u := (hl.alloc tmp).kept hgrow (hl.not_row (by decide) hrow)
  have hown4 := hown'.kept (grownBy_setCell' w1 w.heap.size v') (.inr (hv1.not_row (by decide) hown').symm)
  have hv4 : Boxed (w1.setCell ⟨w.heap.size, 0, none⟩ v') w.heap.size 109 v' := hv1.set v'
  have hl4 : Boxed (w1.setCell ⟨w.heap.size, 0, none⟩ v') (w.heap.size + 1) 3 u := hl1.other (by omega) _
  have hsA : Wb.heap.size ≤ w1.heap.size := by have := hgrow.size; simp at this; omega
  have hs4 : (w1.setCell ⟨w.heap.size, 0, none⟩ v').heap.size = w1.heap.size := by simp [World.setCell]
  have hgn : ∀ k, k < n1 → some k ≠ v.ownBlock := by
    intro k hk e
    rcases hrow.2 with ⟨rfl, _⟩ | ⟨g, cap, cur, rfl, hb, _, _⟩
    · simp [Value.ownBlock] at e
    · have : k = g := by simpa [Value.ownBlock] using e
      omega
  have hk1 : ∀ k, k < n1 → w1.heap[k]? = Wb.heap[k]? := fun k hk =>
    (hgrow.block k (by simp; omega) (hgn k hk)).trans (Below.heap_alloc _ _ _ (by omega))
  have hk4 : ∀ k, k < n1 → k ≠ w.heap.size → (w1.setCell ⟨w.heap.size, 0, none⟩ v').heap[k]? = Wb.heap[k]? := fun k hk hne =>
    (Below.heap_setCell _ _ _ k hne).trans (hk1 k hk)
  have hb5k : ∀ k, k < w1.heap.size → W5.heap[k]? = (w1.setCell ⟨w.heap.size, 0, none⟩ v').heap[k]? := fun k hk => hb5.block k (by omega)
  have hk6 : ∀ k, k < n1 → k ≠ w.heap.size → k ≠ w.heap.size + 1 → (W5.setCell ⟨w.heap.size + 1, 0, none⟩ (.int .i64 (x.stop : Nat))).heap[k]? = Wb.heap[k]? := fun k hk h1 h2 =>
    (Below.heap_setCell _ _ _ k h2).trans ((hb5k k (by omega)).trans (hk4 k hk h1))
  refine ⟨⟨⟨v', ?_, ?_⟩, ?_, ?_, ?_⟩, hk6⟩
  · exact (Below.heap_setCell _ _ _ _ (by simp)).trans ((hb5k _ (by omega)).trans hv4)
  · rw [cellsOf_snoc]
    refine ⟨by rw [List.length_append, cellsOf_len]; simp; omega, ?_⟩
    rw [List.length_append, List.length_singleton]
    rcases hown4.2 with h0 | ⟨g, cap, cur, hv', hg, hcur, rest⟩
    · exact .inl h0
    · refine .inr ⟨g, cap, cur, hv', hg, ?_, rest⟩
      have hlt := (Array.getElem?_eq_some_iff.1 hcur).1
      exact (Below.heap_setCell _ _ _ _ (by simp; omega)).trans ((hb5.block g hlt).trans hcur)
  · rw [lastOf_snoc]
    have h5 : Boxed W5 (w.heap.size + 1) 3 u := (hb5k _ (by omega)).trans hl4
    exact h5.set _
  · have h1 : Below w.heap.size w (w1.setCell ⟨w.heap.size, 0, none⟩ v') := by
      refine hbel.trans ⟨hgrow.os, hgrow.tape, hgrow.output, by omega, fun k hk => hk4 k (by omega) (by omega)⟩
    exact (h1.trans (hb5.mono (by omega))).setCell (p := ⟨w.heap.size + 1, 0, none⟩) (by simp) _
  · have := hb5.size
    simp [World.setCell]
    simp [World.setCell] at this
    omega
set_option maxHeartbeats 2000000 in
theorem scan_any (s : ByteArray) (hs : s.size ≤ 1048576) (w : World) (hG : GL w) :
    Calls Tryz.prog 49 #[.string s] w fun e w' => ∃ v, e = .returned (.tuple #[v, .int .i64 (lastOf (scanL s.data.toList 0) : Nat)]) ∧ w'.ownsRow w.heap.size 113 3 v (scanL s.data.toList 0).length (cellsOf (scanL s.data.toList 0)) ∧ Below w.heap.size w w' := by
  refine (callsIn_wide (n := 9)).1 ?_
  refine callsIn_of_wp_marks Tryz.func49 rfl trivial ?_ rfl
  simp only [Tryz.ntmps49, List.size_toArray, List.length_cons, List.length_nil, Nat.reduceAdd, Nat.reduceSub, Array.replicate_succ, Array.replicate_zero, List.push_toArray, List.append_toArray, List.nil_append, List.cons_append]
  gi_wp2_with fail
  refine ⟨trivial, ?_⟩
  refine (callsIn_wide.2 (all_any s _)).mono ?_
  rintro e w' ⟨rfl, rfl⟩
  gi_wp2_with fail
  obtain ⟨W0, hW0⟩ : ∃ W0, ((w.alloc (.cells #[.slice none 0 0] 109)).alloc (.cells #[.int .i64 0] 3)).alloc (.cells #[.string s] 9) = W0 := ⟨_, rfl⟩
  have bL : Boxed W0 w.heap.size 109 (.slice none 0 0) := by rw [← hW0]; exact ((Boxed.new w 109 (.slice none 0 0)).alloc _).alloc _
  have bE : Boxed W0 (w.heap.size + 1) 3 (.int .i64 0) := by
    rw [← hW0]
    have h := (Boxed.new (w.alloc (.cells #[.slice none 0 0] 109)) 3 (.int .i64 0)).alloc (.cells #[.string s] 9)
    rwa [World.size_alloc] at h
  have bS : Boxed W0 (w.heap.size + 1 + 1) 9 (.string s) := by
    rw [← hW0]
    have h := Boxed.new ((w.alloc (.cells #[.slice none 0 0] 109)).alloc (.cells #[.int .i64 0] 3)) 9 (.string s)
    rwa [World.size_alloc, World.size_alloc] at h
  have hB0 : Below w.heap.size w W0 := by rw [← hW0]; exact (((Below.refl _ w).alloc (Nat.le_refl _) _).alloc (by simp) _).alloc (by simp; omega) _
  have hsz : W0.heap.size = w.heap.size + 3 := by rw [← hW0]; simp
  rw [hW0]
  clear hW0
  refine range_law (w := W0) (gf := 94) (lb := #[.pointer (some ⟨w.heap.size + 1 + 1, 0, none⟩)]) rfl (enters_of Tryz.func94 (by kernel_rfl) rfl) (fun x : Fr => #[frA x]) (fun _ => rfl)
    (fun W => ∃ n1, W0.heap.size + 2 ≤ n1 ∧ ScI w n1 (scanL s.data.toList 0) W) ?call ?done
  case call =>
    intro Rd hRd hround W1 hR1 hb1 hs1
    refine (itr_any s hs (9 - 1) (W0.heap.size + 1) (w.heap.size + 1 + 1) W1 (fun n1 pre A => Rd A ∧ W1.heap.size ≤ n1 ∧ ScI w n1 pre A) (by omega) ?kc ?kjg ?kg ?kj ?kj0 ?ky).mono ?kfin
    case kc => exact (hb1.cell (p := ⟨w.heap.size + 1 + 1, 0, none⟩) (by simp; omega)).trans bS.cell
    case kjg => rintro n1 pre A ⟨_, _, h⟩; exact hG.later rfl h.below
    case kg => exact hG.later rfl (hB0.trans (hb1.mono (by omega)))
    case kj =>
      rintro n1 pre A B ⟨hR, hn, h⟩ hB hk
      exact ⟨hRd A B hR (fun k h1 h2 => hB.block k (by omega)), hn, h.go (by omega) hB hk⟩
    case kj0 =>
      intro n1 B hB hn1 hn
      refine ⟨hRd W1 B hR1 (fun k h1 h2 => hB.block k (by omega)), hn1, ⟨_, ?_, World.ownsRow_nil _ _ _ _⟩, ?_, ?_, hn⟩
      · exact (hB.block _ (by omega)).trans ((hb1.block _ (by omega)).trans bL)
      · exact (hB.block _ (by omega)).trans ((hb1.block _ (by omega)).trans bE)
      · exact hB0.trans ((hb1.mono (by omega)).trans (hB.mono (by omega)))
    case ky =>
      rintro n1 pre x A ⟨hR, hn1, hI⟩ hpfx
      refine YieldAt.mono (hround x A (fun B => ScI w n1 (pre ++ [x]) B ∧ B.heap[w.heap.size + 1 + 1]? = A.heap[w.heap.size + 1 + 1]? ∧ ∀ k, W1.heap.size ≤ k → k < n1 → B.heap[k]? = A.heap[k]?) hR ?rd) ?_
      case rd =>
        clear hround hRd
        unfold frA
        have hDm : W0.heap.size + 1 < n1 := by omega
        have hlen := scan_pre_len hpfx
        have hmem := scan_pre_mem hpfx
        rw [slen] at hlen hmem
        have hsA := hI.size
        obtain ⟨m, hm⟩ : ∃ m, W0.heap.size + 1 = m := ⟨_, rfl⟩
        rw [hm] at hDm ⊢
        obtain ⟨D, hD⟩ : ∃ D, W0.heap.size = D := ⟨_, rfl⟩
        rw [hD]
        gi_wp2
        refine ⟨fun k _ _ => Below.heap_alloc _ _ _ (by omega), fun o => ?_⟩
        obtain ⟨Wb, hWb⟩ : ∃ Wb, (A.alloc (.cells #[.int .i64 (x.at_ : Nat), .string ⟨x.body.toArray⟩, .bool x.good] 113)).putObj m o = Wb := ⟨_, rfl⟩
        have hWk : ∀ k, k < A.heap.size → k ≠ m → Wb.heap[k]? = A.heap[k]? := by
          intro k h1 h2; rw [← hWb]; exact (World.putObj_heap_other h2).trans (Below.heap_alloc _ _ _ h1)
        have hWs : Wb.heap.size = A.heap.size + 1 := by rw [← hWb]; simp [World.putObj]
        have hF : Wb.heap[A.heap.size]? = some (.cells #[.int .i64 (x.at_ : Nat), .string ⟨x.body.toArray⟩, .bool x.good] 113 (0, 0)) := by
          rw [← hWb]; exact (World.putObj_heap_other (by omega)).trans (heap_new _ _)
        have hBA : Below (w.heap.size + 2) A Wb := ⟨by rw [← hWb]; rfl, by rw [← hWb]; rfl, by rw [← hWb]; rfl, by omega, fun k hk => hWk k (by omega) (by omega)⟩
        have hIb : ScI w n1 pre Wb := hI.go (Nat.le_refl _) hBA (fun k h1 h2 => hWk k h2 (by omega))
        rw [hWb]
        clear hWb
        obtain ⟨⟨v, hvA, hrA⟩, _, _, _⟩ := hI
        obtain ⟨⟨v2, hv, hrow⟩, hl, hbel, hsb⟩ := hIb
        obtain rfl : v = v2 := by
          have h1 := (hWk w.heap.size (by omega) (by omega)).trans hvA
          have h2 := h1.symm.trans hv
          simpa using h2
        have hgF : some A.heap.size ≠ v.ownBlock := by
          intro e
          rcases hrA.2 with ⟨rfl, _⟩ | ⟨g, cap, cur, rfl, hb, hcur, _⟩
          · simp [Value.ownBlock] at e
          · have : A.heap.size = g := by simpa [Value.ownBlock] using e
            have := (Array.getElem?_eq_some_iff.1 hcur).1
            omega
        clear hvA hrA hBA
        have hc := hv.cell
        have rF := row3 hF
        obtain ⟨i0, hi, hz0, hz1, hz2⟩ := info_parts info43
        obtain ⟨F, hFF⟩ : ∃ F, A.heap.size = F := ⟨_, rfl⟩
        rw [hFF] at rF hgF hF hWs hWk ⊢
        have hml : pre.length + 1 ≤ maxLen := Nat.le_trans (show pre.length + 1 ≤ 1048576 by omega) (by decide)
        have hby : (pre.length + 1) * 32 ≤ 140737488355328 := by omega
        have hc3 : ∀ j u, [Value.int .i64 (x.at_ : Nat), .string ⟨x.body.toArray⟩, .bool x.good][j]? = some u → (Wb.alloc (.cells #[.int .i64 (x.at_ : Nat), .string ⟨x.body.toArray⟩, .bool x.good] 113)).cell? ((⟨F + 1, 0, none⟩ : Addr).add j) = some u := by
          rw [← hWs]; exact cell3_new _ _ _ _ _
        gi_wp2_with (first
          | (gi_at_builtin; refine wpListIn_append_own _ rfl _ _ 109 rfl n1 113 i0 _ 3 32 Tryz.underlying109 hi hz0 hz1 hz2 rfl (by decide) _ _ _ rfl (hrow.alloc _) ⟨F + 1, 0, none⟩ 1 1 [.int .i64 (x.at_ : Nat), .string ⟨x.body.toArray⟩, .bool x.good] rfl rfl hc3 (by simp [Value.oneCell']) hml hby (by simp; omega) ?_; intro v' w1 hown' hgrow _; obtain ⟨g', cap', rfl⟩ := ownsRow_succ hown'; have hv1 := (hv.alloc (.cells #[.int .i64 (x.at_ : Nat), .string ⟨x.body.toArray⟩, .bool x.good] 113)).kept hgrow (hv.not_row (by decide) hrow); have hc1 := hv1.cell; have hf1 := hv1.frozen; have hsz1 : Wb.heap.size + 1 ≤ w1.heap.size := (by have h := hgrow.size; simpa using h); have hF1 := (hgrow.block F (by simp; omega) hgF).trans ((Below.heap_alloc _ _ _ (by omega)).trans hF); have hF4 := (Below.heap_setCell w1 ⟨w.heap.size, 0, none⟩ (.slice (some ⟨g', 0, none⟩) (pre.length + 1) cap') F (by simp; omega)).trans hF1; have r4 := row3 hF4; have hl4 : Boxed (w1.setCell ⟨w.heap.size, 0, none⟩ (.slice (some ⟨g', 0, none⟩) (pre.length + 1) cap')) (w.heap.size + 1) 3 _ := Boxed.other ((hl.alloc (.cells #[.int .i64 (x.at_ : Nat), .string ⟨x.body.toArray⟩, .bool x.good] 113)).kept hgrow (hl.not_row (by decide) hrow)) (by omega) _; have hs4 : (w1.setCell ⟨w.heap.size, 0, none⟩ (.slice (some ⟨g', 0, none⟩) (pre.length + 1) cap')).heap.size = w1.heap.size := (by simp [World.setCell]))
          | (refine ⟨trivial, ?_⟩; gi_at_call 77; refine (CallsIn.inRound m (callsIn_wide.2 (end_fr x (by omega) (by omega) _))).mono ?_; rintro e W5 ⟨rfl, hb5⟩; have hl5 : Boxed W5 (w.heap.size + 1) 3 _ := (hb5.block _ (by omega)).trans hl4; have hc5 := hl5.cell; have hf5 := hl5.frozen))
        obtain ⟨hI6, hk6⟩ := scan_step (x := x) (by omega) hsb hv hrow hl hbel hown' hgrow hb5
        refine ⟨fun k h1 h2 => hk6 k (by omega) (by omega) (by omega), fun o' _ => ⟨?_, ?_, ?_⟩⟩
        · exact hI6.go (Nat.le_refl _) ⟨rfl, rfl, rfl, by simp [World.putObj], fun k hk => World.putObj_heap_other (by omega)⟩ (fun k h1 h2 => World.putObj_heap_other (by omega))
        · exact (World.putObj_heap_other (by omega)).trans ((hk6 _ (by omega) (by omega) (by omega)).trans (hWk _ (by omega) (by omega)))
        · intro k h1 h2
          exact (World.putObj_heap_other (by omega)).trans ((hk6 k (by omega) (by omega) (by omega)).trans (hWk k (by omega) (by omega)))
      rintro e B ⟨rfl, hRB, hIB, h1, h2⟩
      exact ⟨rfl, ⟨hRB, hn1, hIB⟩, h1, h2⟩
    case kfin =>
      rintro e W' ⟨hv, n1, hR, hn, hI⟩
      exact ⟨hv, hR, n1, by omega, hI⟩
  case done =>
    rintro W o ⟨n1, hn1, hI⟩ hK
    obtain ⟨W4, hW4⟩ : ∃ W4, W.putObj (W0.heap.size + 1) o = W4 := ⟨_, rfl⟩
    have hK4 : W4.heap[W0.heap.size]? = some (.deferred (some [])) := by rw [← hW4]; exact (World.putObj_heap_other (by omega)).trans hK
    have hB4 : Below (w.heap.size + 2) W W4 := by rw [← hW4]; exact ⟨rfl, rfl, rfl, by simp [World.putObj], fun k hk => World.putObj_heap_other (by omega)⟩
    have hI4 : ScI w n1 (scanL s.data.toList 0) W4 := hI.go (Nat.le_refl _) hB4 (fun k h1 h2 => by rw [← hW4]; exact World.putObj_heap_other (by omega))
    obtain ⟨⟨v, hv, hrow⟩, hl, hbel, hsz4⟩ := hI4
    have hcv := hv.cell
    have hcl := hl.cell
    rw [hW4]
    clear hW4 hI hB4 hK
    gi_wp2_with fail
    refine wpIn_wide.2 ?_
    go_quiet (fail)
    gi_wp2
    have hK5 : (W4.drewN nq).heap[W0.heap.size]? = some (.deferred (some [])) := hK4
    refine ⟨by simp, .inl ⟨_, _, rfl, run_takeDeferred hK5, ?_⟩⟩
    refine ⟨_, results_tmp2 Tryz.results49 _ _ _, v, rfl, ?_, ?_⟩
    · have hr : (W4.drewN nq).ownsRow w.heap.size 113 3 v (scanL s.data.toList 0).length (cellsOf (scanL s.data.toList 0)) := by
        refine ⟨hrow.1, ?_⟩
        rcases hrow.2 with h0 | ⟨g, cap, cur, hv', hg, hcur, rest⟩
        · exact .inl h0
        · exact .inr ⟨g, cap, cur, hv', by omega, hcur, rest⟩
      exact ownsRow_putObj hr _ hK5 rfl
    · exact (below_drewN hbel nq).trans ⟨rfl, rfl, rfl, by simp [World.putObj], fun k hk => World.putObj_heap_other (by omega)⟩
end Go.Proofs.YtgjalfcpfgbneaaGreatDoor.F
