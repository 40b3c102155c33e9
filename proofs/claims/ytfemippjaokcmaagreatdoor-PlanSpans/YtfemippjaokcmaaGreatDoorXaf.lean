/- Cut: a short text, too many parts. Cut: a long text, not too many parts. Cut: a short text, not too many parts. -/
import Derived.Test.YtfemippjaokcmaaGreatDoorXae
import Derived.Deep.RegionHeld3
import Derived.Deep.RegionLaw
import Derived.BigGuardPart
namespace Go.Proofs.YtfemippjaokcmaaGreatDoor.V
open Go.RowKit
set_option maxRecDepth 100000 in
set_option maxHeartbeats 4000000 in
theorem cut_ws {B : Nat} {w : World} {k : Int} {b : Bool} {n : Int} {s : ByteArray} {m : Nat} {f : Nat -> Tr} {q : Nat} {g : Nat -> ByteArray} {x : Ad} (deep wide : Nat) (hL : Lies B w (.mk k b n s m f q g) x) (hB : B <= w.heap.size) (hw : wide <= 33) (hd : deep <= 100)
    (h11 : (s.size : Int) <= 1100) (hmw : (wide : Int) < (m : Int)) (hd0 : 0 < deep) (ih : ∀ i, CutC (f i)) :
    Calls Tryz.prog 13 #[(Tr.mk k b n s m f q g).val x, .int .i64 (deep : Int), .int .i64 (wide : Int)] w fun e w' => ∃ A, e = .returned ((Tr.mk k b n (s) (wide) (fun i => cutT (f i) (deep - 1) 4) (min q wide) g).val A) /\ LiesS (fun k => k < B ∨ (w.heap.size <= k /\ k < w'.heap.size)) w' (Tr.mk k b n (s) (wide) (fun i => cutT (f i) (deep - 1) 4) (min q wide) g) A /\ Below w.heap.size w w' := by
  obtain ⟨A, hp, hr⟩ := hL.part
  have hN := hL.lims
  replace hN : (-9223372036854775808 <= k /\ k < 9223372036854775808) /\ (-9223372036854775808 <= n /\ n < 9223372036854775808) /\ s.size <= maxLen /\ (m <= x.pc /\ x.pc <= maxLen) /\ Names B w q g x.na x.nc := hN
  obtain ⟨pa, pc, na, nc⟩ := x
  have hV : (Tr.mk k b n s m f q g).val ⟨pa, pc, na, nc⟩ = .agg #[.int .i64 k, .bool b, .int .i64 n, .string s, .slice pa m pc, .slice na q nc] := rfl
  rw [hV]
  clear hV
  obtain ⟨T, hT⟩ : ∃ T : Nat -> Tr, T = fun i => cutT (f i) (deep - 1) 4 := ⟨_, rfl⟩
  rw [<- hT]
  obtain ⟨e, he⟩ : ∃ e : Nat, e = deep - 1 := ⟨_, rfl⟩
  have HT : Hid (∀ i, T i = cutT (f i) e 4) := fun i => by rw [hT, he]
  have HI : Hid (∀ i, CutC (f i)) := ih
  have HP : Hid (0 < m -> ∃ b o, pa = some ⟨b, o, none⟩ /\ b < B /\ ∀ i, i < m -> At6 w b (o + i * 6) (f i) (A i)) := hp
  have HR : Hid (∀ i, i < m -> Lies B w (f i) (A i)) := hr
  have HN : Hid ((-9223372036854775808 <= k /\ k < 9223372036854775808) /\ (-9223372036854775808 <= n /\ n < 9223372036854775808) /\ s.size <= maxLen /\ (m <= pc /\ pc <= maxLen) /\ Names B w q g na nc) := hN
  have HD : Hid (e <= 100) := by show _ <= _; omega
  have hzw : w.heap.size < w.heap.size + 1 + 1 + 1 := by omega
  have hdd : ((deep : Int) == 0) = false := by simp; omega
  have hde : IntKind.i64.wrap ((deep : Int) - 1) = (e : Int) := by rw [IntKind.wrap_i64]; omega
  clear ih hp hr hN hT he
  obtain ⟨i0, hi, hz0, hz1, hz2⟩ := info_parts info25
  go_enter Tryz.func13, Tryz.ntmps13
  go_wp2_with fail
  obtain ⟨W2, hW2⟩ : ∃ W2, (w.alloc (.cells #[.int .i64 k, .bool b, .int .i64 n, .string s, .slice pa m pc, .slice na q nc] 25)).alloc (.cells #[.int .i64 0, .bool false, .int .i64 0, .string ⟨#[]⟩, .slice none 0 0, .slice none 0 0] 25) = W2 := ⟨_, rfl⟩
  have hb2 : Below w.heap.size w W2 := by rw [<- hW2]; exact ((Below.refl _ w).alloc (Nat.le_refl _) _).alloc (by simp) _
  have hs2 : W2.heap.size = w.heap.size + 1 + 1 := by rw [<- hW2]; simp
  have r3 : W2.heap[w.heap.size]? = some (.cells #[.int .i64 k, .bool b, .int .i64 n, .string s, .slice pa m pc, .slice na q nc] 25 (0, 0)) := by
    rw [<- hW2, Below.heap_alloc _ _ _ (by simp)]; exact heap_alloc_new _ _
  have r6 : W2.heap[w.heap.size + 1]? = some (.cells #[.int .i64 0, .bool false, .int .i64 0, .string ⟨#[]⟩, .slice none 0 0, .slice none 0 0] 25 (0, 0)) := by
    rw [<- hW2]; have := heap_alloc_new (w.alloc (.cells #[.int .i64 k, .bool b, .int .i64 n, .string s, .slice pa m pc, .slice na q nc] 25)) (.cells #[.int .i64 0, .bool false, .int .i64 0, .string ⟨#[]⟩, .slice none 0 0, .slice none 0 0] 25); simpa using this
  have r7 : (W2.alloc (.cells #[.int .i64 k, .bool b, .int .i64 n, .string (s), .slice none 0 0, .slice na q nc] 25)).heap[w.heap.size + 1 + 1]? = some (.cells #[.int .i64 k, .bool b, .int .i64 n, .string (s), .slice none 0 0, .slice na q nc] 25 (0, 0)) := by rw [<- hs2]; exact heap_alloc_new _ _
  have hb7 : Below (w.heap.size + 1 + 1) W2 (W2.alloc (.cells #[.int .i64 k, .bool b, .int .i64 n, .string (s), .slice none 0 0, .slice na q nc] 25)) := (Below.refl _ _).alloc (by omega) _
  rw [hW2]
  clear hW2
  go_loopw [9] (fun c9 wr => ∃ (i : Nat) (v : Value) (A' : Nat -> Ad), i <= wide /\ c9 = .int .i64 (i : Int) /\ wr.heap[w.heap.size + 1 + 1]? = some (.cells #[.int .i64 k, .bool b, .int .i64 n, .string (s), v, .slice na q nc] 25 (0, 0)) /\ Below (w.heap.size + 1 + 1) W2 wr /\ Mine 25 (fun k => k < B) (w.heap.size + 1 + 1 + 1) wr v i T A') (fun c9 _ => wide - (intOf c9).toNat)
  case atStart => exact ⟨0, .slice none 0 0, A, by omega, rfl, r7, hb7, Mine.start _ _ _ _ _ _⟩
  case round =>
    clear r7 hb7
    obtain ⟨i, v, A', hi', rfl, hrow, hbw, hmine⟩ := hrel
    have hlt7 := lt_of_row hrow
    by_cases hiN : i < wide
    . have hiN' : (i : Int) < ((wide : Nat) : Int) := by omega
      have him' : (i : Int) < (m : Int) := by omega
      have hi33 : i < 33 := by omega
      obtain ⟨pb, po, rfl, hpb, hat⟩ := HP.out (by omega)
      have hBw : Below B w wr := (hb2.mono hB).trans (hbw.mono (by omega))
      have h6a := (hat i (by omega)).later hpb hBw
      have d0 := h6a.c0
      have d1 := h6a.c1
      have d2 := h6a.c2
      have d3 := h6a.c3
      have d4 := h6a.c4
      have d5 := h6a.c5
      have hLi := (HR.out i (by omega)).later hBw
      have e4 := cell_of_row wr _ 4 _ _ _ hrow
      have f4 := frozen_of_row wr _ 4 _ _ hrow
      have g4 := cell_of_row wr _ 4 _ _ _ ((hbw.block w.heap.size (by omega)).trans r3)
      clear hat h6a
      have hszr := hbw.size
      have hLd : Lies B wr.drew (f i) (A i) := LiesS.kept (w := wr) (w' := wr.drew) (fun _ _ => rfl) hLi
      obtain ⟨t, ht⟩ : ∃ t, T i = t := ⟨_, rfl⟩
      have hcall : Calls Tryz.prog 13 #[.agg #[.int .i64 (f i).k, .bool (f i).b, .int .i64 (f i).n, .string (f i).s, .slice (A i).pa (f i).m (A i).pc, .slice (A i).na (f i).q (A i).nc], .int .i64 (e : Int), .int .i64 4] wr.drew fun e w' => ∃ A1 : Ad, e = .returned (.agg #[.int .i64 t.k, .bool t.b, .int .i64 t.n, .string t.s, .slice A1.pa t.m A1.pc, .slice A1.na t.q A1.nc]) /\ LiesS (fun k => k < B ∨ (wr.heap.size <= k /\ k < w'.heap.size)) w' t A1 /\ Below wr.heap.size wr w' := by
        rw [<- ht, HT.out i]
        refine (HI.out i B wr.drew (A i) e 4 hLd (by show B <= wr.heap.size; omega) (by omega) HD.out).mono ?_
        rintro e1 w' ⟨A1, h1, h2, h3⟩
        exact ⟨A1, h1, h2, (Below.refl _ wr).drew.trans h3⟩
      go_wp2_with fail
      go_region_law ((first | (go_simp; go_at_call 13; refine hcall.mono ?_; rintro e w1 ⟨A1, rfl, hL1, hb1⟩; have e41 := (hb1.cell (p := ⟨w.heap.size + 1 + 1, 4, none⟩) hlt7).trans e4; have e4a : ∀ o, (w1.alloc o).cell? ⟨w.heap.size + 1 + 1, 4, none⟩ = some v := fun o => cell_kept e41 (Below.heap_alloc w1 o _ (block_lt e41)); have hrow1 := (hb1.block _ hlt7).trans hrow; have hm1 := hmine.kept (w' := w1) hb1.size (fun k hk => hb1.block k (by omega)) (fun k _ hk => hb1.block k hk); dsimp only) | (refine step_append_lies _ (by rfl) (.tmp 35) (.tmp 44) 23 (by rfl) (w.heap.size + 1 + 1 + 1) 25 i0 _ 6 88 Tryz.underlying23 hi hz0 hz1 hz2 (by rfl) (by decide) v i _ (by rfl) (hm1.own.alloc _) ⟨w1.heap.size, 0, none⟩ 1 1 (t.cs A1) (by rfl) (by rfl) (World.news_of_block (heap_alloc_new w1 _)) (cs_one t A1) (by decide) (by unfold maxLen; omega) (by omega) (by have := hb1.size; simp; omega) (w1.heap.size + 1) (by simp) ?_; intro g1 cap1 w2 hown2 hgr2 hat2 hlt2; have e42 := far_cell hgr2 hm1.block_ge e41 (by show w.heap.size + 1 + 1 < _; omega); have hrow2 := far_row hgr2 hm1.block_ge hrow1 (show w.heap.size + 1 + 1 < _ by omega); have f42 := frozen_of_row w2 _ 4 _ _ hrow2)))
      all_goals
        have hmA := hm1.kept (w' := w1.alloc (.cells #[.int .i64 t.k, .bool t.b, .int .i64 t.n, .string t.s, .slice A1.pa t.m A1.pc, .slice A1.na t.q A1.nc] 25)) (by simp) (fun k hk => Below.heap_alloc w1 _ k (by have := hb1.size; omega)) (fun k _ hk => Below.heap_alloc w1 _ k hk)
        have hbz := ((hbw.trans (hb1.mono (by omega))).alloc (by have := hb1.size; omega) (.cells #[.int .i64 t.k, .bool t.b, .int .i64 t.n, .string t.s, .slice A1.pa t.m A1.pc, .slice A1.na t.q A1.nc] 25)).grown hgr2 (by have := hb1.size; simp; omega) (fun k hk => by have := hm1.block_ge k hk; omega)
        have hT1 := lies_alloc hL1 (fun k hk => by have := hb1.size; omega) (.cells #[.int .i64 t.k, .bool t.b, .int .i64 t.n, .string t.s, .slice A1.pa t.m A1.pc, .slice A1.na t.q A1.nc] 25)
        have hstep := Mine.step (wr := wr) (a := A1) hmA (by have := hb1.size; simp; omega) (by omega) hmine.block_lt (fun k hk => by omega) (by rw [ht]; exact hT1.up (fun k hk => by rcases hk with hk | hk; exact Or.inl hk; exact Or.inr ⟨hk.1, by simp; omega⟩)) (by rw [ht]; exact hown2) hgr2 hat2 (by simp)
        have hset := hstep.kept (w' := w2.setCell ⟨w.heap.size + 1 + 1, 4, none⟩ (.slice (some ⟨g1, 0, none⟩) (i + 1) cap1)) (by simp) (fun k hk => Below.heap_setCell _ _ _ k (by show k ≠ w.heap.size + 1 + 1; omega)) (fun k hk _ => Below.heap_setCell _ _ _ k (by show k ≠ w.heap.size + 1 + 1; omega))
        have hrow3 := row_setCell (k := 4) hrow2 (.slice (some ⟨g1, 0, none⟩) (i + 1) cap1)
        have hbz3 := hbz.setCell (p := ⟨w.heap.size + 1 + 1, 4, none⟩) (Nat.le_refl _) (.slice (some ⟨g1, 0, none⟩) (i + 1) cap1)
        clear hmA hbz hT1 hstep hown2 hgr2 hm1 hL1 hb1
        go_wp2
        go_roundw
        case rel => exact ⟨i + 1, _, _, by omega, by go_num, hrow3, hbz3, hset⟩
        case measure => simp [intOf]; omega
    . obtain rfl : wide = i := by omega
      have hr6 := (hbw.block (w.heap.size + 1) (by omega)).trans r6
      have a0 := cell_of_row wr _ 0 _ _ _ hr6
      have a1 := cell_of_row wr _ 1 _ _ _ hr6
      have a2 := cell_of_row wr _ 2 _ _ _ hr6
      have a3 := cell_of_row wr _ 3 _ _ _ hr6
      have a4 := cell_of_row wr _ 4 _ _ _ hr6
      have a5 := cell_of_row wr _ 5 _ _ _ hr6
      have b0 := frozen_of_row wr _ 0 _ _ hr6
      have b1 := frozen_of_row wr _ 1 _ _ hr6
      have b2 := frozen_of_row wr _ 2 _ _ hr6
      have b3 := frozen_of_row wr _ 3 _ _ hr6
      have b4 := frozen_of_row wr _ 4 _ _ hr6
      have b5 := frozen_of_row wr _ 5 _ _ hr6
      have e0 := cell_of_row wr _ 0 _ _ _ hrow
      have e1 := cell_of_row wr _ 1 _ _ _ hrow
      have e2 := cell_of_row wr _ 2 _ _ _ hrow
      have e3 := cell_of_row wr _ 3 _ _ _ hrow
      have e4 := cell_of_row wr _ 4 _ _ _ hrow
      have e5 := cell_of_row wr _ 5 _ _ _ hrow
      have f5 := frozen_of_row wr _ 5 _ _ hrow
      obtain ⟨pa', pc', rfl, hpc, hpp, hll⟩ := hmine.done (S' := fun k => k < B ∨ (w.heap.size + 1 + 1 + 1 <= k /\ k < wr.heap.size)) (fun k hk => Or.inl hk) (fun k h1 h2 => Or.inr ⟨h1, h2⟩)
      clear hmine
      by_cases hqw : wide < q
      . have hqw' : (wide : Int) < (q : Int) := by omega
        have hnm : Names B w q g na nc := HN.out.2.2.2.2
        obtain ⟨n1, n2, n3, n4⟩ := hnm
        obtain ⟨nb, no, rfl, hnb, hng⟩ := n4 (by omega)
        have hqnc : wide <= nc := by omega
        clear n4
        have HG : Hid (∀ i, i < q -> w.cell? ⟨nb, no + i, none⟩ = some (.string (g i))) := hng
        clear hng
        go_wp2
        rw [show min q wide = wide by omega]
        change bodyPost _ _ _ _ _ (set6 (wr.setCell ⟨w.heap.size + 1 + 1, 5, none⟩ (.slice (some ⟨nb, no, none⟩) wide nc)) (w.heap.size + 1) (.int .i64 k) (.bool b) (.int .i64 n) (.string (s)) (.slice pa' wide pc') (.slice (some ⟨nb, no, none⟩) wide nc))
        have hro := set6_row (w := wr.setCell ⟨w.heap.size + 1 + 1, 5, none⟩ (.slice (some ⟨nb, no, none⟩) wide nc)) ((Below.heap_setCell wr ⟨w.heap.size + 1 + 1, 5, none⟩ _ (w.heap.size + 1) (by show w.heap.size + 1 ≠ w.heap.size + 1 + 1; omega)).trans hr6) (.int .i64 k) (.bool b) (.int .i64 n) (.string (s)) (.slice pa' wide pc') (.slice (some ⟨nb, no, none⟩) wide nc)
        have hkeep : ∀ k1, k1 ≠ w.heap.size + 1 -> k1 ≠ w.heap.size + 1 + 1 -> (set6 (wr.setCell ⟨w.heap.size + 1 + 1, 5, none⟩ (.slice (some ⟨nb, no, none⟩) wide nc)) (w.heap.size + 1) (.int .i64 k) (.bool b) (.int .i64 n) (.string (s)) (.slice pa' wide pc') (.slice (some ⟨nb, no, none⟩) wide nc)).heap[k1]? = wr.heap[k1]? := fun k1 h1 h2 => (set6_block _ _ _ _ _ _ _ _ k1 h1).trans (Below.heap_setCell _ _ _ k1 h2)
        have hsz := set6_size (wr.setCell ⟨w.heap.size + 1 + 1, 5, none⟩ (.slice (some ⟨nb, no, none⟩) wide nc)) (w.heap.size + 1) (.int .i64 k) (.bool b) (.int .i64 n) (.string (s)) (.slice pa' wide pc') (.slice (some ⟨nb, no, none⟩) wide nc)
        have hbf := set6_below (((hb2.trans (hbw.mono (by omega))).setCell (p := ⟨w.heap.size + 1 + 1, 5, none⟩) (by show w.heap.size <= w.heap.size + 1 + 1; omega) (.slice (some ⟨nb, no, none⟩) wide nc))) (w.heap.size + 1) (by omega) (.int .i64 k) (.bool b) (.int .i64 n) (.string (s)) (.slice pa' wide pc') (.slice (some ⟨nb, no, none⟩) wide nc)
        replace hsz := hsz.trans (show (wr.setCell ⟨w.heap.size + 1 + 1, 5, none⟩ (.slice (some ⟨nb, no, none⟩) wide nc)).heap.size = wr.heap.size by simp)
        obtain ⟨wf, hwf⟩ : ∃ wf, set6 (wr.setCell ⟨w.heap.size + 1 + 1, 5, none⟩ (.slice (some ⟨nb, no, none⟩) wide nc)) (w.heap.size + 1) (.int .i64 k) (.bool b) (.int .i64 n) (.string (s)) (.slice pa' wide pc') (.slice (some ⟨nb, no, none⟩) wide nc) = wf := ⟨_, rfl⟩
        rw [hwf] at hro hkeep hsz hbf ⊢
        clear hwf
        have o0 := cell_of_row wf _ 0 _ _ _ hro
        have o1 := cell_of_row wf _ 1 _ _ _ hro
        have o2 := cell_of_row wf _ 2 _ _ _ hro
        have o3 := cell_of_row wf _ 3 _ _ _ hro
        have o4 := cell_of_row wf _ 4 _ _ _ hro
        have o5 := cell_of_row wf _ 5 _ _ _ hro
        refine bodyPost_ret (v := .agg #[.int .i64 k, .bool b, .int .i64 n, .string (s), .slice pa' wide pc', .slice (some ⟨nb, no, none⟩) wide nc]) (by simp [results, Tryz.results13, go_sem, o0, o1, o2, o3, o4, o5]) rfl ⟨⟨pa', pc', some ⟨nb, no, none⟩, nc⟩, rfl, ?_, hbf⟩
        have hnk : NamesS (fun k => k < B ∨ (w.heap.size + 1 + 1 + 1 <= k /\ k < wr.heap.size)) wr wide g (some ⟨nb, no, none⟩) nc := ⟨hqnc, n2, fun i hi => n3 i (by omega), fun _ => ⟨nb, no, rfl, Or.inl hnb, fun i hi => cell_later (HG.out i (by omega)) hnb ((hb2.mono hB).trans (hbw.mono (by omega)))⟩⟩
        have hfin : LiesS (fun k => k < B ∨ (w.heap.size + 1 + 1 + 1 <= k /\ k < wr.heap.size)) wr (.mk k b n (s) wide T wide g) ⟨pa', pc', some ⟨nb, no, none⟩, nc⟩ := .mk A' HN.out.1 HN.out.2.1 (HN.out.2.2.1) hpc hpp hll hnk
        refine (hfin.kept (fun k1 hk => hkeep k1 (by omega) (by omega))).up (fun k1 hk => ?_)
        rcases hk with hk | hk
        . exact Or.inl hk
        . exact Or.inr ⟨by omega, by omega⟩
      . have hqw' : (q : Int) <= (wide : Int) := by omega
        go_wp2
        rw [show min q wide = q by omega]
        change bodyPost _ _ _ _ _ (set6 wr (w.heap.size + 1) (.int .i64 k) (.bool b) (.int .i64 n) (.string (s)) (.slice pa' wide pc') (.slice na q nc))
        have hro := set6_row hr6 (.int .i64 k) (.bool b) (.int .i64 n) (.string (s)) (.slice pa' wide pc') (.slice na q nc)
        have hkeep : ∀ k1, k1 ≠ w.heap.size + 1 -> (set6 wr (w.heap.size + 1) (.int .i64 k) (.bool b) (.int .i64 n) (.string (s)) (.slice pa' wide pc') (.slice na q nc)).heap[k1]? = wr.heap[k1]? := fun k1 h1 => set6_block _ _ _ _ _ _ _ _ k1 h1
        have hsz := set6_size wr (w.heap.size + 1) (.int .i64 k) (.bool b) (.int .i64 n) (.string (s)) (.slice pa' wide pc') (.slice na q nc)
        have hbf := set6_below (hb2.trans (hbw.mono (by omega))) (w.heap.size + 1) (by omega) (.int .i64 k) (.bool b) (.int .i64 n) (.string (s)) (.slice pa' wide pc') (.slice na q nc)
        obtain ⟨wf, hwf⟩ : ∃ wf, set6 wr (w.heap.size + 1) (.int .i64 k) (.bool b) (.int .i64 n) (.string (s)) (.slice pa' wide pc') (.slice na q nc) = wf := ⟨_, rfl⟩
        rw [hwf] at hro hkeep hsz hbf ⊢
        clear hwf
        have o0 := cell_of_row wf _ 0 _ _ _ hro
        have o1 := cell_of_row wf _ 1 _ _ _ hro
        have o2 := cell_of_row wf _ 2 _ _ _ hro
        have o3 := cell_of_row wf _ 3 _ _ _ hro
        have o4 := cell_of_row wf _ 4 _ _ _ hro
        have o5 := cell_of_row wf _ 5 _ _ _ hro
        refine bodyPost_ret (v := .agg #[.int .i64 k, .bool b, .int .i64 n, .string (s), .slice pa' wide pc', .slice na q nc]) (by simp [results, Tryz.results13, go_sem, o0, o1, o2, o3, o4, o5]) rfl ⟨⟨pa', pc', na, nc⟩, rfl, ?_, hbf⟩
        have hnk : NamesS (fun k => k < B ∨ (w.heap.size + 1 + 1 + 1 <= k /\ k < wr.heap.size)) wr q g na nc := NamesS.up (fun k hk => Or.inl hk) (HN.out.2.2.2.2.later ((hb2.mono hB).trans (hbw.mono (by omega))))
        have hfin : LiesS (fun k => k < B ∨ (w.heap.size + 1 + 1 + 1 <= k /\ k < wr.heap.size)) wr (.mk k b n (s) wide T q g) ⟨pa', pc', na, nc⟩ := .mk A' HN.out.1 HN.out.2.1 (HN.out.2.2.1) hpc hpp hll hnk
        refine (hfin.kept (fun k1 hk => hkeep k1 (by omega))).up (fun k1 hk => ?_)
        rcases hk with hk | hk
        . exact Or.inl hk
        . exact Or.inr ⟨by omega, by omega⟩
end Go.Proofs.YtfemippjaokcmaaGreatDoor.V
namespace Go.Proofs.YtfemippjaokcmaaGreatDoor.V
open Go.RowKit
set_option maxRecDepth 100000 in
set_option maxHeartbeats 4000000 in
theorem cut_mx {B : Nat} {w : World} {k : Int} {b : Bool} {n : Int} {s : ByteArray} {m : Nat} {f : Nat -> Tr} {q : Nat} {g : Nat -> ByteArray} {x : Ad} (deep wide : Nat) (hL : Lies B w (.mk k b n s m f q g) x) (hB : B <= w.heap.size) (hw : wide <= 33) (hd : deep <= 100)
    (h11 : (1100 : Int) < (s.size : Int)) (hmw : (m : Int) <= (wide : Int)) (hd0 : 0 < deep) (ih : ∀ i, CutC (f i)) :
    Calls Tryz.prog 13 #[(Tr.mk k b n s m f q g).val x, .int .i64 (deep : Int), .int .i64 (wide : Int)] w fun e w' => ∃ A, e = .returned ((Tr.mk k b n (s.extract 0 1100) (m) (fun i => cutT (f i) (deep - 1) 4) (min q wide) g).val A) /\ LiesS (fun k => k < B ∨ (w.heap.size <= k /\ k < w'.heap.size)) w' (Tr.mk k b n (s.extract 0 1100) (m) (fun i => cutT (f i) (deep - 1) 4) (min q wide) g) A /\ Below w.heap.size w w' := by
  obtain ⟨A, hp, hr⟩ := hL.part
  have hN := hL.lims
  replace hN : (-9223372036854775808 <= k /\ k < 9223372036854775808) /\ (-9223372036854775808 <= n /\ n < 9223372036854775808) /\ s.size <= maxLen /\ (m <= x.pc /\ x.pc <= maxLen) /\ Names B w q g x.na x.nc := hN
  obtain ⟨pa, pc, na, nc⟩ := x
  have hV : (Tr.mk k b n s m f q g).val ⟨pa, pc, na, nc⟩ = .agg #[.int .i64 k, .bool b, .int .i64 n, .string s, .slice pa m pc, .slice na q nc] := rfl
  rw [hV]
  clear hV
  obtain ⟨T, hT⟩ : ∃ T : Nat -> Tr, T = fun i => cutT (f i) (deep - 1) 4 := ⟨_, rfl⟩
  rw [<- hT]
  obtain ⟨e, he⟩ : ∃ e : Nat, e = deep - 1 := ⟨_, rfl⟩
  have HT : Hid (∀ i, T i = cutT (f i) e 4) := fun i => by rw [hT, he]
  have HI : Hid (∀ i, CutC (f i)) := ih
  have HP : Hid (0 < m -> ∃ b o, pa = some ⟨b, o, none⟩ /\ b < B /\ ∀ i, i < m -> At6 w b (o + i * 6) (f i) (A i)) := hp
  have HR : Hid (∀ i, i < m -> Lies B w (f i) (A i)) := hr
  have HN : Hid ((-9223372036854775808 <= k /\ k < 9223372036854775808) /\ (-9223372036854775808 <= n /\ n < 9223372036854775808) /\ s.size <= maxLen /\ (m <= pc /\ pc <= maxLen) /\ Names B w q g na nc) := hN
  have HD : Hid (e <= 100) := by show _ <= _; omega
  have hzw : w.heap.size < w.heap.size + 1 + 1 + 1 := by omega
  have hdd : ((deep : Int) == 0) = false := by simp; omega
  have hde : IntKind.i64.wrap ((deep : Int) - 1) = (e : Int) := by rw [IntKind.wrap_i64]; omega
  clear ih hp hr hN hT he
  obtain ⟨i0, hi, hz0, hz1, hz2⟩ := info_parts info25
  go_enter Tryz.func13, Tryz.ntmps13
  go_wp2_with fail
  obtain ⟨W2, hW2⟩ : ∃ W2, (w.alloc (.cells #[.int .i64 k, .bool b, .int .i64 n, .string s, .slice pa m pc, .slice na q nc] 25)).alloc (.cells #[.int .i64 0, .bool false, .int .i64 0, .string ⟨#[]⟩, .slice none 0 0, .slice none 0 0] 25) = W2 := ⟨_, rfl⟩
  have hb2 : Below w.heap.size w W2 := by rw [<- hW2]; exact ((Below.refl _ w).alloc (Nat.le_refl _) _).alloc (by simp) _
  have hs2 : W2.heap.size = w.heap.size + 1 + 1 := by rw [<- hW2]; simp
  have r3 : W2.heap[w.heap.size]? = some (.cells #[.int .i64 k, .bool b, .int .i64 n, .string s, .slice pa m pc, .slice na q nc] 25 (0, 0)) := by
    rw [<- hW2, Below.heap_alloc _ _ _ (by simp)]; exact heap_alloc_new _ _
  have r6 : W2.heap[w.heap.size + 1]? = some (.cells #[.int .i64 0, .bool false, .int .i64 0, .string ⟨#[]⟩, .slice none 0 0, .slice none 0 0] 25 (0, 0)) := by
    rw [<- hW2]; have := heap_alloc_new (w.alloc (.cells #[.int .i64 k, .bool b, .int .i64 n, .string s, .slice pa m pc, .slice na q nc] 25)) (.cells #[.int .i64 0, .bool false, .int .i64 0, .string ⟨#[]⟩, .slice none 0 0, .slice none 0 0] 25); simpa using this
  have r7 : (W2.alloc (.cells #[.int .i64 k, .bool b, .int .i64 n, .string (s.extract 0 1100), .slice none 0 0, .slice na q nc] 25)).heap[w.heap.size + 1 + 1]? = some (.cells #[.int .i64 k, .bool b, .int .i64 n, .string (s.extract 0 1100), .slice none 0 0, .slice na q nc] 25 (0, 0)) := by rw [<- hs2]; exact heap_alloc_new _ _
  have hb7 : Below (w.heap.size + 1 + 1) W2 (W2.alloc (.cells #[.int .i64 k, .bool b, .int .i64 n, .string (s.extract 0 1100), .slice none 0 0, .slice na q nc] 25)) := (Below.refl _ _).alloc (by omega) _
  rw [hW2]
  clear hW2
  first | rw [decide_eq_false (show ¬ wide < m by omega)] | rw [decide_eq_false (show ¬ (wide : Int) < (m : Int) by omega)]
  go_loopw [9] (fun c9 wr => ∃ (i : Nat) (v : Value) (A' : Nat -> Ad), i <= m /\ c9 = .int .i64 (i : Int) /\ wr.heap[w.heap.size + 1 + 1]? = some (.cells #[.int .i64 k, .bool b, .int .i64 n, .string (s.extract 0 1100), v, .slice na q nc] 25 (0, 0)) /\ Below (w.heap.size + 1 + 1) W2 wr /\ Mine 25 (fun k => k < B) (w.heap.size + 1 + 1 + 1) wr v i T A') (fun c9 _ => m - (intOf c9).toNat)
  case atStart => exact ⟨0, .slice none 0 0, A, by omega, rfl, r7, hb7, Mine.start _ _ _ _ _ _⟩
  case round =>
    clear r7 hb7
    obtain ⟨i, v, A', hi', rfl, hrow, hbw, hmine⟩ := hrel
    have hlt7 := lt_of_row hrow
    by_cases hiN : i < m
    . have hiN' : (i : Int) < ((m : Nat) : Int) := by omega
      have him' : (i : Int) < (m : Int) := by omega
      have hi33 : i < 33 := by omega
      obtain ⟨pb, po, rfl, hpb, hat⟩ := HP.out (by omega)
      have hBw : Below B w wr := (hb2.mono hB).trans (hbw.mono (by omega))
      have h6a := (hat i (by omega)).later hpb hBw
      have d0 := h6a.c0
      have d1 := h6a.c1
      have d2 := h6a.c2
      have d3 := h6a.c3
      have d4 := h6a.c4
      have d5 := h6a.c5
      have hLi := (HR.out i (by omega)).later hBw
      have e4 := cell_of_row wr _ 4 _ _ _ hrow
      have f4 := frozen_of_row wr _ 4 _ _ hrow
      have g4 := cell_of_row wr _ 4 _ _ _ ((hbw.block w.heap.size (by omega)).trans r3)
      clear hat h6a
      have hszr := hbw.size
      have hLd : Lies B wr.drew (f i) (A i) := LiesS.kept (w := wr) (w' := wr.drew) (fun _ _ => rfl) hLi
      obtain ⟨t, ht⟩ : ∃ t, T i = t := ⟨_, rfl⟩
      have hcall : Calls Tryz.prog 13 #[.agg #[.int .i64 (f i).k, .bool (f i).b, .int .i64 (f i).n, .string (f i).s, .slice (A i).pa (f i).m (A i).pc, .slice (A i).na (f i).q (A i).nc], .int .i64 (e : Int), .int .i64 4] wr.drew fun e w' => ∃ A1 : Ad, e = .returned (.agg #[.int .i64 t.k, .bool t.b, .int .i64 t.n, .string t.s, .slice A1.pa t.m A1.pc, .slice A1.na t.q A1.nc]) /\ LiesS (fun k => k < B ∨ (wr.heap.size <= k /\ k < w'.heap.size)) w' t A1 /\ Below wr.heap.size wr w' := by
        rw [<- ht, HT.out i]
        refine (HI.out i B wr.drew (A i) e 4 hLd (by show B <= wr.heap.size; omega) (by omega) HD.out).mono ?_
        rintro e1 w' ⟨A1, h1, h2, h3⟩
        exact ⟨A1, h1, h2, (Below.refl _ wr).drew.trans h3⟩
      go_wp2_with fail
      go_region_law ((first | (go_simp; go_at_call 13; refine hcall.mono ?_; rintro e w1 ⟨A1, rfl, hL1, hb1⟩; have e41 := (hb1.cell (p := ⟨w.heap.size + 1 + 1, 4, none⟩) hlt7).trans e4; have e4a : ∀ o, (w1.alloc o).cell? ⟨w.heap.size + 1 + 1, 4, none⟩ = some v := fun o => cell_kept e41 (Below.heap_alloc w1 o _ (block_lt e41)); have hrow1 := (hb1.block _ hlt7).trans hrow; have hm1 := hmine.kept (w' := w1) hb1.size (fun k hk => hb1.block k (by omega)) (fun k _ hk => hb1.block k hk); dsimp only) | (refine step_append_lies _ (by rfl) (.tmp 35) (.tmp 44) 23 (by rfl) (w.heap.size + 1 + 1 + 1) 25 i0 _ 6 88 Tryz.underlying23 hi hz0 hz1 hz2 (by rfl) (by decide) v i _ (by rfl) (hm1.own.alloc _) ⟨w1.heap.size, 0, none⟩ 1 1 (t.cs A1) (by rfl) (by rfl) (World.news_of_block (heap_alloc_new w1 _)) (cs_one t A1) (by decide) (by unfold maxLen; omega) (by omega) (by have := hb1.size; simp; omega) (w1.heap.size + 1) (by simp) ?_; intro g1 cap1 w2 hown2 hgr2 hat2 hlt2; have e42 := far_cell hgr2 hm1.block_ge e41 (by show w.heap.size + 1 + 1 < _; omega); have hrow2 := far_row hgr2 hm1.block_ge hrow1 (show w.heap.size + 1 + 1 < _ by omega); have f42 := frozen_of_row w2 _ 4 _ _ hrow2)))
      all_goals
        have hmA := hm1.kept (w' := w1.alloc (.cells #[.int .i64 t.k, .bool t.b, .int .i64 t.n, .string t.s, .slice A1.pa t.m A1.pc, .slice A1.na t.q A1.nc] 25)) (by simp) (fun k hk => Below.heap_alloc w1 _ k (by have := hb1.size; omega)) (fun k _ hk => Below.heap_alloc w1 _ k hk)
        have hbz := ((hbw.trans (hb1.mono (by omega))).alloc (by have := hb1.size; omega) (.cells #[.int .i64 t.k, .bool t.b, .int .i64 t.n, .string t.s, .slice A1.pa t.m A1.pc, .slice A1.na t.q A1.nc] 25)).grown hgr2 (by have := hb1.size; simp; omega) (fun k hk => by have := hm1.block_ge k hk; omega)
        have hT1 := lies_alloc hL1 (fun k hk => by have := hb1.size; omega) (.cells #[.int .i64 t.k, .bool t.b, .int .i64 t.n, .string t.s, .slice A1.pa t.m A1.pc, .slice A1.na t.q A1.nc] 25)
        have hstep := Mine.step (wr := wr) (a := A1) hmA (by have := hb1.size; simp; omega) (by omega) hmine.block_lt (fun k hk => by omega) (by rw [ht]; exact hT1.up (fun k hk => by rcases hk with hk | hk; exact Or.inl hk; exact Or.inr ⟨hk.1, by simp; omega⟩)) (by rw [ht]; exact hown2) hgr2 hat2 (by simp)
        have hset := hstep.kept (w' := w2.setCell ⟨w.heap.size + 1 + 1, 4, none⟩ (.slice (some ⟨g1, 0, none⟩) (i + 1) cap1)) (by simp) (fun k hk => Below.heap_setCell _ _ _ k (by show k ≠ w.heap.size + 1 + 1; omega)) (fun k hk _ => Below.heap_setCell _ _ _ k (by show k ≠ w.heap.size + 1 + 1; omega))
        have hrow3 := row_setCell (k := 4) hrow2 (.slice (some ⟨g1, 0, none⟩) (i + 1) cap1)
        have hbz3 := hbz.setCell (p := ⟨w.heap.size + 1 + 1, 4, none⟩) (Nat.le_refl _) (.slice (some ⟨g1, 0, none⟩) (i + 1) cap1)
        clear hmA hbz hT1 hstep hown2 hgr2 hm1 hL1 hb1
        go_wp2
        go_roundw
        case rel => exact ⟨i + 1, _, _, by omega, by go_num, hrow3, hbz3, hset⟩
        case measure => simp [intOf]; omega
    . obtain rfl : m = i := by omega
      have hr6 := (hbw.block (w.heap.size + 1) (by omega)).trans r6
      have a0 := cell_of_row wr _ 0 _ _ _ hr6
      have a1 := cell_of_row wr _ 1 _ _ _ hr6
      have a2 := cell_of_row wr _ 2 _ _ _ hr6
      have a3 := cell_of_row wr _ 3 _ _ _ hr6
      have a4 := cell_of_row wr _ 4 _ _ _ hr6
      have a5 := cell_of_row wr _ 5 _ _ _ hr6
      have b0 := frozen_of_row wr _ 0 _ _ hr6
      have b1 := frozen_of_row wr _ 1 _ _ hr6
      have b2 := frozen_of_row wr _ 2 _ _ hr6
      have b3 := frozen_of_row wr _ 3 _ _ hr6
      have b4 := frozen_of_row wr _ 4 _ _ hr6
      have b5 := frozen_of_row wr _ 5 _ _ hr6
      have e0 := cell_of_row wr _ 0 _ _ _ hrow
      have e1 := cell_of_row wr _ 1 _ _ _ hrow
      have e2 := cell_of_row wr _ 2 _ _ _ hrow
      have e3 := cell_of_row wr _ 3 _ _ _ hrow
      have e4 := cell_of_row wr _ 4 _ _ _ hrow
      have e5 := cell_of_row wr _ 5 _ _ _ hrow
      have f5 := frozen_of_row wr _ 5 _ _ hrow
      obtain ⟨pa', pc', rfl, hpc, hpp, hll⟩ := hmine.done (S' := fun k => k < B ∨ (w.heap.size + 1 + 1 + 1 <= k /\ k < wr.heap.size)) (fun k hk => Or.inl hk) (fun k h1 h2 => Or.inr ⟨h1, h2⟩)
      clear hmine
      by_cases hqw : wide < q
      . have hqw' : (wide : Int) < (q : Int) := by omega
        have hnm : Names B w q g na nc := HN.out.2.2.2.2
        obtain ⟨n1, n2, n3, n4⟩ := hnm
        obtain ⟨nb, no, rfl, hnb, hng⟩ := n4 (by omega)
        have hqnc : wide <= nc := by omega
        clear n4
        have HG : Hid (∀ i, i < q -> w.cell? ⟨nb, no + i, none⟩ = some (.string (g i))) := hng
        clear hng
        go_wp2
        rw [show min q wide = wide by omega]
        change bodyPost _ _ _ _ _ (set6 (wr.setCell ⟨w.heap.size + 1 + 1, 5, none⟩ (.slice (some ⟨nb, no, none⟩) wide nc)) (w.heap.size + 1) (.int .i64 k) (.bool b) (.int .i64 n) (.string (s.extract 0 1100)) (.slice pa' m pc') (.slice (some ⟨nb, no, none⟩) wide nc))
        have hro := set6_row (w := wr.setCell ⟨w.heap.size + 1 + 1, 5, none⟩ (.slice (some ⟨nb, no, none⟩) wide nc)) ((Below.heap_setCell wr ⟨w.heap.size + 1 + 1, 5, none⟩ _ (w.heap.size + 1) (by show w.heap.size + 1 ≠ w.heap.size + 1 + 1; omega)).trans hr6) (.int .i64 k) (.bool b) (.int .i64 n) (.string (s.extract 0 1100)) (.slice pa' m pc') (.slice (some ⟨nb, no, none⟩) wide nc)
        have hkeep : ∀ k1, k1 ≠ w.heap.size + 1 -> k1 ≠ w.heap.size + 1 + 1 -> (set6 (wr.setCell ⟨w.heap.size + 1 + 1, 5, none⟩ (.slice (some ⟨nb, no, none⟩) wide nc)) (w.heap.size + 1) (.int .i64 k) (.bool b) (.int .i64 n) (.string (s.extract 0 1100)) (.slice pa' m pc') (.slice (some ⟨nb, no, none⟩) wide nc)).heap[k1]? = wr.heap[k1]? := fun k1 h1 h2 => (set6_block _ _ _ _ _ _ _ _ k1 h1).trans (Below.heap_setCell _ _ _ k1 h2)
        have hsz := set6_size (wr.setCell ⟨w.heap.size + 1 + 1, 5, none⟩ (.slice (some ⟨nb, no, none⟩) wide nc)) (w.heap.size + 1) (.int .i64 k) (.bool b) (.int .i64 n) (.string (s.extract 0 1100)) (.slice pa' m pc') (.slice (some ⟨nb, no, none⟩) wide nc)
        have hbf := set6_below (((hb2.trans (hbw.mono (by omega))).setCell (p := ⟨w.heap.size + 1 + 1, 5, none⟩) (by show w.heap.size <= w.heap.size + 1 + 1; omega) (.slice (some ⟨nb, no, none⟩) wide nc))) (w.heap.size + 1) (by omega) (.int .i64 k) (.bool b) (.int .i64 n) (.string (s.extract 0 1100)) (.slice pa' m pc') (.slice (some ⟨nb, no, none⟩) wide nc)
        replace hsz := hsz.trans (show (wr.setCell ⟨w.heap.size + 1 + 1, 5, none⟩ (.slice (some ⟨nb, no, none⟩) wide nc)).heap.size = wr.heap.size by simp)
        obtain ⟨wf, hwf⟩ : ∃ wf, set6 (wr.setCell ⟨w.heap.size + 1 + 1, 5, none⟩ (.slice (some ⟨nb, no, none⟩) wide nc)) (w.heap.size + 1) (.int .i64 k) (.bool b) (.int .i64 n) (.string (s.extract 0 1100)) (.slice pa' m pc') (.slice (some ⟨nb, no, none⟩) wide nc) = wf := ⟨_, rfl⟩
        rw [hwf] at hro hkeep hsz hbf ⊢
        clear hwf
        have o0 := cell_of_row wf _ 0 _ _ _ hro
        have o1 := cell_of_row wf _ 1 _ _ _ hro
        have o2 := cell_of_row wf _ 2 _ _ _ hro
        have o3 := cell_of_row wf _ 3 _ _ _ hro
        have o4 := cell_of_row wf _ 4 _ _ _ hro
        have o5 := cell_of_row wf _ 5 _ _ _ hro
        refine bodyPost_ret (v := .agg #[.int .i64 k, .bool b, .int .i64 n, .string (s.extract 0 1100), .slice pa' m pc', .slice (some ⟨nb, no, none⟩) wide nc]) (by simp [results, Tryz.results13, go_sem, o0, o1, o2, o3, o4, o5]) rfl ⟨⟨pa', pc', some ⟨nb, no, none⟩, nc⟩, rfl, ?_, hbf⟩
        have hnk : NamesS (fun k => k < B ∨ (w.heap.size + 1 + 1 + 1 <= k /\ k < wr.heap.size)) wr wide g (some ⟨nb, no, none⟩) nc := ⟨hqnc, n2, fun i hi => n3 i (by omega), fun _ => ⟨nb, no, rfl, Or.inl hnb, fun i hi => cell_later (HG.out i (by omega)) hnb ((hb2.mono hB).trans (hbw.mono (by omega)))⟩⟩
        have hfin : LiesS (fun k => k < B ∨ (w.heap.size + 1 + 1 + 1 <= k /\ k < wr.heap.size)) wr (.mk k b n (s.extract 0 1100) m T wide g) ⟨pa', pc', some ⟨nb, no, none⟩, nc⟩ := .mk A' HN.out.1 HN.out.2.1 (by simp; unfold maxLen; omega) hpc hpp hll hnk
        refine (hfin.kept (fun k1 hk => hkeep k1 (by omega) (by omega))).up (fun k1 hk => ?_)
        rcases hk with hk | hk
        . exact Or.inl hk
        . exact Or.inr ⟨by omega, by omega⟩
      . have hqw' : (q : Int) <= (wide : Int) := by omega
        go_wp2
        rw [show min q wide = q by omega]
        change bodyPost _ _ _ _ _ (set6 wr (w.heap.size + 1) (.int .i64 k) (.bool b) (.int .i64 n) (.string (s.extract 0 1100)) (.slice pa' m pc') (.slice na q nc))
        have hro := set6_row hr6 (.int .i64 k) (.bool b) (.int .i64 n) (.string (s.extract 0 1100)) (.slice pa' m pc') (.slice na q nc)
        have hkeep : ∀ k1, k1 ≠ w.heap.size + 1 -> (set6 wr (w.heap.size + 1) (.int .i64 k) (.bool b) (.int .i64 n) (.string (s.extract 0 1100)) (.slice pa' m pc') (.slice na q nc)).heap[k1]? = wr.heap[k1]? := fun k1 h1 => set6_block _ _ _ _ _ _ _ _ k1 h1
        have hsz := set6_size wr (w.heap.size + 1) (.int .i64 k) (.bool b) (.int .i64 n) (.string (s.extract 0 1100)) (.slice pa' m pc') (.slice na q nc)
        have hbf := set6_below (hb2.trans (hbw.mono (by omega))) (w.heap.size + 1) (by omega) (.int .i64 k) (.bool b) (.int .i64 n) (.string (s.extract 0 1100)) (.slice pa' m pc') (.slice na q nc)
        obtain ⟨wf, hwf⟩ : ∃ wf, set6 wr (w.heap.size + 1) (.int .i64 k) (.bool b) (.int .i64 n) (.string (s.extract 0 1100)) (.slice pa' m pc') (.slice na q nc) = wf := ⟨_, rfl⟩
        rw [hwf] at hro hkeep hsz hbf ⊢
        clear hwf
        have o0 := cell_of_row wf _ 0 _ _ _ hro
        have o1 := cell_of_row wf _ 1 _ _ _ hro
        have o2 := cell_of_row wf _ 2 _ _ _ hro
        have o3 := cell_of_row wf _ 3 _ _ _ hro
        have o4 := cell_of_row wf _ 4 _ _ _ hro
        have o5 := cell_of_row wf _ 5 _ _ _ hro
        refine bodyPost_ret (v := .agg #[.int .i64 k, .bool b, .int .i64 n, .string (s.extract 0 1100), .slice pa' m pc', .slice na q nc]) (by simp [results, Tryz.results13, go_sem, o0, o1, o2, o3, o4, o5]) rfl ⟨⟨pa', pc', na, nc⟩, rfl, ?_, hbf⟩
        have hnk : NamesS (fun k => k < B ∨ (w.heap.size + 1 + 1 + 1 <= k /\ k < wr.heap.size)) wr q g na nc := NamesS.up (fun k hk => Or.inl hk) (HN.out.2.2.2.2.later ((hb2.mono hB).trans (hbw.mono (by omega))))
        have hfin : LiesS (fun k => k < B ∨ (w.heap.size + 1 + 1 + 1 <= k /\ k < wr.heap.size)) wr (.mk k b n (s.extract 0 1100) m T q g) ⟨pa', pc', na, nc⟩ := .mk A' HN.out.1 HN.out.2.1 (by simp; unfold maxLen; omega) hpc hpp hll hnk
        refine (hfin.kept (fun k1 hk => hkeep k1 (by omega))).up (fun k1 hk => ?_)
        rcases hk with hk | hk
        . exact Or.inl hk
        . exact Or.inr ⟨by omega, by omega⟩
end Go.Proofs.YtfemippjaokcmaaGreatDoor.V
namespace Go.Proofs.YtfemippjaokcmaaGreatDoor.V
open Go.RowKit
set_option maxRecDepth 100000 in
set_option maxHeartbeats 4000000 in
theorem cut_ms {B : Nat} {w : World} {k : Int} {b : Bool} {n : Int} {s : ByteArray} {m : Nat} {f : Nat -> Tr} {q : Nat} {g : Nat -> ByteArray} {x : Ad} (deep wide : Nat) (hL : Lies B w (.mk k b n s m f q g) x) (hB : B <= w.heap.size) (hw : wide <= 33) (hd : deep <= 100)
    (h11 : (s.size : Int) <= 1100) (hmw : (m : Int) <= (wide : Int)) (hd0 : 0 < deep) (ih : ∀ i, CutC (f i)) :
    Calls Tryz.prog 13 #[(Tr.mk k b n s m f q g).val x, .int .i64 (deep : Int), .int .i64 (wide : Int)] w fun e w' => ∃ A, e = .returned ((Tr.mk k b n (s) (m) (fun i => cutT (f i) (deep - 1) 4) (min q wide) g).val A) /\ LiesS (fun k => k < B ∨ (w.heap.size <= k /\ k < w'.heap.size)) w' (Tr.mk k b n (s) (m) (fun i => cutT (f i) (deep - 1) 4) (min q wide) g) A /\ Below w.heap.size w w' := by
  obtain ⟨A, hp, hr⟩ := hL.part
  have hN := hL.lims
  replace hN : (-9223372036854775808 <= k /\ k < 9223372036854775808) /\ (-9223372036854775808 <= n /\ n < 9223372036854775808) /\ s.size <= maxLen /\ (m <= x.pc /\ x.pc <= maxLen) /\ Names B w q g x.na x.nc := hN
  obtain ⟨pa, pc, na, nc⟩ := x
  have hV : (Tr.mk k b n s m f q g).val ⟨pa, pc, na, nc⟩ = .agg #[.int .i64 k, .bool b, .int .i64 n, .string s, .slice pa m pc, .slice na q nc] := rfl
  rw [hV]
  clear hV
  obtain ⟨T, hT⟩ : ∃ T : Nat -> Tr, T = fun i => cutT (f i) (deep - 1) 4 := ⟨_, rfl⟩
  rw [<- hT]
  obtain ⟨e, he⟩ : ∃ e : Nat, e = deep - 1 := ⟨_, rfl⟩
  have HT : Hid (∀ i, T i = cutT (f i) e 4) := fun i => by rw [hT, he]
  have HI : Hid (∀ i, CutC (f i)) := ih
  have HP : Hid (0 < m -> ∃ b o, pa = some ⟨b, o, none⟩ /\ b < B /\ ∀ i, i < m -> At6 w b (o + i * 6) (f i) (A i)) := hp
  have HR : Hid (∀ i, i < m -> Lies B w (f i) (A i)) := hr
  have HN : Hid ((-9223372036854775808 <= k /\ k < 9223372036854775808) /\ (-9223372036854775808 <= n /\ n < 9223372036854775808) /\ s.size <= maxLen /\ (m <= pc /\ pc <= maxLen) /\ Names B w q g na nc) := hN
  have HD : Hid (e <= 100) := by show _ <= _; omega
  have hzw : w.heap.size < w.heap.size + 1 + 1 + 1 := by omega
  have hdd : ((deep : Int) == 0) = false := by simp; omega
  have hde : IntKind.i64.wrap ((deep : Int) - 1) = (e : Int) := by rw [IntKind.wrap_i64]; omega
  clear ih hp hr hN hT he
  obtain ⟨i0, hi, hz0, hz1, hz2⟩ := info_parts info25
  go_enter Tryz.func13, Tryz.ntmps13
  go_wp2_with fail
  obtain ⟨W2, hW2⟩ : ∃ W2, (w.alloc (.cells #[.int .i64 k, .bool b, .int .i64 n, .string s, .slice pa m pc, .slice na q nc] 25)).alloc (.cells #[.int .i64 0, .bool false, .int .i64 0, .string ⟨#[]⟩, .slice none 0 0, .slice none 0 0] 25) = W2 := ⟨_, rfl⟩
  have hb2 : Below w.heap.size w W2 := by rw [<- hW2]; exact ((Below.refl _ w).alloc (Nat.le_refl _) _).alloc (by simp) _
  have hs2 : W2.heap.size = w.heap.size + 1 + 1 := by rw [<- hW2]; simp
  have r3 : W2.heap[w.heap.size]? = some (.cells #[.int .i64 k, .bool b, .int .i64 n, .string s, .slice pa m pc, .slice na q nc] 25 (0, 0)) := by
    rw [<- hW2, Below.heap_alloc _ _ _ (by simp)]; exact heap_alloc_new _ _
  have r6 : W2.heap[w.heap.size + 1]? = some (.cells #[.int .i64 0, .bool false, .int .i64 0, .string ⟨#[]⟩, .slice none 0 0, .slice none 0 0] 25 (0, 0)) := by
    rw [<- hW2]; have := heap_alloc_new (w.alloc (.cells #[.int .i64 k, .bool b, .int .i64 n, .string s, .slice pa m pc, .slice na q nc] 25)) (.cells #[.int .i64 0, .bool false, .int .i64 0, .string ⟨#[]⟩, .slice none 0 0, .slice none 0 0] 25); simpa using this
  have r7 : (W2.alloc (.cells #[.int .i64 k, .bool b, .int .i64 n, .string (s), .slice none 0 0, .slice na q nc] 25)).heap[w.heap.size + 1 + 1]? = some (.cells #[.int .i64 k, .bool b, .int .i64 n, .string (s), .slice none 0 0, .slice na q nc] 25 (0, 0)) := by rw [<- hs2]; exact heap_alloc_new _ _
  have hb7 : Below (w.heap.size + 1 + 1) W2 (W2.alloc (.cells #[.int .i64 k, .bool b, .int .i64 n, .string (s), .slice none 0 0, .slice na q nc] 25)) := (Below.refl _ _).alloc (by omega) _
  rw [hW2]
  clear hW2
  first | rw [decide_eq_false (show ¬ wide < m by omega)] | rw [decide_eq_false (show ¬ (wide : Int) < (m : Int) by omega)]
  go_loopw [9] (fun c9 wr => ∃ (i : Nat) (v : Value) (A' : Nat -> Ad), i <= m /\ c9 = .int .i64 (i : Int) /\ wr.heap[w.heap.size + 1 + 1]? = some (.cells #[.int .i64 k, .bool b, .int .i64 n, .string (s), v, .slice na q nc] 25 (0, 0)) /\ Below (w.heap.size + 1 + 1) W2 wr /\ Mine 25 (fun k => k < B) (w.heap.size + 1 + 1 + 1) wr v i T A') (fun c9 _ => m - (intOf c9).toNat)
  case atStart => exact ⟨0, .slice none 0 0, A, by omega, rfl, r7, hb7, Mine.start _ _ _ _ _ _⟩
  case round =>
    clear r7 hb7
    obtain ⟨i, v, A', hi', rfl, hrow, hbw, hmine⟩ := hrel
    have hlt7 := lt_of_row hrow
    by_cases hiN : i < m
    . have hiN' : (i : Int) < ((m : Nat) : Int) := by omega
      have him' : (i : Int) < (m : Int) := by omega
      have hi33 : i < 33 := by omega
      obtain ⟨pb, po, rfl, hpb, hat⟩ := HP.out (by omega)
      have hBw : Below B w wr := (hb2.mono hB).trans (hbw.mono (by omega))
      have h6a := (hat i (by omega)).later hpb hBw
      have d0 := h6a.c0
      have d1 := h6a.c1
      have d2 := h6a.c2
      have d3 := h6a.c3
      have d4 := h6a.c4
      have d5 := h6a.c5
      have hLi := (HR.out i (by omega)).later hBw
      have e4 := cell_of_row wr _ 4 _ _ _ hrow
      have f4 := frozen_of_row wr _ 4 _ _ hrow
      have g4 := cell_of_row wr _ 4 _ _ _ ((hbw.block w.heap.size (by omega)).trans r3)
      clear hat h6a
      have hszr := hbw.size
      have hLd : Lies B wr.drew (f i) (A i) := LiesS.kept (w := wr) (w' := wr.drew) (fun _ _ => rfl) hLi
      obtain ⟨t, ht⟩ : ∃ t, T i = t := ⟨_, rfl⟩
      have hcall : Calls Tryz.prog 13 #[.agg #[.int .i64 (f i).k, .bool (f i).b, .int .i64 (f i).n, .string (f i).s, .slice (A i).pa (f i).m (A i).pc, .slice (A i).na (f i).q (A i).nc], .int .i64 (e : Int), .int .i64 4] wr.drew fun e w' => ∃ A1 : Ad, e = .returned (.agg #[.int .i64 t.k, .bool t.b, .int .i64 t.n, .string t.s, .slice A1.pa t.m A1.pc, .slice A1.na t.q A1.nc]) /\ LiesS (fun k => k < B ∨ (wr.heap.size <= k /\ k < w'.heap.size)) w' t A1 /\ Below wr.heap.size wr w' := by
        rw [<- ht, HT.out i]
        refine (HI.out i B wr.drew (A i) e 4 hLd (by show B <= wr.heap.size; omega) (by omega) HD.out).mono ?_
        rintro e1 w' ⟨A1, h1, h2, h3⟩
        exact ⟨A1, h1, h2, (Below.refl _ wr).drew.trans h3⟩
      go_wp2_with fail
      go_region_law ((first | (go_simp; go_at_call 13; refine hcall.mono ?_; rintro e w1 ⟨A1, rfl, hL1, hb1⟩; have e41 := (hb1.cell (p := ⟨w.heap.size + 1 + 1, 4, none⟩) hlt7).trans e4; have e4a : ∀ o, (w1.alloc o).cell? ⟨w.heap.size + 1 + 1, 4, none⟩ = some v := fun o => cell_kept e41 (Below.heap_alloc w1 o _ (block_lt e41)); have hrow1 := (hb1.block _ hlt7).trans hrow; have hm1 := hmine.kept (w' := w1) hb1.size (fun k hk => hb1.block k (by omega)) (fun k _ hk => hb1.block k hk); dsimp only) | (refine step_append_lies _ (by rfl) (.tmp 35) (.tmp 44) 23 (by rfl) (w.heap.size + 1 + 1 + 1) 25 i0 _ 6 88 Tryz.underlying23 hi hz0 hz1 hz2 (by rfl) (by decide) v i _ (by rfl) (hm1.own.alloc _) ⟨w1.heap.size, 0, none⟩ 1 1 (t.cs A1) (by rfl) (by rfl) (World.news_of_block (heap_alloc_new w1 _)) (cs_one t A1) (by decide) (by unfold maxLen; omega) (by omega) (by have := hb1.size; simp; omega) (w1.heap.size + 1) (by simp) ?_; intro g1 cap1 w2 hown2 hgr2 hat2 hlt2; have e42 := far_cell hgr2 hm1.block_ge e41 (by show w.heap.size + 1 + 1 < _; omega); have hrow2 := far_row hgr2 hm1.block_ge hrow1 (show w.heap.size + 1 + 1 < _ by omega); have f42 := frozen_of_row w2 _ 4 _ _ hrow2)))
      all_goals
        have hmA := hm1.kept (w' := w1.alloc (.cells #[.int .i64 t.k, .bool t.b, .int .i64 t.n, .string t.s, .slice A1.pa t.m A1.pc, .slice A1.na t.q A1.nc] 25)) (by simp) (fun k hk => Below.heap_alloc w1 _ k (by have := hb1.size; omega)) (fun k _ hk => Below.heap_alloc w1 _ k hk)
        have hbz := ((hbw.trans (hb1.mono (by omega))).alloc (by have := hb1.size; omega) (.cells #[.int .i64 t.k, .bool t.b, .int .i64 t.n, .string t.s, .slice A1.pa t.m A1.pc, .slice A1.na t.q A1.nc] 25)).grown hgr2 (by have := hb1.size; simp; omega) (fun k hk => by have := hm1.block_ge k hk; omega)
        have hT1 := lies_alloc hL1 (fun k hk => by have := hb1.size; omega) (.cells #[.int .i64 t.k, .bool t.b, .int .i64 t.n, .string t.s, .slice A1.pa t.m A1.pc, .slice A1.na t.q A1.nc] 25)
        have hstep := Mine.step (wr := wr) (a := A1) hmA (by have := hb1.size; simp; omega) (by omega) hmine.block_lt (fun k hk => by omega) (by rw [ht]; exact hT1.up (fun k hk => by rcases hk with hk | hk; exact Or.inl hk; exact Or.inr ⟨hk.1, by simp; omega⟩)) (by rw [ht]; exact hown2) hgr2 hat2 (by simp)
        have hset := hstep.kept (w' := w2.setCell ⟨w.heap.size + 1 + 1, 4, none⟩ (.slice (some ⟨g1, 0, none⟩) (i + 1) cap1)) (by simp) (fun k hk => Below.heap_setCell _ _ _ k (by show k ≠ w.heap.size + 1 + 1; omega)) (fun k hk _ => Below.heap_setCell _ _ _ k (by show k ≠ w.heap.size + 1 + 1; omega))
        have hrow3 := row_setCell (k := 4) hrow2 (.slice (some ⟨g1, 0, none⟩) (i + 1) cap1)
        have hbz3 := hbz.setCell (p := ⟨w.heap.size + 1 + 1, 4, none⟩) (Nat.le_refl _) (.slice (some ⟨g1, 0, none⟩) (i + 1) cap1)
        clear hmA hbz hT1 hstep hown2 hgr2 hm1 hL1 hb1
        go_wp2
        go_roundw
        case rel => exact ⟨i + 1, _, _, by omega, by go_num, hrow3, hbz3, hset⟩
        case measure => simp [intOf]; omega
    . obtain rfl : m = i := by omega
      have hr6 := (hbw.block (w.heap.size + 1) (by omega)).trans r6
      have a0 := cell_of_row wr _ 0 _ _ _ hr6
      have a1 := cell_of_row wr _ 1 _ _ _ hr6
      have a2 := cell_of_row wr _ 2 _ _ _ hr6
      have a3 := cell_of_row wr _ 3 _ _ _ hr6
      have a4 := cell_of_row wr _ 4 _ _ _ hr6
      have a5 := cell_of_row wr _ 5 _ _ _ hr6
      have b0 := frozen_of_row wr _ 0 _ _ hr6
      have b1 := frozen_of_row wr _ 1 _ _ hr6
      have b2 := frozen_of_row wr _ 2 _ _ hr6
      have b3 := frozen_of_row wr _ 3 _ _ hr6
      have b4 := frozen_of_row wr _ 4 _ _ hr6
      have b5 := frozen_of_row wr _ 5 _ _ hr6
      have e0 := cell_of_row wr _ 0 _ _ _ hrow
      have e1 := cell_of_row wr _ 1 _ _ _ hrow
      have e2 := cell_of_row wr _ 2 _ _ _ hrow
      have e3 := cell_of_row wr _ 3 _ _ _ hrow
      have e4 := cell_of_row wr _ 4 _ _ _ hrow
      have e5 := cell_of_row wr _ 5 _ _ _ hrow
      have f5 := frozen_of_row wr _ 5 _ _ hrow
      obtain ⟨pa', pc', rfl, hpc, hpp, hll⟩ := hmine.done (S' := fun k => k < B ∨ (w.heap.size + 1 + 1 + 1 <= k /\ k < wr.heap.size)) (fun k hk => Or.inl hk) (fun k h1 h2 => Or.inr ⟨h1, h2⟩)
      clear hmine
      by_cases hqw : wide < q
      . have hqw' : (wide : Int) < (q : Int) := by omega
        have hnm : Names B w q g na nc := HN.out.2.2.2.2
        obtain ⟨n1, n2, n3, n4⟩ := hnm
        obtain ⟨nb, no, rfl, hnb, hng⟩ := n4 (by omega)
        have hqnc : wide <= nc := by omega
        clear n4
        have HG : Hid (∀ i, i < q -> w.cell? ⟨nb, no + i, none⟩ = some (.string (g i))) := hng
        clear hng
        go_wp2
        rw [show min q wide = wide by omega]
        change bodyPost _ _ _ _ _ (set6 (wr.setCell ⟨w.heap.size + 1 + 1, 5, none⟩ (.slice (some ⟨nb, no, none⟩) wide nc)) (w.heap.size + 1) (.int .i64 k) (.bool b) (.int .i64 n) (.string (s)) (.slice pa' m pc') (.slice (some ⟨nb, no, none⟩) wide nc))
        have hro := set6_row (w := wr.setCell ⟨w.heap.size + 1 + 1, 5, none⟩ (.slice (some ⟨nb, no, none⟩) wide nc)) ((Below.heap_setCell wr ⟨w.heap.size + 1 + 1, 5, none⟩ _ (w.heap.size + 1) (by show w.heap.size + 1 ≠ w.heap.size + 1 + 1; omega)).trans hr6) (.int .i64 k) (.bool b) (.int .i64 n) (.string (s)) (.slice pa' m pc') (.slice (some ⟨nb, no, none⟩) wide nc)
        have hkeep : ∀ k1, k1 ≠ w.heap.size + 1 -> k1 ≠ w.heap.size + 1 + 1 -> (set6 (wr.setCell ⟨w.heap.size + 1 + 1, 5, none⟩ (.slice (some ⟨nb, no, none⟩) wide nc)) (w.heap.size + 1) (.int .i64 k) (.bool b) (.int .i64 n) (.string (s)) (.slice pa' m pc') (.slice (some ⟨nb, no, none⟩) wide nc)).heap[k1]? = wr.heap[k1]? := fun k1 h1 h2 => (set6_block _ _ _ _ _ _ _ _ k1 h1).trans (Below.heap_setCell _ _ _ k1 h2)
        have hsz := set6_size (wr.setCell ⟨w.heap.size + 1 + 1, 5, none⟩ (.slice (some ⟨nb, no, none⟩) wide nc)) (w.heap.size + 1) (.int .i64 k) (.bool b) (.int .i64 n) (.string (s)) (.slice pa' m pc') (.slice (some ⟨nb, no, none⟩) wide nc)
        have hbf := set6_below (((hb2.trans (hbw.mono (by omega))).setCell (p := ⟨w.heap.size + 1 + 1, 5, none⟩) (by show w.heap.size <= w.heap.size + 1 + 1; omega) (.slice (some ⟨nb, no, none⟩) wide nc))) (w.heap.size + 1) (by omega) (.int .i64 k) (.bool b) (.int .i64 n) (.string (s)) (.slice pa' m pc') (.slice (some ⟨nb, no, none⟩) wide nc)
        replace hsz := hsz.trans (show (wr.setCell ⟨w.heap.size + 1 + 1, 5, none⟩ (.slice (some ⟨nb, no, none⟩) wide nc)).heap.size = wr.heap.size by simp)
        obtain ⟨wf, hwf⟩ : ∃ wf, set6 (wr.setCell ⟨w.heap.size + 1 + 1, 5, none⟩ (.slice (some ⟨nb, no, none⟩) wide nc)) (w.heap.size + 1) (.int .i64 k) (.bool b) (.int .i64 n) (.string (s)) (.slice pa' m pc') (.slice (some ⟨nb, no, none⟩) wide nc) = wf := ⟨_, rfl⟩
        rw [hwf] at hro hkeep hsz hbf ⊢
        clear hwf
        have o0 := cell_of_row wf _ 0 _ _ _ hro
        have o1 := cell_of_row wf _ 1 _ _ _ hro
        have o2 := cell_of_row wf _ 2 _ _ _ hro
        have o3 := cell_of_row wf _ 3 _ _ _ hro
        have o4 := cell_of_row wf _ 4 _ _ _ hro
        have o5 := cell_of_row wf _ 5 _ _ _ hro
        refine bodyPost_ret (v := .agg #[.int .i64 k, .bool b, .int .i64 n, .string (s), .slice pa' m pc', .slice (some ⟨nb, no, none⟩) wide nc]) (by simp [results, Tryz.results13, go_sem, o0, o1, o2, o3, o4, o5]) rfl ⟨⟨pa', pc', some ⟨nb, no, none⟩, nc⟩, rfl, ?_, hbf⟩
        have hnk : NamesS (fun k => k < B ∨ (w.heap.size + 1 + 1 + 1 <= k /\ k < wr.heap.size)) wr wide g (some ⟨nb, no, none⟩) nc := ⟨hqnc, n2, fun i hi => n3 i (by omega), fun _ => ⟨nb, no, rfl, Or.inl hnb, fun i hi => cell_later (HG.out i (by omega)) hnb ((hb2.mono hB).trans (hbw.mono (by omega)))⟩⟩
        have hfin : LiesS (fun k => k < B ∨ (w.heap.size + 1 + 1 + 1 <= k /\ k < wr.heap.size)) wr (.mk k b n (s) m T wide g) ⟨pa', pc', some ⟨nb, no, none⟩, nc⟩ := .mk A' HN.out.1 HN.out.2.1 (HN.out.2.2.1) hpc hpp hll hnk
        refine (hfin.kept (fun k1 hk => hkeep k1 (by omega) (by omega))).up (fun k1 hk => ?_)
        rcases hk with hk | hk
        . exact Or.inl hk
        . exact Or.inr ⟨by omega, by omega⟩
      . have hqw' : (q : Int) <= (wide : Int) := by omega
        go_wp2
        rw [show min q wide = q by omega]
        change bodyPost _ _ _ _ _ (set6 wr (w.heap.size + 1) (.int .i64 k) (.bool b) (.int .i64 n) (.string (s)) (.slice pa' m pc') (.slice na q nc))
        have hro := set6_row hr6 (.int .i64 k) (.bool b) (.int .i64 n) (.string (s)) (.slice pa' m pc') (.slice na q nc)
        have hkeep : ∀ k1, k1 ≠ w.heap.size + 1 -> (set6 wr (w.heap.size + 1) (.int .i64 k) (.bool b) (.int .i64 n) (.string (s)) (.slice pa' m pc') (.slice na q nc)).heap[k1]? = wr.heap[k1]? := fun k1 h1 => set6_block _ _ _ _ _ _ _ _ k1 h1
        have hsz := set6_size wr (w.heap.size + 1) (.int .i64 k) (.bool b) (.int .i64 n) (.string (s)) (.slice pa' m pc') (.slice na q nc)
        have hbf := set6_below (hb2.trans (hbw.mono (by omega))) (w.heap.size + 1) (by omega) (.int .i64 k) (.bool b) (.int .i64 n) (.string (s)) (.slice pa' m pc') (.slice na q nc)
        obtain ⟨wf, hwf⟩ : ∃ wf, set6 wr (w.heap.size + 1) (.int .i64 k) (.bool b) (.int .i64 n) (.string (s)) (.slice pa' m pc') (.slice na q nc) = wf := ⟨_, rfl⟩
        rw [hwf] at hro hkeep hsz hbf ⊢
        clear hwf
        have o0 := cell_of_row wf _ 0 _ _ _ hro
        have o1 := cell_of_row wf _ 1 _ _ _ hro
        have o2 := cell_of_row wf _ 2 _ _ _ hro
        have o3 := cell_of_row wf _ 3 _ _ _ hro
        have o4 := cell_of_row wf _ 4 _ _ _ hro
        have o5 := cell_of_row wf _ 5 _ _ _ hro
        refine bodyPost_ret (v := .agg #[.int .i64 k, .bool b, .int .i64 n, .string (s), .slice pa' m pc', .slice na q nc]) (by simp [results, Tryz.results13, go_sem, o0, o1, o2, o3, o4, o5]) rfl ⟨⟨pa', pc', na, nc⟩, rfl, ?_, hbf⟩
        have hnk : NamesS (fun k => k < B ∨ (w.heap.size + 1 + 1 + 1 <= k /\ k < wr.heap.size)) wr q g na nc := NamesS.up (fun k hk => Or.inl hk) (HN.out.2.2.2.2.later ((hb2.mono hB).trans (hbw.mono (by omega))))
        have hfin : LiesS (fun k => k < B ∨ (w.heap.size + 1 + 1 + 1 <= k /\ k < wr.heap.size)) wr (.mk k b n (s) m T q g) ⟨pa', pc', na, nc⟩ := .mk A' HN.out.1 HN.out.2.1 (HN.out.2.2.1) hpc hpp hll hnk
        refine (hfin.kept (fun k1 hk => hkeep k1 (by omega))).up (fun k1 hk => ?_)
        rcases hk with hk | hk
        . exact Or.inl hk
        . exact Or.inr ⟨by omega, by omega⟩
end Go.Proofs.YtfemippjaokcmaaGreatDoor.V
