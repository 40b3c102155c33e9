/- A value as the document has it (Ref): the same tree, of any value that has not too many parts. Plain: the plan of the laws' awake. -/
import Derived.Test.YtfemippjaokcmaaGreatDoorXag
import Derived.Test.YtfemippjaokcmaaGreatDoorXbb
import Derived.Test.YtfemippjaokcmaaGreatDoorXad
import Derived.Test.YtfemippjaokcmaaGreatDoorXaa
import Derived.Test.YtfemippjaokcmaaGreatDoorRows
import Derived.WalkKit
import Derived.ProofKit
import Derived.OpenShut
import Derived.ShutString
import Derived.Deep.Strs
import Derived.Deep.Fields
import Derived.Test.YtfemippjaokcmaaGreatDoorNum
import Derived.LaidMore
import Derived.Stop.Joined
import Derived.Stop.LaidErr
import Derived.Test.YtfemippjaokcmaaGreatDoorXac
import Derived.HandedShaped
import Derived.Handed
import Derived.Shelf.Vars
namespace Go.Proofs.YtfemippjaokcmaaGreatDoor.V
open Go.RowKit
def slim : Tr -> Prop
  | .no => True
  | .mk _ _ _ _ m f _ _ => m <= 33 /\ ∀ i, i < m -> slim (f i)
def RefC (t : Tr) : Prop := ∀ (B : Nat) (w : World) (x : Ad), Lies B w t x -> B <= w.heap.size ->
  Calls Tryz.prog 17 #[t.val x] w fun e w' => ∃ A, e = .returned (t.val A) /\ LiesS (fun k => k < B ∨ (w.heap.size <= k /\ k < w'.heap.size)) w' t A /\ Below w.heap.size w w'
set_option maxRecDepth 100000 in
set_option maxHeartbeats 4000000 in
theorem ref_mk {k : Int} {b : Bool} {n : Int} {s : ByteArray} {m : Nat} {f : Nat -> Tr} {q : Nat} {g : Nat -> ByteArray} (hm33 : m <= 33) (ih : ∀ i, i < m -> RefC (f i)) : RefC (.mk k b n s m f q g) := by
  intro B w x hL hB
  obtain ⟨A, hp, hr⟩ := hL.part
  have hN := hL.lims
  replace hN : (-9223372036854775808 <= k /\ k < 9223372036854775808) /\ (-9223372036854775808 <= n /\ n < 9223372036854775808) /\ s.size <= maxLen /\ (m <= x.pc /\ x.pc <= maxLen) /\ Names B w q g x.na x.nc := hN
  obtain ⟨pa, pc, na, nc⟩ := x
  have hV : (Tr.mk k b n s m f q g).val ⟨pa, pc, na, nc⟩ = .agg #[.int .i64 k, .bool b, .int .i64 n, .string s, .slice pa m pc, .slice na q nc] := rfl
  rw [hV]
  clear hV
  have HI : Hid (∀ i, i < m -> RefC (f i)) := ih
  have HP : Hid (0 < m -> ∃ b o, pa = some ⟨b, o, none⟩ /\ b < B /\ ∀ i, i < m -> At6 w b (o + i * 6) (f i) (A i)) := hp
  have HR : Hid (∀ i, i < m -> Lies B w (f i) (A i)) := hr
  have HN : Hid ((-9223372036854775808 <= k /\ k < 9223372036854775808) /\ (-9223372036854775808 <= n /\ n < 9223372036854775808) /\ s.size <= maxLen /\ (m <= pc /\ pc <= maxLen) /\ Names B w q g na nc) := hN
  clear ih hp hr hN
  obtain ⟨i0, hi, hz0, hz1, hz2⟩ := info_parts info33
  go_enter Tryz.func17, Tryz.ntmps17
  go_wp2_with fail
  obtain ⟨W2, hW2⟩ : ∃ W2, (w.alloc (.cells #[.int .i64 k, .bool b, .int .i64 n, .string s, .slice pa m pc, .slice na q nc] 25)).alloc (.cells #[.int .i64 0, .bool false, .int .i64 0, .string ⟨#[]⟩, .slice none 0 0, .slice none 0 0] 46) = W2 := ⟨_, rfl⟩
  have hb2 : Below w.heap.size w W2 := by rw [<- hW2]; exact ((Below.refl _ w).alloc (Nat.le_refl _) _).alloc (by simp) _
  have hs2 : W2.heap.size = w.heap.size + 1 + 1 := by rw [<- hW2]; simp
  have r3 : W2.heap[w.heap.size]? = some (.cells #[.int .i64 k, .bool b, .int .i64 n, .string s, .slice pa m pc, .slice na q nc] 25 (0, 0)) := by
    rw [<- hW2, Below.heap_alloc _ _ _ (by simp)]; exact heap_alloc_new _ _
  have r6 : W2.heap[w.heap.size + 1]? = some (.cells #[.int .i64 0, .bool false, .int .i64 0, .string ⟨#[]⟩, .slice none 0 0, .slice none 0 0] 46 (0, 0)) := by
    rw [<- hW2]; have := heap_alloc_new (w.alloc (.cells #[.int .i64 k, .bool b, .int .i64 n, .string s, .slice pa m pc, .slice na q nc] 25)) (.cells #[.int .i64 0, .bool false, .int .i64 0, .string ⟨#[]⟩, .slice none 0 0, .slice none 0 0] 46); simpa using this
  have r7 : (W2.alloc (.cells #[.int .i64 k, .bool b, .int .i64 n, .string s, .slice none 0 0, .slice na q nc] 46)).heap[w.heap.size + 1 + 1]? = some (.cells #[.int .i64 k, .bool b, .int .i64 n, .string s, .slice none 0 0, .slice na q nc] 46 (0, 0)) := by rw [<- hs2]; exact heap_alloc_new _ _
  have hb7 : Below (w.heap.size + 1 + 1) W2 (W2.alloc (.cells #[.int .i64 k, .bool b, .int .i64 n, .string s, .slice none 0 0, .slice na q nc] 46)) := (Below.refl _ _).alloc (by omega) _
  rw [hW2]
  clear hW2
  go_loopw [4] (fun c4 wr => ∃ (i : Nat) (v : Value) (A' : Nat -> Ad), i <= m /\ c4 = .int .i64 (i : Int) /\ wr.heap[w.heap.size + 1 + 1]? = some (.cells #[.int .i64 k, .bool b, .int .i64 n, .string s, v, .slice na q nc] 46 (0, 0)) /\ Below (w.heap.size + 1 + 1) W2 wr /\ Mine 46 (fun k => k < B) (w.heap.size + 1 + 1 + 1) wr v i f A') (fun c4 _ => m - (intOf c4).toNat)
  case atStart => exact ⟨0, .slice none 0 0, A, by omega, rfl, r7, hb7, Mine.start _ _ _ _ _ _⟩
  case round =>
    clear r7 hb7
    obtain ⟨i, v, A', hi', rfl, hrow, hbw, hmine⟩ := hrel
    have hlt7 := lt_of_row hrow
    have g4 := cell_of_row wr _ 4 _ _ _ ((hbw.block w.heap.size (by omega)).trans r3)
    by_cases hiN : i < m
    . have him' : (i : Int) < (m : Int) := by omega
      have hi33 : i < 33 := by omega
      obtain ⟨pb, po, rfl, hpb, hat⟩ := HP.out (by omega)
      have hBw : Below B w wr := (hb2.mono hB).trans (hbw.mono (by omega))
      have h6a := (hat i (by omega)).later hpb hBw
      have d0 := h6a.c0
      have d1 := h6a.c1
      have d2 := h6a.c2
      have d3 := h6a.c3
      have d4 := h6a.c4
      have d5 := h6a.c5
      have hLi := (HR.out i (by omega)).later hBw
      have e4 := cell_of_row wr _ 4 _ _ _ hrow
      have f4 := frozen_of_row wr _ 4 _ _ hrow
      clear hat h6a
      have hszr := hbw.size
      have hLd : Lies B wr.drew (f i) (A i) := LiesS.kept (w := wr) (w' := wr.drew) (fun _ _ => rfl) hLi
      obtain ⟨t, ht⟩ : ∃ t, f i = t := ⟨_, rfl⟩
      have hcall : Calls Tryz.prog 17 #[.agg #[.int .i64 (f i).k, .bool (f i).b, .int .i64 (f i).n, .string (f i).s, .slice (A i).pa (f i).m (A i).pc, .slice (A i).na (f i).q (A i).nc]] wr.drew fun e w' => ∃ A1 : Ad, e = .returned (.agg #[.int .i64 t.k, .bool t.b, .int .i64 t.n, .string t.s, .slice A1.pa t.m A1.pc, .slice A1.na t.q A1.nc]) /\ LiesS (fun k => k < B ∨ (wr.heap.size <= k /\ k < w'.heap.size)) w' t A1 /\ Below wr.heap.size wr w' := by
        rw [<- ht]
        refine (HI.out i hiN B wr.drew (A i) hLd (by show B <= wr.heap.size; omega)).mono ?_
        rintro e1 w' ⟨A1, h1, h2, h3⟩
        exact ⟨A1, h1, h2, (Below.refl _ wr).drew.trans h3⟩
      have HTT : Hid (f i = t) := ht
      clear ht
      go_wp2_with fail
      go_region_law ((first | (go_simp; go_at_call 17; refine hcall.mono ?_; rintro e w1 ⟨A1, rfl, hL1, hb1⟩; have e41 := (hb1.cell (p := ⟨w.heap.size + 1 + 1, 4, none⟩) hlt7).trans e4; have e4a : ∀ o, (w1.alloc o).cell? ⟨w.heap.size + 1 + 1, 4, none⟩ = some v := fun o => cell_kept e41 (Below.heap_alloc w1 o _ (block_lt e41)); have hrow1 := (hb1.block _ hlt7).trans hrow; have hm1 := hmine.kept (w' := w1) hb1.size (fun k hk => hb1.block k (by omega)) (fun k _ hk => hb1.block k hk); dsimp only) | (refine step_append_lies _ (by rfl) (.tmp 24) (.tmp 31) 44 (by rfl) (w.heap.size + 1 + 1 + 1) 46 i0 _ 6 88 Tryz.underlying44 hi hz0 hz1 hz2 (by rfl) (by decide) v i _ (by rfl) (hm1.own.alloc _) ⟨w1.heap.size, 0, none⟩ 1 1 (t.cs A1) (by rfl) (by rfl) (World.news_of_block (heap_alloc_new w1 _)) (cs_one t A1) (by decide) (by unfold maxLen; omega) (by omega) (by have := hb1.size; simp; omega) (w1.heap.size + 1) (by simp) ?_; intro g1 cap1 w2 hown2 hgr2 hat2 hlt2; have e42 := far_cell hgr2 hm1.block_ge e41 (by show w.heap.size + 1 + 1 < _; omega); have hrow2 := far_row hgr2 hm1.block_ge hrow1 (show w.heap.size + 1 + 1 < _ by omega); have f42 := frozen_of_row w2 _ 4 _ _ hrow2)))
      all_goals
        have ht := HTT.out
        have hmA := hm1.kept (w' := w1.alloc (.cells #[.int .i64 t.k, .bool t.b, .int .i64 t.n, .string t.s, .slice A1.pa t.m A1.pc, .slice A1.na t.q A1.nc] 46)) (by simp) (fun k hk => Below.heap_alloc w1 _ k (by have := hb1.size; omega)) (fun k _ hk => Below.heap_alloc w1 _ k hk)
        have hbz := ((hbw.trans (hb1.mono (by omega))).alloc (by have := hb1.size; omega) (.cells #[.int .i64 t.k, .bool t.b, .int .i64 t.n, .string t.s, .slice A1.pa t.m A1.pc, .slice A1.na t.q A1.nc] 46)).grown hgr2 (by have := hb1.size; simp; omega) (fun k hk => by have := hm1.block_ge k hk; omega)
        have hT1 := lies_alloc hL1 (fun k hk => by have := hb1.size; omega) (.cells #[.int .i64 t.k, .bool t.b, .int .i64 t.n, .string t.s, .slice A1.pa t.m A1.pc, .slice A1.na t.q A1.nc] 46)
        have hstep := Mine.step (wr := wr) (a := A1) hmA (by have := hb1.size; simp; omega) (by omega) hmine.block_lt (fun k hk => by omega) (by rw [ht]; exact hT1.up (fun k hk => by rcases hk with hk | hk; exact Or.inl hk; exact Or.inr ⟨hk.1, by simp; omega⟩)) (by rw [ht]; exact hown2) hgr2 hat2 (by simp)
        have hset := hstep.kept (w' := w2.setCell ⟨w.heap.size + 1 + 1, 4, none⟩ (.slice (some ⟨g1, 0, none⟩) (i + 1) cap1)) (by simp) (fun k hk => Below.heap_setCell _ _ _ k (by show k ≠ w.heap.size + 1 + 1; omega)) (fun k hk _ => Below.heap_setCell _ _ _ k (by show k ≠ w.heap.size + 1 + 1; omega))
        have hrow3 := row_setCell (k := 4) hrow2 (.slice (some ⟨g1, 0, none⟩) (i + 1) cap1)
        have hbz3 := hbz.setCell (p := ⟨w.heap.size + 1 + 1, 4, none⟩) (Nat.le_refl _) (.slice (some ⟨g1, 0, none⟩) (i + 1) cap1)
        clear ht hmA hbz hT1 hstep hown2 hgr2 hm1 hL1 hb1
        go_wp2
        go_roundw
        case rel => exact ⟨i + 1, _, _, by omega, by go_num, hrow3, hbz3, hset⟩
        case measure => simp [intOf]; omega
    . obtain rfl : m = i := by omega
      have hr6 := (hbw.block (w.heap.size + 1) (by omega)).trans r6
      have a0 := cell_of_row wr _ 0 _ _ _ hr6
      have a1 := cell_of_row wr _ 1 _ _ _ hr6
      have a2 := cell_of_row wr _ 2 _ _ _ hr6
      have a3 := cell_of_row wr _ 3 _ _ _ hr6
      have a4 := cell_of_row wr _ 4 _ _ _ hr6
      have a5 := cell_of_row wr _ 5 _ _ _ hr6
      have b0 := frozen_of_row wr _ 0 _ _ hr6
      have b1 := frozen_of_row wr _ 1 _ _ hr6
      have b2 := frozen_of_row wr _ 2 _ _ hr6
      have b3 := frozen_of_row wr _ 3 _ _ hr6
      have b4 := frozen_of_row wr _ 4 _ _ hr6
      have b5 := frozen_of_row wr _ 5 _ _ hr6
      have e0 := cell_of_row wr _ 0 _ _ _ hrow
      have e1 := cell_of_row wr _ 1 _ _ _ hrow
      have e2 := cell_of_row wr _ 2 _ _ _ hrow
      have e3 := cell_of_row wr _ 3 _ _ _ hrow
      have e4 := cell_of_row wr _ 4 _ _ _ hrow
      have e5 := cell_of_row wr _ 5 _ _ _ hrow
      obtain ⟨pa', pc', rfl, hpc, hpp, hll⟩ := hmine.done (S' := fun k => k < B ∨ (w.heap.size + 1 + 1 + 1 <= k /\ k < wr.heap.size)) (fun k hk => Or.inl hk) (fun k h1 h2 => Or.inr ⟨h1, h2⟩)
      clear hmine
      go_wp2
      change bodyPost _ _ _ _ _ (set6 wr (w.heap.size + 1) (.int .i64 k) (.bool b) (.int .i64 n) (.string s) (.slice pa' m pc') (.slice na q nc))
      have hro := set6_row hr6 (.int .i64 k) (.bool b) (.int .i64 n) (.string s) (.slice pa' m pc') (.slice na q nc)
      have hkeep : ∀ k1, k1 ≠ w.heap.size + 1 -> (set6 wr (w.heap.size + 1) (.int .i64 k) (.bool b) (.int .i64 n) (.string s) (.slice pa' m pc') (.slice na q nc)).heap[k1]? = wr.heap[k1]? := fun k1 h1 => set6_block _ _ _ _ _ _ _ _ k1 h1
      have hsz := set6_size wr (w.heap.size + 1) (.int .i64 k) (.bool b) (.int .i64 n) (.string s) (.slice pa' m pc') (.slice na q nc)
      have hbf := set6_below (hb2.trans (hbw.mono (by omega))) (w.heap.size + 1) (by omega) (.int .i64 k) (.bool b) (.int .i64 n) (.string s) (.slice pa' m pc') (.slice na q nc)
      obtain ⟨wf, hwf⟩ : ∃ wf, set6 wr (w.heap.size + 1) (.int .i64 k) (.bool b) (.int .i64 n) (.string s) (.slice pa' m pc') (.slice na q nc) = wf := ⟨_, rfl⟩
      rw [hwf] at hro hkeep hsz hbf ⊢
      clear hwf
      have o0 := cell_of_row wf _ 0 _ _ _ hro
      have o1 := cell_of_row wf _ 1 _ _ _ hro
      have o2 := cell_of_row wf _ 2 _ _ _ hro
      have o3 := cell_of_row wf _ 3 _ _ _ hro
      have o4 := cell_of_row wf _ 4 _ _ _ hro
      have o5 := cell_of_row wf _ 5 _ _ _ hro
      refine bodyPost_ret (v := .agg #[.int .i64 k, .bool b, .int .i64 n, .string s, .slice pa' m pc', .slice na q nc]) (by simp [results, Tryz.results17, go_sem, o0, o1, o2, o3, o4, o5]) rfl ⟨⟨pa', pc', na, nc⟩, rfl, ?_, hbf⟩
      have hnk : NamesS (fun k => k < B ∨ (w.heap.size + 1 + 1 + 1 <= k /\ k < wr.heap.size)) wr q g na nc := NamesS.up (fun k hk => Or.inl hk) (Names.later HN.out.2.2.2.2 ((hb2.mono hB).trans (hbw.mono (by omega))))
      have hfin : LiesS (fun k => k < B ∨ (w.heap.size + 1 + 1 + 1 <= k /\ k < wr.heap.size)) wr (.mk k b n s m f q g) ⟨pa', pc', na, nc⟩ := .mk A' HN.out.1 HN.out.2.1 HN.out.2.2.1 hpc hpp hll hnk
      refine (hfin.kept (fun k1 hk => hkeep k1 (by omega))).up (fun k1 hk => ?_)
      rcases hk with hk | hk
      . exact Or.inl hk
      . exact Or.inr ⟨by omega, by omega⟩
set_option maxRecDepth 100000 in
theorem ref_all (t : Tr) (h : slim t) : RefC t := by
  induction t with
  | no => exact fun _ _ _ hL => hL.no.elim
  | mk k b n s m f q g ih => exact ref_mk h.1 (fun i hi => ih i (h.2 i hi))
set_option maxRecDepth 100000 in
theorem slim_cut (t : Tr) : ∀ d w, w <= 33 -> slim (cutT t d w) := by
  induction t with
  | no => exact fun _ _ _ => trivial
  | mk k b n s m f q g ih =>
    intro d w hw
    rw [cutT]
    refine ⟨?_, fun i _ => ih i (d - 1) 4 (by omega)⟩
    split <;> omega
end Go.Proofs.YtfemippjaokcmaaGreatDoor.V
namespace Go.Proofs.YtfemippjaokcmaaGreatDoor
open Go.RowKit Go.Shelf
attribute [local go_sem] Oper.semAt_some fw0 fw1 fw2
def awkL : List UInt8 := [97, 32, 62, 32, 51, 32, 65, 78, 68, 32, 57, 32, 62, 32, 97]
set_option maxRecDepth 100000 in
theorem awk_ok : (psF awkL).2 = true := by decide +kernel
def key3 : ByteArray := ⟨(V.keyT (V.leafT 2 false 3 ⟨#[]⟩)).toArray⟩
def key9 : ByteArray := ⟨(V.keyT (V.leafT 2 false 9 ⟨#[]⟩)).toArray⟩
set_option maxRecDepth 100000 in
theorem awk_top : ((psF awkL).1 []).k = 6 /\ ((psF awkL).1 []).s.data.toList = [65, 78, 68] /\ ((psF awkL).1 []).n = 2 := by decide +kernel
theorem awk_0 : saidE ((psF awkL).1.sub 0) = (⟨#[97]⟩, V.nextB key3, ⟨#[]⟩) := by decide +kernel
theorem awk_1 : saidE ((psF awkL).1.sub 1) = (⟨#[97]⟩, ⟨#[]⟩, key9) := by decide +kernel
theorem parts_and {d : Nat} {t : Et} (h : (t []).k = 6 /\ (t []).s.data.toList = [65, 78, 68] /\ (t []).n = 2) : partsE (d + 1) t = partsE d (t.sub 0) ++ partsE d (t.sub 1) := by
  rw [partsE, if_neg (by rw [h.1]; decide), if_pos h]
theorem parts_one {d : Nat} {t : Et} (h0 : (t []).k ≠ 0) (h : ¬ ((t []).k = 6 /\ (t []).s.data.toList = [65, 78, 68] /\ (t []).n = 2)) : partsE (d + 1) t = [t] := by
  rw [partsE, if_neg h0, if_neg h]
theorem awk_parts (d : Nat) : partsE (d + 2) (psF awkL).1 = [(psF awkL).1.sub 0, (psF awkL).1.sub 1] := by
  rw [parts_and awk_top, parts_one (by decide +kernel) (by decide +kernel), parts_one (by decide +kernel) (by decide +kernel)]
  rfl
def litB (e : En) : Bool := decide (e.k = 1 -> e.vk <= 4 /\ e.vs.size <= 4096 /\ -9223372036854775808 <= e.vn /\ e.vn < 9223372036854775808)
theorem lits_of {t : Et} (h0 : litB (t.sub 0 []) = true) (h1 : litB (t.sub 1 []) = true) : LitsOk t := by
  intro i hi _ hk
  obtain rfl | rfl : i = 0 ∨ i = 1 := by omega
  . obtain ⟨a, b, c⟩ := of_decide_eq_true h0 hk
    exact ⟨⟨a, b⟩, c⟩
  . obtain ⟨a, b, c⟩ := of_decide_eq_true h1 hk
    exact ⟨⟨a, b⟩, c⟩
theorem awk_lits (d : Nat) : ∀ x ∈ partsE (d + 2) (psF awkL).1, LitsOk x := by
  rw [awk_parts]
  intro x hx
  simp only [List.mem_cons, List.not_mem_nil, or_false] at hx
  rcases hx with rfl | rfl
  . exact lits_of (by decide +kernel) (by decide +kernel)
  . exact lits_of (by decide +kernel) (by decide +kernel)
theorem awk_said (d : Nat) : (partsE (d + 2) (psF awkL).1).map saidE = [(⟨#[97]⟩, V.nextB key3, ⟨#[]⟩), (⟨#[97]⟩, ⟨#[]⟩, key9)] := by
  rw [awk_parts, List.map_cons, List.map_cons, awk_0, awk_1]
  rfl
theorem awk_short : Short [(⟨#[97]⟩, V.nextB key3, ⟨#[]⟩), (⟨#[97]⟩, ⟨#[]⟩, key9)] := by
  intro p hp
  simp only [List.mem_cons, List.not_mem_nil, or_false] at hp
  rcases hp with rfl | rfl
  . exact Nat.zero_le _
  . show key9.size <= 20000
    decide +kernel
theorem awk_plan : chooseL [(⟨#[97]⟩, V.nextB key3, ⟨#[]⟩), (⟨#[97]⟩, ⟨#[]⟩, key9)] [⟨#[97]⟩] = (⟨#[97]⟩, V.nextB key3, key9) := by decide +kernel
theorem serves_nil (f : ByteArray) : servesB f [] = false := by
  unfold servesB
  have : Lib.containsS [] f = false := rfl
  rw [this, Bool.and_false, Bool.and_false]
theorem choose_nil (m : List P3) : chooseL m [] = noP := by
  unfold chooseL
  rw [List.find?_eq_none.2 (fun x _ => by rw [serves_nil]; exact Bool.false_ne_true)]
set_option maxRecDepth 100000 in
theorem eql33 (a b c d : ByteArray) (w : World) : (Op.equalIn 9999 33 (.agg #[.string a, .string b]) (.agg #[.string c, .string d])).run Tryz.prog w = .ok ((a.toList == c.toList) && (b.toList == d.toList)) w := by
  have u3 := Tryz.underlying9
  have a3 := Tryz.isAgg9
  have z3 := Tryz.sizeOf9
  rw [show (9999 : Nat) = 9998 + 1 from rfl, Op.equalIn]
  simp only [Sem.run_bind, run_underlying Tryz.underlying33, Result.andThen_ok]
  go_simp
  by_cases h1 : a.toList = c.toList <;> by_cases h2 : b.toList = d.toList <;> simp [h1, h2]
set_option maxRecDepth 100000 in
theorem eql35 (a b c d e f : ByteArray) (w : World) : (Op.equalIn 10000 35 (.agg #[.string a, .string b, .string c]) (.agg #[.string d, .string e, .string f])).run Tryz.prog w = .ok ((a.toList == d.toList) && ((b.toList == e.toList) && (c.toList == f.toList))) w := by
  have u3 := Tryz.underlying9
  have a3 := Tryz.isAgg9
  have z3 := Tryz.sizeOf9
  have u4 := Tryz.underlying33
  have a4 := Tryz.isAgg33
  have z4 := Tryz.sizeOf33
  have e4 := eql33 b c e f w
  rw [show (10000 : Nat) = 9999 + 1 from rfl, Op.equalIn]
  simp only [Sem.run_bind, run_underlying Tryz.underlying35, Result.andThen_ok]
  go_simp
  by_cases h1 : a.toList = d.toList <;> by_cases h2 : b.toList = e.toList <;> by_cases h3 : c.toList = f.toList <;> simp [h1, h2, h3]
end Go.Proofs.YtfemippjaokcmaaGreatDoor
namespace Go.Proofs.YtfemippjaokcmaaGreatDoor
open Go.RowKit Go.Shelf
attribute [local go_sem] Oper.semAt_some fw0 fw1 fw2 eql35
def RfS (v : Value) (W : World) : Prop := ∃ A, v = (V.leafT 2 false 3 ⟨#[]⟩).val A /\ V.Lies W.heap.size W (V.leafT 2 false 3 ⟨#[]⟩) A
theorem RfS.later : ∀ v W W', RfS v W -> Below W.heap.size W W' -> RfS v W' := fun _ _ _ ⟨A, h1, h2⟩ hb => ⟨A, h1, (V.Lies.later hb h2).up hb.size⟩
theorem slim3 : V.slim (V.leafT 2 false 3 ⟨#[]⟩) := by
  unfold V.leafT V.slim
  exact ⟨by decide, fun i hi => by omega⟩
theorem ref3 (W : World) : Calls Tryz.prog 17 #[.agg #[.int .i64 2, .bool false, .int .i64 3, .string ⟨#[]⟩, .slice none 0 0, .slice none 0 0]] W fun e w' => (∃ v, e = .returned v /\ RfS v w') /\ Below W.heap.size W w' := by
  have hL : V.Lies W.heap.size W (V.leafT 2 false 3 ⟨#[]⟩) ⟨none, 0, none, 0⟩ := V.lies_leaf (by omega) (by omega) (by decide)
  refine (V.ref_all _ slim3 W.heap.size W ⟨none, 0, none, 0⟩ hL (Nat.le_refl _)).mono ?_
  rintro e w' ⟨A, rfl, hl, hb⟩
  exact ⟨⟨_, rfl, A, rfl, hl.up (fun k hk => by have := hb.size; omega)⟩, hb⟩
theorem awk_choose {d : Nat} {R : XR} {W : World} (hx : LiesE W (fun k => k < W.heap.size) (d + 2) (psF awkL).1 (rowX R)) (hg : V.Gm W) (p : Option Addr) (c : Nat) (l : List ByteArray) (hI : Ixs W p l) :
    Calls Tryz.prog 9 #[rowX R, .slice p l.length c] W (GivesP3 W (chooseL [(⟨#[97]⟩, V.nextB key3, ⟨#[]⟩), (⟨#[97]⟩, ⟨#[]⟩, key9)] l)) := by
  have h := choose_any (k := R.k) (s := R.s) (vk := R.vk) (vb := R.vb) (vn := R.vn) (vs := R.vs) (kp := R.kp) (nk := R.n) (kc := R.kc) (np := R.np) (nm := R.m) (nc := R.nc) hx hg (by rw [awk_parts]; decide) (awk_lits d) (by rw [awk_said]; exact awk_short) p c l hI
  rw [awk_said] at h
  exact h
theorem ix_one {w : World} {b : Nat} {x : ByteArray} (h : w.heap[b]? = some (.cells #[.string x] 9 (0, 0))) : Ixs w (some ⟨b, 0, none⟩) [x] := by
  refine ⟨(by show 1 <= 100000; decide), .inr ⟨b, 0, rfl, lt_of_row h, fun j hj => ?_⟩⟩
  obtain rfl : j = 0 := by simpa using hj
  exact cell_of_row w b 0 _ _ _ h
theorem sound3 : V.soundT (V.leafT 2 false 3 ⟨#[]⟩) 1 = 0 := by decide +kernel
theorem small3 : V.small (V.leafT 2 false 3 ⟨#[]⟩) := ⟨by decide, fun i hi => by omega⟩
theorem key_3 (W : World) (A : V.Ad) (h : V.Lies W.heap.size W (V.leafT 2 false 3 ⟨#[]⟩) A) : Calls Tryz.prog 18 #[.agg #[.int .i64 2, .bool false, .int .i64 3, .string ⟨#[]⟩, .slice A.pa 0 A.pc, .slice A.na 0 A.nc]] W fun e w' => e = .returned (.string key3) /\ Below W.heap.size W w' :=
  V.dkey_all (V.leafT 2 false 3 ⟨#[]⟩) 1 sound3 small3 W.heap.size W A h (Nat.le_refl _) (by decide +kernel)
set_option maxRecDepth 100000 in
set_option maxHeartbeats 8000000 in
theorem awake_any (w : World) (he : Ev w) (hg : V.Gm w) : Calls Tryz.prog 8 #[] w fun e w' => e = .returned (.bool true) /\ Below w.heap.size w w' := by
  have kp := parsed_by ⟨#[97, 32, 62, 32, 51, 32, 65, 78, 68, 32, 57, 32, 62, 32, 97]⟩ (by decide) (stm_del fun _ => by decide +kernel) w he
  change Calls Tryz.prog 7 #[.string ⟨#[97, 32, 62, 32, 51, 32, 65, 78, 68, 32, 57, 32, 62, 32, 97]⟩] w (GivesE w (psF awkL)) at kp
  have HG := mkHid hg
  clear hg he
  go_enter Tryz.func8, Tryz.ntmps8
  go_wp2_with fail
  refine kp.mono ?_
  rintro q w1 ⟨R, d, rfl, hx, hb1⟩
  rw [awk_ok]
  have hx2 := hx.mono (show d <= d + 2 by omega)
  obtain ⟨k, s, vk, vb, vn, vs, kp2, nk, kc, np, nm, nc⟩ := R
  obtain ⟨kp, hkp⟩ : ∃ kp, kp2 = kp := ⟨_, rfl⟩
  subst hkp
  obtain ⟨w2, hw2⟩ : ∃ w2, w1.alloc (.cells #[.int .i64 k, .string s, .int .i64 vk, .bool vb, .int .i64 vn, .string vs, .slice none 0 0, .slice none 0 0, .slice kp2 nk kc, .slice np nm nc] 28) = w2 := ⟨_, rfl⟩
  obtain ⟨r2, hb2⟩ := alloc1 hw2
  have HW2 := mkHid hw2
  have hB2 : Below w.heap.size w w2 := hb1.trans (hb2.mono hb1.size)
  have hx3 := (hx2.since (Since.below hb2)).imp (R := fun k => k < w2.heap.size) (fun k _ hl => hl)
  have H2 : Hid (Below w.heap.size w w2 /\ LiesE w2 (fun k => k < w2.heap.size) (d + 2) (psF awkL).1 (rowX ⟨k, s, vk, vb, vn, vs, kp2, nk, kc, np, nm, nc⟩)) := ⟨hB2, hx3⟩
  obtain ⟨bk, hbk⟩ : ∃ bk, w1.heap.size = bk := ⟨_, rfl⟩
  have c0 : w2.cell? ⟨w1.heap.size, 0, none⟩ = some (.int .i64 k) := cell_of_row w2 _ 0 _ _ _ r2
  have c1 : w2.cell? ⟨w1.heap.size, 1, none⟩ = some (.string s) := cell_of_row w2 _ 1 _ _ _ r2
  have c2 : w2.cell? ⟨w1.heap.size, 2, none⟩ = some (.int .i64 vk) := cell_of_row w2 _ 2 _ _ _ r2
  have c3 : w2.cell? ⟨w1.heap.size, 3, none⟩ = some (.bool vb) := cell_of_row w2 _ 3 _ _ _ r2
  have c4 : w2.cell? ⟨w1.heap.size, 4, none⟩ = some (.int .i64 vn) := cell_of_row w2 _ 4 _ _ _ r2
  have c5 : w2.cell? ⟨w1.heap.size, 5, none⟩ = some (.string vs) := cell_of_row w2 _ 5 _ _ _ r2
  have c6 : w2.cell? ⟨w1.heap.size, 6, none⟩ = some (.slice none 0 0) := cell_of_row w2 _ 6 _ _ _ r2
  have c7 : w2.cell? ⟨w1.heap.size, 7, none⟩ = some (.slice none 0 0) := cell_of_row w2 _ 7 _ _ _ r2
  have c8 : w2.cell? ⟨w1.heap.size, 8, none⟩ = some (.slice kp2 nk kc) := cell_of_row w2 _ 8 _ _ _ r2
  have c9 : w2.cell? ⟨w1.heap.size, 9, none⟩ = some (.slice np nm nc) := cell_of_row w2 _ 9 _ _ _ r2
  have HR2 := mkHid r2
  clear hx hx2 hx3 hw2 hb1 hb2 hB2 r2 hbk
  unfold rowX
  go_wp2_with (first | rw [HW2.out] | fail)
  obtain ⟨w3, hw3⟩ : ∃ u, w2.alloc (.cells #[.string ⟨#[97]⟩] 9) = u := ⟨_, rfl⟩
  obtain ⟨r3, hb3⟩ := alloc1 hw3
  rw [hw3]
  have hx3 := (H2.out.2.since (Since.below hb3)).imp (R := fun k => k < w3.heap.size) (fun k _ hl => hl)
  have k1 := awk_choose hx3 (HG.out.later (H2.out.1.trans (hb3.mono H2.out.1.size)) HG.out.pos) (some ⟨w2.heap.size, 0, none⟩) 1 [⟨#[97]⟩] (ix_one r3)
  rw [awk_plan] at k1
  refine k1.mono ?_
  rintro e w4 ⟨rfl, hb4⟩
  obtain ⟨nk3, hnk⟩ : ∃ x, V.nextB key3 = x := ⟨_, rfl⟩
  obtain ⟨k9, hk9⟩ : ∃ x, key9 = x := ⟨_, rfl⟩
  rw [hnk, hk9]
  have HNK := mkHid hnk
  have hb24 : Below w2.heap.size w2 w4 := hb3.trans (hb4.mono hb3.size)
  obtain ⟨w5, hw5⟩ : ∃ u, w4.alloc (.cells #[.string ⟨#[97]⟩, .string nk3, .string k9] 35) = u := ⟨_, rfl⟩
  obtain ⟨r5, hb5⟩ := alloc1 hw5
  have hb25 : Below w2.heap.size w2 w5 := hb24.trans (hb5.mono hb24.size)
  have HW5 := mkHid hw5
  have hx5 := (H2.out.2.since (Since.below hb25)).imp (R := fun k => k < w5.heap.size) (fun k _ hl => hl)
  have rr := Below.row hb25 HR2.out
  have H5 : Hid (Below w.heap.size w w5 /\ LiesE w5 (fun k => k < w5.heap.size) (d + 2) (psF awkL).1 (rowX ⟨k, s, vk, vb, vn, vs, kp2, nk, kc, np, nm, nc⟩)) := ⟨H2.out.1.trans (hb25.mono H2.out.1.size), hx5⟩
  obtain ⟨z1, hz1⟩ : ∃ z, w1.heap.size = z := ⟨_, rfl⟩
  rw [hz1] at rr ⊢
  clear k1 hx3 hw3 r3 hb3 hb4 hnk hk9 hb24 hw5 hb5 hb25 hx5 H2 HR2 HW2 hz1 c0 c1 c2 c3 c4 c5 c6 c7 c8 c9
  go_wp2_with (first | rw [HW5.out] | fail)
  obtain ⟨z5, hz5⟩ : ∃ z, w4.heap.size = z := ⟨_, rfl⟩
  rw [hz5] at r5 ⊢
  clear HW5 hz5
  have kint : ∀ W : World, Calls Tryz.prog 24 #[.int .i64 3] W fun r w' => r = .returned (.agg #[.int .i64 2, .bool false, .int .i64 3, .string ⟨#[]⟩, .slice none 0 0, .slice none 0 0]) /\ Below W.heap.size W w' := V.vint 3
  have kref := ref3
  have kkey := key_3
  have kplus : ∀ W : World, Calls Tryz.prog 23 #[.string key3] W fun e w' => e = .returned (.string nk3) /\ Below W.heap.size W w' := fun W => by rw [<- HNK.out]; exact plus_any key3 (by decide +kernel) W
  have kch : ∀ W : World, Below w5.heap.size w5 W -> Calls Tryz.prog 9 #[.agg #[.int .i64 k, .string s, .int .i64 vk, .bool vb, .int .i64 vn, .string vs, .slice none 0 0, .slice none 0 0, .slice kp2 nk kc, .slice np nm nc], .slice none 0 0] W fun e w' => e = .returned (.agg #[.string ⟨#[]⟩, .string ⟨#[]⟩, .string ⟨#[]⟩]) /\ Below W.heap.size W w' := fun W hb => by
    have hxw := (H5.out.2.since (Since.below hb)).imp (R := fun k => k < W.heap.size) (fun k _ hl => hl)
    have k1 := awk_choose hxw (HG.out.later (H5.out.1.trans (hb.mono H5.out.1.size)) HG.out.pos) none 0 [] ⟨Nat.zero_le _, .inl rfl⟩
    rw [choose_nil] at k1
    exact k1
  refine (wpIn_wide (n := 0)).1 ?_
  refine any_tailIn (m := 0) (by kernel_rfl) 23 (by exact Nat.le_of_ble_eq_true rfl) (fun i => if i < 22 then i + 11 else 0) (mixR [(11, RfS)] [.bool true, .bool true, .pointer (some ⟨z5, 0, none⟩), .string ⟨#[97]⟩, .bool true, .bool true, .bool true, .pointer (some ⟨z5, 1, none⟩), .pointer (some ⟨z5, 1, none⟩), .string nk3, .agg #[.int .i64 2, .bool false, .int .i64 3, .string ⟨#[]⟩, .slice none 0 0, .slice none 0 0], undef, .string key3, .string nk3, .bool true, .bool true, .bool true, .agg #[.int .i64 k, .string s, .int .i64 vk, .bool vb, .int .i64 vn, .string vs, .slice none 0 0, .slice none 0 0, .slice kp2 nk kc, .slice np nm nc], .agg #[.string ⟨#[]⟩, .string ⟨#[]⟩, .string ⟨#[]⟩], .agg #[.string ⟨#[]⟩, .string ⟨#[]⟩, .string ⟨#[]⟩], .bool true, .bool true, .bool true]) (by kernel_rfl) (by kernel_rfl) (by kernel_rfl) (by kernel_rfl) (mixR_later _ _ (stab_cons (RfS.later) (stab_nil))) ?step ?post
  case step =>
    intro iq hiq a W hrest hb hk
    have hp3 : a.eval (.tmp 3) = .pointer (some ⟨z5, 0, none⟩) := (hrest 3 (by intro iq2 hiq2; (repeat' split) <;> omega)).trans rfl
    have fp3 := ev hp3
    have hx3 : W.heap[z5]? = some (.cells #[.string ⟨#[97]⟩, .string nk3, .string k9] 35 (0, 0)) := (hb.block _ (lt_of_row r5)).trans r5
    have hp1 : a.eval (.tmp 1) = .pointer (some ⟨z1, 0, none⟩) := (hrest 1 (by intro iq2 hiq2; (repeat' split) <;> omega)).trans rfl
    have fp1 := ev hp1
    have hx1 : W.heap[z1]? = some (.cells #[.int .i64 k, .string s, .int .i64 vk, .bool vb, .int .i64 vn, .string vs, .slice none 0 0, .slice none 0 0, .slice kp2 nk kc, .slice np nm nc] 28 (0, 0)) := (hb.block _ (lt_of_row rr)).trans rr
    have hp2 : a.eval (.tmp 2) = .bool true := (hrest 2 (by intro iq2 hiq2; (repeat' split) <;> omega)).trans rfl
    have fp2 := ev hp2
    clear hrest
    obtain rfl | rfl | rfl | rfl | rfl | rfl | rfl | rfl | rfl | rfl | rfl | rfl | rfl | rfl | rfl | rfl | rfl | rfl | rfl | rfl | rfl | rfl | rfl : iq = 0 ∨ iq = 1 ∨ iq = 2 ∨ iq = 3 ∨ iq = 4 ∨ iq = 5 ∨ iq = 6 ∨ iq = 7 ∨ iq = 8 ∨ iq = 9 ∨ iq = 10 ∨ iq = 11 ∨ iq = 12 ∨ iq = 13 ∨ iq = 14 ∨ iq = 15 ∨ iq = 16 ∨ iq = 17 ∨ iq = 18 ∨ iq = 19 ∨ iq = 20 ∨ iq = 21 ∨ iq = 22 := by omega
    . clear hiq
      clear hk
      refine ⟨_, rfl, rfl, Or.inl ⟨wanted_none rfl, wpIn_value (v := .bool true) (w' := W) ?_ ⟨_, rfl, Below.refl _ _, rfl⟩⟩⟩
      go_simp
    . clear hiq
      have e0 : a.eval (.tmp 11) = .bool true := hk 0 (mem_of (by kernel_rfl))
      have f0 := ev e0
      clear hk
      refine ⟨_, rfl, rfl, Or.inl ⟨wanted_none rfl, wpIn_value (v := .bool true) (w' := W) ?_ ⟨_, rfl, Below.refl _ _, rfl⟩⟩⟩
      go_simp
    . clear hiq
      have e1 : a.eval (.tmp 12) = .bool true := hk 1 (mem_of (by kernel_rfl))
      have f1 := ev e1
      clear hk
      refine ⟨_, rfl, rfl, Or.inl ⟨wanted_of (k := 1) (b := true) rfl rfl e1, wpIn_value (v := .pointer (some ⟨z5, 0, none⟩)) (w' := W) ?_ ⟨_, rfl, Below.refl _ _, rfl⟩⟩⟩
      go_simp
    . clear hiq
      have e1 : a.eval (.tmp 12) = .bool true := hk 1 (mem_of (by kernel_rfl))
      have f1 := ev e1
      have e2 : a.eval (.tmp 13) = .pointer (some ⟨z5, 0, none⟩) := hk 2 (mem_of (by kernel_rfl))
      have f2 := ev e2
      have hc0 := cell_of_row W z5 0 _ _ _ hx3
      clear hk
      refine ⟨_, rfl, rfl, Or.inl ⟨wanted_of (k := 1) (b := true) rfl rfl e1, wpIn_value (v := .string ⟨#[97]⟩) (w' := W) ?_ ⟨_, rfl, Below.refl _ _, rfl⟩⟩⟩
      go_simp
    . clear hiq
      have e1 : a.eval (.tmp 12) = .bool true := hk 1 (mem_of (by kernel_rfl))
      have f1 := ev e1
      have e3 : a.eval (.tmp 14) = .string ⟨#[97]⟩ := hk 3 (mem_of (by kernel_rfl))
      have f3 := ev e3
      clear hk
      refine ⟨_, rfl, rfl, Or.inl ⟨wanted_of (k := 1) (b := true) rfl rfl e1, wpIn_value (v := .bool true) (w' := W) ?_ ⟨_, rfl, Below.refl _ _, rfl⟩⟩⟩
      go_simp
    . clear hiq
      have e1 : a.eval (.tmp 12) = .bool true := hk 1 (mem_of (by kernel_rfl))
      have f1 := ev e1
      have e4 : a.eval (.tmp 15) = .bool true := hk 4 (mem_of (by kernel_rfl))
      have f4 := ev e4
      clear hk
      refine ⟨_, rfl, rfl, Or.inl ⟨wanted_none rfl, wpIn_value (v := .bool true) (w' := W) ?_ ⟨_, rfl, Below.refl _ _, rfl⟩⟩⟩
      go_simp
    . clear hiq
      have e5 : a.eval (.tmp 16) = .bool true := hk 5 (mem_of (by kernel_rfl))
      have f5 := ev e5
      clear hk
      refine ⟨_, rfl, rfl, Or.inl ⟨wanted_none rfl, wpIn_value (v := .bool true) (w' := W) ?_ ⟨_, rfl, Below.refl _ _, rfl⟩⟩⟩
      go_simp
    . clear hiq
      have e6 : a.eval (.tmp 17) = .bool true := hk 6 (mem_of (by kernel_rfl))
      have f6 := ev e6
      clear hk
      refine ⟨_, rfl, rfl, Or.inl ⟨wanted_of (k := 6) (b := true) rfl rfl e6, wpIn_value (v := .pointer (some ⟨z5, 1, none⟩)) (w' := W) ?_ ⟨_, rfl, Below.refl _ _, rfl⟩⟩⟩
      go_simp
    . clear hiq
      have e6 : a.eval (.tmp 17) = .bool true := hk 6 (mem_of (by kernel_rfl))
      have f6 := ev e6
      have e7 : a.eval (.tmp 18) = .pointer (some ⟨z5, 1, none⟩) := hk 7 (mem_of (by kernel_rfl))
      have f7 := ev e7
      clear hk
      refine ⟨_, rfl, rfl, Or.inl ⟨wanted_of (k := 6) (b := true) rfl rfl e6, wpIn_value (v := .pointer (some ⟨z5, 1, none⟩)) (w' := W) ?_ ⟨_, rfl, Below.refl _ _, rfl⟩⟩⟩
      go_simp
    . clear hiq
      have e6 : a.eval (.tmp 17) = .bool true := hk 6 (mem_of (by kernel_rfl))
      have f6 := ev e6
      have e8 : a.eval (.tmp 19) = .pointer (some ⟨z5, 1, none⟩) := hk 8 (mem_of (by kernel_rfl))
      have f8 := ev e8
      have hc1 := cell_of_row W z5 1 _ _ _ hx3
      clear hk
      refine ⟨_, rfl, rfl, Or.inl ⟨wanted_of (k := 6) (b := true) rfl rfl e6, wpIn_value (v := .string nk3) (w' := W) ?_ ⟨_, rfl, Below.refl _ _, rfl⟩⟩⟩
      go_simp
    . clear hiq
      have e6 : a.eval (.tmp 17) = .bool true := hk 6 (mem_of (by kernel_rfl))
      have f6 := ev e6
      clear hk
      refine ⟨_, rfl, rfl, Or.inl ⟨wanted_of (k := 6) (b := true) rfl rfl e6, wpIn_enter (f := 24) (args := #[.int .i64 3]) ?_ ((kint W).mono ?_)⟩⟩
      . go_simp
      . rintro e w2 ⟨rfl, hb2⟩
        exact ⟨_, rfl, _, rfl, hb2, rfl⟩
    . clear hiq
      have e6 : a.eval (.tmp 17) = .bool true := hk 6 (mem_of (by kernel_rfl))
      have f6 := ev e6
      have e10 : a.eval (.tmp 21) = .agg #[.int .i64 2, .bool false, .int .i64 3, .string ⟨#[]⟩, .slice none 0 0, .slice none 0 0] := hk 10 (mem_of (by kernel_rfl))
      have f10 := ev e10
      clear hk
      refine ⟨_, rfl, rfl, Or.inl ⟨wanted_of (k := 6) (b := true) rfl rfl e6, wpIn_enter (f := 17) (args := #[.agg #[.int .i64 2, .bool false, .int .i64 3, .string ⟨#[]⟩, .slice none 0 0, .slice none 0 0]]) ?_ ((kref W).mono ?_)⟩⟩
      . go_simp
      . rintro e w2 ⟨⟨v, rfl, hv⟩, hb2⟩
        exact ⟨_, rfl, _, rfl, hb2, hv⟩
    . clear hiq
      have e6 : a.eval (.tmp 17) = .bool true := hk 6 (mem_of (by kernel_rfl))
      have f6 := ev e6
      obtain ⟨A11, e11, h11⟩ := show RfS (a.eval (.tmp 22)) W from hk 11 (mem_of (by kernel_rfl))
      replace e11 : a.eval (.tmp 22) = .agg #[.int .i64 2, .bool false, .int .i64 3, .string ⟨#[]⟩, .slice A11.pa 0 A11.pc, .slice A11.na 0 A11.nc] := e11
      have f11 := ev e11
      clear hk
      refine ⟨_, rfl, rfl, Or.inl ⟨wanted_of (k := 6) (b := true) rfl rfl e6, wpIn_enter (f := 18) (args := #[.agg #[.int .i64 2, .bool false, .int .i64 3, .string ⟨#[]⟩, .slice A11.pa 0 A11.pc, .slice A11.na 0 A11.nc]]) ?_ ((kkey W A11 h11).mono ?_)⟩⟩
      . go_simp
      . rintro e w2 ⟨rfl, hb2⟩
        exact ⟨_, rfl, _, rfl, hb2, rfl⟩
    . clear hiq
      have e6 : a.eval (.tmp 17) = .bool true := hk 6 (mem_of (by kernel_rfl))
      have f6 := ev e6
      have e12 : a.eval (.tmp 23) = .string key3 := hk 12 (mem_of (by kernel_rfl))
      have f12 := ev e12
      clear hk
      refine ⟨_, rfl, rfl, Or.inl ⟨wanted_of (k := 6) (b := true) rfl rfl e6, wpIn_enter (f := 23) (args := #[.string key3]) ?_ ((kplus W).mono ?_)⟩⟩
      . go_simp
      . rintro e w2 ⟨rfl, hb2⟩
        exact ⟨_, rfl, _, rfl, hb2, rfl⟩
    . clear hiq
      have e6 : a.eval (.tmp 17) = .bool true := hk 6 (mem_of (by kernel_rfl))
      have f6 := ev e6
      have e9 : a.eval (.tmp 20) = .string nk3 := hk 9 (mem_of (by kernel_rfl))
      have f9 := ev e9
      have e13 : a.eval (.tmp 24) = .string nk3 := hk 13 (mem_of (by kernel_rfl))
      have f13 := ev e13
      clear hk
      refine ⟨_, rfl, rfl, Or.inl ⟨wanted_of (k := 6) (b := true) rfl rfl e6, wpIn_value (v := .bool true) (w' := W) ?_ ⟨_, rfl, Below.refl _ _, rfl⟩⟩⟩
      go_simp
    . clear hiq
      have e6 : a.eval (.tmp 17) = .bool true := hk 6 (mem_of (by kernel_rfl))
      have f6 := ev e6
      have e14 : a.eval (.tmp 25) = .bool true := hk 14 (mem_of (by kernel_rfl))
      have f14 := ev e14
      clear hk
      refine ⟨_, rfl, rfl, Or.inl ⟨wanted_none rfl, wpIn_value (v := .bool true) (w' := W) ?_ ⟨_, rfl, Below.refl _ _, rfl⟩⟩⟩
      go_simp
    . clear hiq
      have e15 : a.eval (.tmp 26) = .bool true := hk 15 (mem_of (by kernel_rfl))
      have f15 := ev e15
      clear hk
      refine ⟨_, rfl, rfl, Or.inl ⟨wanted_none rfl, wpIn_value (v := .bool true) (w' := W) ?_ ⟨_, rfl, Below.refl _ _, rfl⟩⟩⟩
      go_simp
    . clear hiq
      have e16 : a.eval (.tmp 27) = .bool true := hk 16 (mem_of (by kernel_rfl))
      have f16 := ev e16
      have hc0 := cell_of_row W z1 0 _ _ _ hx1
      have hc1 := cell_of_row W z1 1 _ _ _ hx1
      have hc2 := cell_of_row W z1 2 _ _ _ hx1
      have hc3 := cell_of_row W z1 3 _ _ _ hx1
      have hc4 := cell_of_row W z1 4 _ _ _ hx1
      have hc5 := cell_of_row W z1 5 _ _ _ hx1
      have hc6 := cell_of_row W z1 6 _ _ _ hx1
      have hc7 := cell_of_row W z1 7 _ _ _ hx1
      have hc8 := cell_of_row W z1 8 _ _ _ hx1
      have hc9 := cell_of_row W z1 9 _ _ _ hx1
      clear hk
      refine ⟨_, rfl, rfl, Or.inl ⟨wanted_of (k := 16) (b := true) rfl rfl e16, wpIn_value (v := .agg #[.int .i64 k, .string s, .int .i64 vk, .bool vb, .int .i64 vn, .string vs, .slice none 0 0, .slice none 0 0, .slice kp2 nk kc, .slice np nm nc]) (w' := W) ?_ ⟨_, rfl, Below.refl _ _, rfl⟩⟩⟩
      go_simp
    . clear hiq
      have e16 : a.eval (.tmp 27) = .bool true := hk 16 (mem_of (by kernel_rfl))
      have f16 := ev e16
      have e17 : a.eval (.tmp 28) = .agg #[.int .i64 k, .string s, .int .i64 vk, .bool vb, .int .i64 vn, .string vs, .slice none 0 0, .slice none 0 0, .slice kp2 nk kc, .slice np nm nc] := hk 17 (mem_of (by kernel_rfl))
      have f17 := ev e17
      clear hk
      refine ⟨_, rfl, rfl, Or.inl ⟨wanted_of (k := 16) (b := true) rfl rfl e16, wpIn_enter (f := 9) (args := #[.agg #[.int .i64 k, .string s, .int .i64 vk, .bool vb, .int .i64 vn, .string vs, .slice none 0 0, .slice none 0 0, .slice kp2 nk kc, .slice np nm nc], .slice none 0 0]) ?_ ((kch W hb).mono ?_)⟩⟩
      . go_simp
      . rintro e w2 ⟨rfl, hb2⟩
        exact ⟨_, rfl, _, rfl, hb2, rfl⟩
    . clear hiq
      have e16 : a.eval (.tmp 27) = .bool true := hk 16 (mem_of (by kernel_rfl))
      have f16 := ev e16
      clear hk
      refine ⟨_, rfl, rfl, Or.inl ⟨wanted_of (k := 16) (b := true) rfl rfl e16, wpIn_value (v := .agg #[.string ⟨#[]⟩, .string ⟨#[]⟩, .string ⟨#[]⟩]) (w' := W) ?_ ⟨_, rfl, Below.refl _ _, rfl⟩⟩⟩
      go_simp
    . clear hiq
      have e16 : a.eval (.tmp 27) = .bool true := hk 16 (mem_of (by kernel_rfl))
      have f16 := ev e16
      have e18 : a.eval (.tmp 29) = .agg #[.string ⟨#[]⟩, .string ⟨#[]⟩, .string ⟨#[]⟩] := hk 18 (mem_of (by kernel_rfl))
      have f18 := ev e18
      have e19 : a.eval (.tmp 30) = .agg #[.string ⟨#[]⟩, .string ⟨#[]⟩, .string ⟨#[]⟩] := hk 19 (mem_of (by kernel_rfl))
      have f19 := ev e19
      clear hk
      refine ⟨_, rfl, rfl, Or.inl ⟨wanted_of (k := 16) (b := true) rfl rfl e16, wpIn_value (v := .bool true) (w' := W) ?_ ⟨_, rfl, Below.refl _ _, rfl⟩⟩⟩
      go_simp
    . clear hiq
      have e16 : a.eval (.tmp 27) = .bool true := hk 16 (mem_of (by kernel_rfl))
      have f16 := ev e16
      have e20 : a.eval (.tmp 31) = .bool true := hk 20 (mem_of (by kernel_rfl))
      have f20 := ev e20
      clear hk
      refine ⟨_, rfl, rfl, Or.inl ⟨wanted_none rfl, wpIn_value (v := .bool true) (w' := W) ?_ ⟨_, rfl, Below.refl _ _, rfl⟩⟩⟩
      go_simp
    . clear hiq
      have e21 : a.eval (.tmp 32) = .bool true := hk 21 (mem_of (by kernel_rfl))
      have f21 := ev e21
      clear hk
      refine ⟨_, rfl, rfl, Or.inl ⟨wanted_none rfl, wpIn_value (v := .bool true) (w' := W) ?_ ⟨_, rfl, Below.refl _ _, rfl⟩⟩⟩
      go_simp
  case post =>
    intro V1 W hbW hV
    have v22 : V1 22 = .bool true := hV 22 (by omega)
    have H6 : Hid (Below w.heap.size w W) := H5.out.1.trans (hbW.mono H5.out.1.size)
    clear hV hbW r5 rr kint kref kkey kplus kch H5
    simp only [putAll, reduceIte, Nat.reduceLT, Nat.reduceAdd]
    rw [v22]
    simp only [Act.put, List.setIfInBounds_toArray, List.set_cons_zero, List.set_cons_succ]
    change wpListIn _ _ _ _ _ [] _ _
    gi_wp2
    go_wp2
    go_ret
    exact ⟨rfl, H6.out⟩
end Go.Proofs.YtfemippjaokcmaaGreatDoor
namespace Go.Proofs.YtfemippjaokcmaaGreatDoor.V
open Go.ChangeShapes Go.WideShapes Go.ChangeAt Go.RowKit Go.Deep
theorem laidOut : laidOutB Tryz.prog = true := by kernel_rfl
theorem add_at (g q n : Nat) : (⟨g, q, none⟩ : Addr).add n = ⟨g, q + n, none⟩ := by unfold Addr.add; split <;> simp_all
theorem six_of {l : List Value} (h : l.length = 6) : ∃ a b c d e f, l = [a, b, c, d, e, f] := by
  match l, h with
  | [a, b, c, d, e, f], _ => exact ⟨a, b, c, d, e, f, rfl⟩
theorem some_of {α : Type} {l : List α} {i : Nat} (h : i < l.length) : ∃ x, l[i]? = some x := ⟨l[i], List.getElem?_eq_getElem h⟩
theorem open_names {H : Type} {enc : TypeId × Value -> H} {W : World} {fuel : Nat} {cs : List Value} {x : DataW H × List MemPlace}
    (h : DataW.trod enc Tryz.prog W 0 (fun _ => true) true fuel 22 cs = some x) :
    ∃ (na : Option Addr) (q nc : Nat) (g : Nat -> ByteArray), cs = [.slice na q nc] /\ Names W.heap.size W q g na nc := by
  rcases open_strs (P := Tryz.prog) Tryz.underlying22 Tryz.underlying9 (by kernel_rfl) h with ⟨rfl, _⟩ | ⟨a, len, cap, m, S, rfl, _, hl, hm, hmm, _, hall⟩
  . exact ⟨none, 0, 0, fun _ => ⟨#[]⟩, rfl, Nat.le_refl _, Nat.zero_le _, fun i hi => absurd hi (Nat.not_lt_zero _), fun h0 => absurd h0 (Nat.lt_irrefl _)⟩
  . simp only [if_true] at hmm
    subst hmm
    refine ⟨some a, len, m, S, rfl, hl, hm, fun i hi => (hall i (by omega)).2, fun h0 => ?_⟩
    obtain ⟨g, q, spot⟩ := a
    have hspot : spot = none := by simpa [Addr.add] using World.cell?_spot (hall 0 (by omega)).1
    subst hspot
    refine ⟨g, q, rfl, ?_, fun i hi => ?_⟩
    . have := block_lt (hall 0 (by omega)).1
      rw [add_at] at this
      exact this
    . have := (hall i (by omega)).1
      rw [add_at] at this
      exact this
set_option maxRecDepth 100000 in
theorem open_tree {H : Type} {enc : TypeId × Value -> H} {W : World} (fuel : Nat) : ∀ {cs : List Value} {x : DataW H × List MemPlace},
    DataW.trod enc Tryz.prog W 0 (fun _ => true) true fuel 25 cs = some x -> ∃ t A, cs = Tr.cs t A /\ Lies W.heap.size W t A := by
  induction fuel using Nat.strongRecOn with
  | _ fuel ih =>
    intro cs x h
    obtain ⟨xs, n, rfl, _, hl, hxl, hf⟩ := DataW.trod_struct Tryz.underlying25 h
    have hc34 : Tryz.prog.cellsOf 25 = 6 := by kernel_rfl
    rw [hc34] at hl
    obtain ⟨c0, c1, c2, c3, c4, c5, rfl⟩ := six_of hl
    have hxl' : xs.length = 6 := hxl
    have hc3 : Tryz.prog.cellsOf 3 = 1 := by kernel_rfl
    have hc4 : Tryz.prog.cellsOf 4 = 1 := by kernel_rfl
    have hc2 : Tryz.prog.cellsOf 2 = 1 := by kernel_rfl
    have hc9 : Tryz.prog.cellsOf 9 = 1 := by kernel_rfl
    have hc32 : Tryz.prog.cellsOf 23 = 1 := by kernel_rfl
    have hc28 : Tryz.prog.cellsOf 22 = 1 := by kernel_rfl
    obtain ⟨y0, e0⟩ := some_of (l := xs) (i := 0) (by omega)
    obtain ⟨y1, e1⟩ := some_of (l := xs) (i := 1) (by omega)
    obtain ⟨y2, e2⟩ := some_of (l := xs) (i := 2) (by omega)
    obtain ⟨y3, e3⟩ := some_of (l := xs) (i := 3) (by omega)
    obtain ⟨y4, e4⟩ := some_of (l := xs) (i := 4) (by omega)
    obtain ⟨y5, e5⟩ := some_of (l := xs) (i := 5) (by omega)
    have f0 : DataW.trod enc Tryz.prog W 0 (fun _ => true) true n 3 [c0] = some y0 := by
      have g : (List.take (Tryz.prog.cellsOf 3) (List.drop 0 [c0, c1, c2, c3, c4, c5])) = [c0] := by rw [hc3]; rfl
      rw [<- g, <- e0]
      exact hf 0 _ rfl
    have f1 : DataW.trod enc Tryz.prog W 0 (fun _ => true) true n 4 [c1] = some y1 := by
      have g : (List.take (Tryz.prog.cellsOf 4) (List.drop 1 [c0, c1, c2, c3, c4, c5])) = [c1] := by rw [hc4]; rfl
      rw [<- g, <- e1]
      exact hf 1 _ rfl
    have f2 : DataW.trod enc Tryz.prog W 0 (fun _ => true) true n 2 [c2] = some y2 := by
      have g : (List.take (Tryz.prog.cellsOf 2) (List.drop 2 [c0, c1, c2, c3, c4, c5])) = [c2] := by rw [hc2]; rfl
      rw [<- g, <- e2]
      exact hf 2 _ rfl
    have f3 : DataW.trod enc Tryz.prog W 0 (fun _ => true) true n 9 [c3] = some y3 := by
      have g : (List.take (Tryz.prog.cellsOf 9) (List.drop 3 [c0, c1, c2, c3, c4, c5])) = [c3] := by rw [hc9]; rfl
      rw [<- g, <- e3]
      exact hf 3 _ rfl
    have f4 : DataW.trod enc Tryz.prog W 0 (fun _ => true) true n 23 [c4] = some y4 := by
      have g : (List.take (Tryz.prog.cellsOf 23) (List.drop 4 [c0, c1, c2, c3, c4, c5])) = [c4] := by rw [hc32]; rfl
      rw [<- g, <- e4]
      exact hf 4 _ rfl
    have f5 : DataW.trod enc Tryz.prog W 0 (fun _ => true) true n 22 [c5] = some y5 := by
      have g : (List.take (Tryz.prog.cellsOf 22) (List.drop 5 [c0, c1, c2, c3, c4, c5])) = [c5] := by rw [hc28]; rfl
      rw [<- g, <- e5]
      exact hf 5 _ rfl
    obtain ⟨k, hk, _, hkw⟩ := DataW.trod_int Tryz.underlying3 f0
    obtain ⟨b, hb, _⟩ := DataW.trod_bool Tryz.underlying4 f1
    obtain ⟨z, hz, _, hzw⟩ := DataW.trod_int Tryz.underlying2 f2
    obtain ⟨s, hs, _, hsw⟩ := DataW.trod_string Tryz.underlying9 f3
    obtain ⟨na, q, nc, g, hn, hnn⟩ := open_names f5
    simp only [List.cons.injEq, and_true] at hk hb hz hs hn
    subst hk hb hz hs hn
    have bk := bounds_i64 hkw
    have bz := bounds_i64 hzw
    rcases DataW.trod_slice Tryz.underlying23 f4 with ⟨hp, _⟩ | ⟨a, len, cap, elems, rest, n', rfl, hp, _, _, hle, hcap, hel, hall, _, _⟩
    . simp only [List.cons.injEq, and_true] at hp
      subst hp
      exact ⟨.mk k b z s 0 (fun _ => .no) q g, ⟨none, 0, na, nc⟩, rfl, .mk (fun _ => ⟨none, 0, none, 0⟩) (by omega) (by omega) hsw ⟨Nat.le_refl _, Nat.zero_le _⟩ (fun h0 => absurd h0 (Nat.lt_irrefl _)) (fun i hi => absurd hi (Nat.not_lt_zero _)) hnn⟩
    . simp only [List.cons.injEq, and_true] at hp
      subst hp
      rw [hc34] at hall
      have each : ∀ i, i < len -> ∃ y : Tr × Ad, W.cells? 0 (a.add (i * 6)) 6 = some (y.1.cs y.2) /\ Lies W.heap.size W y.1 y.2 := by
        intro i hi
        have hi' := hall i hi
        rw [List.getElem?_eq_getElem (by omega)] at hi'
        obtain ⟨cs', h1, h2⟩ := Option.bind_eq_some_iff.1 hi'
        obtain ⟨t, A, rfl, hL⟩ := ih n' (by omega) h2
        exact ⟨(t, A), h1, hL⟩
      haveI : Inhabited (Tr × Ad) := ⟨(.no, ⟨none, 0, none, 0⟩)⟩
      obtain ⟨F, hF⟩ := choose_lt each
      refine ⟨.mk k b z s len (fun i => (F i).1) q g, ⟨some a, cap, na, nc⟩, rfl, .mk (fun i => (F i).2) (by omega) (by omega) hsw ⟨hle, hcap⟩ (fun h0 => ?_) (fun i hi => (hF i hi).2) hnn⟩
      obtain ⟨gb, go, spot⟩ := a
      have hce := fun i hi => World.cells?_some (hF i hi).1
      have hspot : spot = none := by
        have := (hce 0 h0).2.2 0 (by omega)
        simpa [Addr.add] using World.cell?_spot this
      subst hspot
      have hcell : ∀ i, i < len -> ∀ j, j < 6 -> W.cell? ⟨gb, go + i * 6 + j, none⟩ = ((F i).1.cs (F i).2)[j]? := fun i hi j hj => by
        have := (hce i hi).2.2 j hj
        rw [add_at, add_at] at this
        exact this
      refine ⟨gb, go, rfl, ?_, fun i hi => ⟨hcell i hi 0 (by omega), hcell i hi 1 (by omega), hcell i hi 2 (by omega), hcell i hi 3 (by omega), hcell i hi 4 (by omega), hcell i hi 5 (by omega)⟩⟩
      exact block_lt ((hcell 0 h0 0 (by omega)).trans rfl)
set_option maxRecDepth 100000 in
theorem open_value {H : Type} {enc : TypeId × Value -> H} {W : World} {r : Reach} {b0 : Nat} {v : Value} {d : DataW H} {p : List MemPlace}
    (hv : Value.okWide Tryz.prog W r b0 25 v) (h : DataW.Trod enc Tryz.prog W 0 (fun _ => true) true 25 v d p) : ∃ t A, v = Tr.val t A /\ Lies W.heap.size W t A := by
  obtain ⟨fuel, hf⟩ := h
  obtain ⟨t, A, hc, hL⟩ := open_tree fuel hf
  refine ⟨t, A, ?_, hL⟩
  simp only [Value.okWide, Tryz.underlying25] at hv
  obtain ⟨cs, rfl, _, _⟩ := hv
  have hc' : cs.toList = t.cs A := hc
  show Value.agg cs = Value.agg (t.cs A).toArray
  rw [<- hc']
end Go.Proofs.YtfemippjaokcmaaGreatDoor.V
namespace Go.Proofs.YtfemippjaokcmaaGreatDoor
open Go.ChangeShapes Go.WideShapes Go.ChangeAt Go.WideMaps Go.WideElems Go.RowKit
theorem own : ownKnob Tryz.prog.godebug = none := by kernel_rfl
abbrev laid7 : List (String × DataW Unit) := [("math/bits.deBruijn32tab", Rows.laid_math_bits_deBruijn32tab), ("math/bits.deBruijn64tab", Rows.laid_math_bits_deBruijn64tab), ("internal/strconv.uint64pow10", Rows.laid_internal_strconv_uint64pow10), ("unicode/utf8.acceptRanges", Rows.laid_unicode_utf8_acceptRanges), ("strconv.ErrRange", Rows.laid_strconv_ErrRange), ("strconv.ErrSyntax", Rows.laid_strconv_ErrSyntax), ("unicode/utf8.first", Rows.laid_unicode_utf8_first)]
theorem gErr : Tryz.prog.globalNamed "strconv.ErrRange" = some 2 := by kernel_rfl
theorem tErr : (Tryz.prog.globals[2]?).map (·.type) = some 139 := by kernel_rfl
theorem gSyn : Tryz.prog.globalNamed "strconv.ErrSyntax" = some 1 := by kernel_rfl
theorem tSyn : (Tryz.prog.globals[1]?).map (·.type) = some 139 := by kernel_rfl
theorem star : "*" ++ "errors.errorString" = "*errors.errorString" := by decide
theorem row212 (u : TypeId) (h : Tryz.prog.typeName? 3 u = some "*errors.errorString") : u = 212 :=
  typeName_ptr_named (nm := "errors.errorString") (by rw [star]; kernel_rfl) (by kernel_rfl) (by decide) u (by rw [star]; exact h)
theorem cells214 : Tryz.prog.cellsOf 214 = 1 := by kernel_rfl
theorem cells9 : Tryz.prog.cellsOf 9 = 1 := by kernel_rfl
theorem of_laid {W : World} (h : laidMetH Tryz.prog laid7 W) : Ev W := by
  rw [MakeChecks.laidMetH_plain _ _ _ (by kernel_rfl)] at h
  have h3 := h.tail.tail.tail.tail
  have h4 := h3.tail
  obtain ⟨a, s, hv, _⟩ := laid_sentinel h3 gErr tErr Tryz.underlying139 row212 Tryz.underlying212 Tryz.underlying214 rfl rfl Tryz.underlying9 cells214 cells9
  obtain ⟨a', s', hv', _⟩ := laid_sentinel h4 gSyn tSyn Tryz.underlying139 row212 Tryz.underlying212 Tryz.underlying214 rfl rfl Tryz.underlying9 cells214 cells9
  have h0 := World.var?_cell gErr hv 0
  have h1 := World.var?_cell gSyn hv' 0
  exact ⟨⟨212, _, by simpa using h1⟩, ⟨212, _, by simpa using h0⟩⟩
end Go.Proofs.YtfemippjaokcmaaGreatDoor
namespace Go.Proofs.YtfemippjaokcmaaGreatDoor
open Go.RowKit
theorem wrap_shaped {H : Type} {enc : TypeId × Value -> H} {a : Assume} {C : Checked} {os : Os} {f : FuncId} {fn : Func} {s : ChangeSpec} {conds : List PathCond} {apart fresh handsOn again : Bool} {X : World -> Array Value -> Prop}
    (hX : ∀ (w w' : World) (args : Array Value), w.heap = w'.heap -> X w args -> X w' args)
    (own : ownKnob C.prog.godebug = none) (started : os.Started) (noInit : C.prog.inits.idxOf? f = none) (hfn : C.prog.funcs[f]? = some fn)
    (witness : ∃ (w : World) (tape : Tape) (i : Input), w.os = os /\ (w.forCall tape i).Shaped C.prog /\ i.vars = [] /\ Input.okWide C.prog (w.forCall tape i) .any w.heap.size f i /\
      ((s.pre enc C.prog fn conds apart (w.forCall tape i).memory i.args /\ X (w.forCall tape i).memory i.args) /\ sizedMet enc C.prog fn (OpenSpec.ofChange s) apart (w.forCall tape i).memory i.args) /\ a.holds C.prog (lone (Frame.enter C.prog f i.args .normal) [] (w.forCall tape i)))
    (contract : ∀ (W : World) (base : Nat) (args : Array Value) (ds gs : List (DataW H)) (before : List MemPlace),
      (∀ (j : Nat) t v, fn.params[j]? = some t -> args[j]? = some v -> Value.okWide C.prog W .any base t v) ->
      DataW.Whole enc C.prog fn.params.toList s.vars apart W args.toList ds gs before -> W.ShapedOpen C.prog -> X W args ->
      Calls C.prog f args W fun e W' => ∃ v, e = .returned v /\ s.post enc C.prog fn apart fresh handsOn again W args v W') :
    ReturnsInHanded a C os f .any (fun w args => (s.pre enc C.prog fn conds apart w args /\ X w args) /\ sizedMet enc C.prog fn (OpenSpec.ofChange s) apart w args) (s.post enc C.prog fn apart fresh handsOn again) := by
  refine returnsInHanded_of_calls own started noInit witness ?_
  intro w tape i _ hsh _ hok hpre _
  obtain ⟨_, _, _, fn', hfn', _, _, _, _, hval⟩ := hok
  have e : fn' = fn := Option.some.inj (hfn'.symm.trans hfn)
  subst e
  obtain ⟨⟨⟨ds, gs, before, hw, _⟩, hx⟩, _⟩ := hpre
  have hw' := DataW.Whole.of_heap (w' := w.forCall tape i) (by rfl) hw
  refine (contract (w.forCall tape i) w.heap.size i.args ds gs before hval hw' hsh (hX _ _ _ (by rfl) hx)).mono fun e W' ⟨v, he, hp⟩ => ?_
  subst he
  exact ChangeSpec.post_blind hp
theorem gm_of {W : World} (h : W.ShapedOpen Tryz.prog) : V.Gm W :=
  cell_of_shapedOpen_int (P := Tryz.prog) (g := 0) (t := 3) (zero := #[.int .i64 0]) h (of_decide_eq_true (by kernel_rfl)) (by kernel_rfl) rfl (by kernel_rfl) (by kernel_rfl) Tryz.underlying3
end Go.Proofs.YtfemippjaokcmaaGreatDoor
