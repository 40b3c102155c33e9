/- The order of texts and of numbers (strings.Compare, cmp.Compare). The order of the parts of two values (compareParts). The order of values (Compare, Same). cmp.Compare of numbers; the order of parts (compareParts). The order of values (Compare). -/
import Derived.Test.YtfemippjaokcmaaGreatDoorXab
import Derived.Test.YtfemippjaokcmaaGreatDoorXaa
import Derived.Lib.Bytealg
import Derived.Laws.Externs
import Derived.BigGuardPart
import Derived.Deep.RegionHeld3
namespace Go.Proofs.YtfemippjaokcmaaGreatDoor.V
open Go.RowKit
def cmpI (x y : Int) : Int := if x < y then -1 else if y < x then 1 else 0
def cmpB (a b : ByteArray) : Int := Lib.compareBytes a.data.toList b.data.toList
set_option maxRecDepth 100000 in
set_option maxHeartbeats 1000000 in
theorem scmp0 (a b : ByteArray) (w : World) : Calls Tryz.prog 75 #[.string a, .string b] w fun e w' => e = .returned (.int .i64 (cmpB a b)) /\ w' = w := by
  have h : (callFunc 107 #[.string a, .string b]).run Tryz.prog w = .ok (.value (.int .i64 (cmpB a b))) w := by
    rw [run_callFunc_extern Tryz.func107 (by kernel_rfl) (by kernel_rfl) (by kernel_rfl) (e := Extern.BytealgCompare.compare) (by kernel_rfl), Lib.run_compareString]
    rfl
  go_enter Tryz.func75, Tryz.ntmps75
  go_wp2
  go_ret
  exact ⟨rfl, rfl⟩
set_option maxRecDepth 100000 in
set_option maxHeartbeats 1000000 in
theorem scmp (a b : ByteArray) (w : World) : Calls Tryz.prog 49 #[.string a, .string b] w fun e w' => e = .returned (.int .i64 (cmpB a b)) /\ w' = w := by
  go_enter Tryz.func49, Tryz.ntmps49
  go_wp2_with fail
  refine (scmp0 a b _).mono ?_
  rintro e w ⟨rfl, rfl⟩
  go_wp2
  go_ret
  exact ⟨rfl, rfl⟩
def cmpF (q uq : Nat) (g ug : Nat -> ByteArray) (C : Nat -> Int) (i : Nat) : Int := if i < min q uq /\ (g i).data.toList ≠ (ug i).data.toList then cmpB (g i) (ug i) else C i
def cmpT : Tr -> Tr -> Int
  | .no, _ => 0
  | .mk k b n s m f q g, u =>
    if k = u.k then
      (if k = 1 then cmpB (boolB b) (boolB u.b) else if k = 2 then cmpI n u.n else if k = 3 ∨ k = 4 then cmpB s u.s
       else if k = 5 ∨ k = 6 then (if fe (min m u.m) (cmpF q u.q g u.g (fun i => cmpT (f i) (u.f i))) = 0 then cmpI m u.m else fe (min m u.m) (cmpF q u.q g u.g (fun i => cmpT (f i) (u.f i)))) else 0)
    else cmpI k u.k
end Go.Proofs.YtfemippjaokcmaaGreatDoor.V
namespace Go.Proofs.YtfemippjaokcmaaGreatDoor.V
open Go.RowKit
set_option maxRecDepth 100000 in
theorem cmpL_zero : ∀ {a b : List UInt8}, Lib.compareBytes a b = 0 -> a = b
  | [], [], _ => rfl
  | [], _ :: _, h => by cases h
  | _ :: _, [], h => by cases h
  | x :: a, y :: b, h => by
    rw [Lib.compareBytes] at h
    split at h
    . cases h
    . split at h
      . cases h
      . rename_i h1 h2
        have hxy : x = y := by
          have h3 : ¬ x.toNat < y.toNat := h1
          have h4 : ¬ y.toNat < x.toNat := h2
          exact UInt8.toNat_inj.mp (by omega)
        rw [hxy, cmpL_zero h]
set_option maxRecDepth 100000 in
theorem lies_drewN {B : Nat} {w : World} {t : Tr} {x : Ad} (h : Lies B w t x) (n : Nat) : Lies B (w.drewN n) t x := LiesS.kept (w := w) (w' := w.drewN n) (fun _ _ => rfl) h
set_option maxRecDepth 100000 in
theorem cmpB_zero {a b : ByteArray} (h : cmpB a b = 0) : a.data.toList = b.data.toList := cmpL_zero h
end Go.Proofs.YtfemippjaokcmaaGreatDoor.V
namespace Go.Proofs.YtfemippjaokcmaaGreatDoor.V
open Go.RowKit
end Go.Proofs.YtfemippjaokcmaaGreatDoor.V
namespace Go.Proofs.YtfemippjaokcmaaGreatDoor.V
open Go.RowKit
set_option maxHeartbeats 1000000 in
theorem icmp (x y : Int) (w : World) : Calls Tryz.prog 48 #[.int .i64 x, .int .i64 y] w fun e w' => e = .returned (.int .i64 (cmpI x y)) /\ w' = w := by
  unfold cmpI
  by_cases h : x < y
  . rw [if_pos h]
    go_enter Tryz.func48, Tryz.ntmps48
    go_wp2
    go_ret
    exact ⟨rfl, rfl⟩
  . rw [if_neg h]
    by_cases h2 : y < x
    . rw [if_pos h2]
      go_enter Tryz.func48, Tryz.ntmps48
      go_wp2
      go_ret
      exact ⟨rfl, rfl⟩
    . obtain rfl : x = y := by omega
      rw [if_neg h2]
      go_enter Tryz.func48, Tryz.ntmps48
      go_wp2
      go_ret
      exact ⟨rfl, rfl⟩
set_option maxHeartbeats 1000000 in
theorem lcmp (x y : Int) (w : World) : Calls Tryz.prog 51 #[.int .i64 x, .int .i64 y] w fun e w' => e = .returned (.int .i64 (cmpI x y)) /\ w' = w := by
  unfold cmpI
  by_cases h : x < y
  . rw [if_pos h]
    go_enter Tryz.func51, Tryz.ntmps51
    go_wp2
    go_ret
    exact ⟨rfl, rfl⟩
  . rw [if_neg h]
    by_cases h2 : y < x
    . rw [if_pos h2]
      go_enter Tryz.func51, Tryz.ntmps51
      go_wp2
      go_ret
      exact ⟨rfl, rfl⟩
    . obtain rfl : x = y := by omega
      rw [if_neg h2]
      go_enter Tryz.func51, Tryz.ntmps51
      go_wp2
      go_ret
      exact ⟨rfl, rfl⟩
def CmpC (t u : Tr) : Prop := ∀ (B : Nat) (w : World) (x y : Ad), Lies B w t x -> Lies B w u y -> B <= w.heap.size ->
  Calls Tryz.prog 21 #[t.val x, u.val y] w fun e w' => e = .returned (.int .i64 (cmpT t u)) /\ Below w.heap.size w w'
set_option maxRecDepth 100000 in
set_option maxHeartbeats 4000000 in
theorem cparts_a {B : Nat} {w : World} {k : Int} {b : Bool} {n : Int} {s : ByteArray} {m : Nat} {f : Nat -> Tr} {q : Nat} {g : Nat -> ByteArray} {x : Ad} {k' : Int} {b' : Bool} {n' : Int} {s' : ByteArray} {m' : Nat} {f' : Nat -> Tr} {q' : Nat} {g' : Nat -> ByteArray} {y : Ad}
    (hL : Lies B w (.mk k b n s m f q g) x) (hL' : Lies B w (.mk k' b' n' s' m' f' q' g') y) (hB : B <= w.heap.size) (hM : m <= m') (ih : ∀ i, CmpC (f i) (f' i)) :
    Calls Tryz.prog 52 #[(Tr.mk k b n s m f q g).val x, (Tr.mk k' b' n' s' m' f' q' g').val y] w fun e w' => e = .returned (.int .i64 (if fe (min m m') (cmpF q q' g g' (fun i => cmpT (f i) (f' i))) = 0 then cmpI m m' else fe (min m m') (cmpF q q' g g' (fun i => cmpT (f i) (f' i))))) /\ Below w.heap.size w w' := by
  obtain ⟨A, hp, hr⟩ := hL.part
  obtain ⟨A', hp', hr'⟩ := hL'.part
  have hN : Names B w q g x.na x.nc := hL.lims.2.2.2.2
  have hN' : Names B w q' g' y.na y.nc := hL'.lims.2.2.2.2
  have hm63 : m <= x.pc /\ x.pc <= maxLen := hL.lims.2.2.2.1
  have hm63' : m' <= y.pc /\ y.pc <= maxLen := hL'.lims.2.2.2.1
  obtain ⟨pa, pc, na, nc⟩ := x
  obtain ⟨pa', pc', na', nc'⟩ := y
  have hV : (Tr.mk k b n s m f q g).val ⟨pa, pc, na, nc⟩ = .agg #[.int .i64 k, .bool b, .int .i64 n, .string s, .slice pa m pc, .slice na q nc] := rfl
  have hV' : (Tr.mk k' b' n' s' m' f' q' g').val ⟨pa', pc', na', nc'⟩ = .agg #[.int .i64 k', .bool b', .int .i64 n', .string s', .slice pa' m' pc', .slice na' q' nc'] := rfl
  rw [hV, hV']
  clear hV hV'
  obtain ⟨F, hF⟩ : ∃ F, cmpF q q' g g' (fun i => cmpT (f i) (f' i)) = F := ⟨_, rfl⟩
  have HF : Hid (cmpF q q' g g' (fun i => cmpT (f i) (f' i)) = F) := hF
  rw [hF]
  clear hF
  obtain ⟨R, hR⟩ : ∃ R, (if fe (min m m') F = 0 then cmpI m m' else fe (min m m') F) = R := ⟨_, rfl⟩
  have HRR : Hid ((if fe (min m m') F = 0 then cmpI m m' else fe (min m m') F) = R) := hR
  rw [hR]
  clear hR
  have HI : Hid (∀ i, CmpC (f i) (f' i)) := ih
  have HP : Hid (0 < m -> ∃ b o, pa = some ⟨b, o, none⟩ /\ b < B /\ ∀ i, i < m -> At6 w b (o + i * 6) (f i) (A i)) := hp
  have HP' : Hid (0 < m' -> ∃ b o, pa' = some ⟨b, o, none⟩ /\ b < B /\ ∀ i, i < m' -> At6 w b (o + i * 6) (f' i) (A' i)) := hp'
  have HR : Hid (∀ i, i < m -> Lies B w (f i) (A i)) := hr
  have HR' : Hid (∀ i, i < m' -> Lies B w (f' i) (A' i)) := hr'
  have HN : Hid (Names B w q g na nc) := hN
  have HN' : Hid (Names B w q' g' na' nc') := hN'
  have hmm : (m : Int) <= 9223372036854775807 := by unfold maxLen at hm63; omega
  have hmm' : (m' : Int) <= 9223372036854775807 := by unfold maxLen at hm63'; omega
  clear ih hp hp' hr hr' hN hN' hm63 hm63'
  have hM' : (m : Int) <= (m' : Int) := by omega
  have HMIN : Hid (min m m' = m) := by show _ = _; omega
  go_enter Tryz.func52, Tryz.ntmps52
  go_wp2_with fail
  have r2 : ((w.alloc (.cells #[.int .i64 k, .bool b, .int .i64 n, .string s, .slice pa m pc, .slice na q nc] 25)).alloc (.cells #[.int .i64 k', .bool b', .int .i64 n', .string s', .slice pa' m' pc', .slice na' q' nc'] 25)).heap[w.heap.size]? = some (.cells #[.int .i64 k, .bool b, .int .i64 n, .string s, .slice pa m pc, .slice na q nc] 25 (0, 0)) := by
    rw [Below.heap_alloc _ _ _ (by simp)]; exact heap_alloc_new _ _
  have r3 : ((w.alloc (.cells #[.int .i64 k, .bool b, .int .i64 n, .string s, .slice pa m pc, .slice na q nc] 25)).alloc (.cells #[.int .i64 k', .bool b', .int .i64 n', .string s', .slice pa' m' pc', .slice na' q' nc'] 25)).heap[w.heap.size + 1]? = some (.cells #[.int .i64 k', .bool b', .int .i64 n', .string s', .slice pa' m' pc', .slice na' q' nc'] 25 (0, 0)) := by
    have := heap_alloc_new (w.alloc (.cells #[.int .i64 k, .bool b, .int .i64 n, .string s, .slice pa m pc, .slice na q nc] 25)) (.cells #[.int .i64 k', .bool b', .int .i64 n', .string s', .slice pa' m' pc', .slice na' q' nc'] 25); simpa using this
  have hbW : Below w.heap.size w ((w.alloc (.cells #[.int .i64 k, .bool b, .int .i64 n, .string s, .slice pa m pc, .slice na q nc] 25)).alloc (.cells #[.int .i64 k', .bool b', .int .i64 n', .string s', .slice pa' m' pc', .slice na' q' nc'] 25)) := ((Below.refl _ w).alloc (Nat.le_refl _) _).alloc (by simp) _
  obtain ⟨W, hW⟩ : ∃ W, (w.alloc (.cells #[.int .i64 k, .bool b, .int .i64 n, .string s, .slice pa m pc, .slice na q nc] 25)).alloc (.cells #[.int .i64 k', .bool b', .int .i64 n', .string s', .slice pa' m' pc', .slice na' q' nc'] 25) = W := ⟨_, rfl⟩
  rw [hW] at r2 r3 hbW ⊢
  clear hW
  have hl3 := lt_of_row r3
  go_loopw [14] (fun c14 wr => ∃ i : Nat, i <= m /\ c14 = .int .i64 (i : Int) /\ fe i F = 0 /\ Below W.heap.size W wr) (fun c14 _ => m - (intOf c14).toNat)
  case atStart => exact ⟨0, by omega, rfl, rfl, Below.refl _ _⟩
  case round =>
    obtain ⟨i, hi, rfl, hfe, hbr⟩ := hrel
    have HE : Hid (fe i F = 0) := hfe
    clear hfe
    have hr2 := (hbr.block _ (by omega)).trans r2
    have hr3 := (hbr.block _ hl3).trans r3
    have a4 := cell_of_row wr _ 4 _ _ _ hr2
    have a5 := cell_of_row wr _ 5 _ _ _ hr2
    have b4 := cell_of_row wr _ 4 _ _ _ hr3
    have b5 := cell_of_row wr _ 5 _ _ _ hr3
    have hbw : Below B w wr := (hbW.mono hB).trans (hbr.mono (by omega))
    have hbf : Below w.heap.size w wr := hbW.trans (hbr.mono (by omega))
    by_cases him : i < m
    . have him' : (i : Int) < (m : Int) := by omega
      have him1 : (i : Int) < (m : Int) := by omega
      have him2 : (i : Int) < (m' : Int) := by omega
      obtain ⟨pb, po, rfl, hpb, hat⟩ := HP.out (by omega)
      obtain ⟨pb', po', rfl, hpb', hat'⟩ := HP'.out (by omega)
      have h6a := (hat i (by omega)).later hpb hbw
      have h6b := (hat' i (by omega)).later hpb' hbw
      have d0 := h6a.c0
      have d1 := h6a.c1
      have d2 := h6a.c2
      have d3 := h6a.c3
      have d4 := h6a.c4
      have d5 := h6a.c5
      have e0 := h6b.c0
      have e1 := h6b.c1
      have e2 := h6b.c2
      have e3 := h6b.c3
      have e4 := h6b.c4
      have e5 := h6b.c5
      clear hat hat' h6a h6b
      have hLi := (HR.out i (by omega)).later hbw
      have hLi' := (HR'.out i (by omega)).later hbw
      have hszB : B <= wr.heap.size := by have := hbw.size; omega
      have hl2 := lt_of_row hr2
      have hl1 := lt_of_row hr3
      have hlp := block_lt d0
      have hlp' := block_lt e0
      by_cases hqq : q' < q
      ·
        have hqq' : (q' : Int) < (q : Int) := by omega
        by_cases hin : i < q'
        . have hin' : (i : Int) < (q' : Int) := by omega
          have hin1 : (i : Int) < (q : Int) := by omega
          have hin2 : (i : Int) < (q' : Int) := by omega
          have HNo := HN.out
          have HNo' := HN'.out
          obtain ⟨nb, no, rfl, hnb, hng⟩ := HNo.2.2.2 (by omega)
          obtain ⟨nb', no', rfl, hnb', hng'⟩ := HNo'.2.2.2 (by omega)
          have g1 := cell_later (hng i (by omega)) hnb hbw
          have g2 := cell_later (hng' i (by omega)) hnb' hbw
          clear hng hng' HNo HNo'
          cases hge : ((g i).toList == (g' i).toList) with
          | false =>
            go_wp2_with fail
            go_quiet (fail)
            go_wp2_with fail
            go_region_held3 (fun w' => w'.cell? ⟨w.heap.size, 5, none⟩ = some (.slice (some ⟨nb, no, none⟩) q nc) /\ w'.cell? ⟨nb, no + i, none⟩ = some (.string (g i)) /\ w'.cell? ⟨w.heap.size + 1, 5, none⟩ = some (.slice (some ⟨nb', no', none⟩) q' nc') /\ w'.cell? ⟨nb', no' + i, none⟩ = some (.string (g' i))) (go_keep) (first | (go_at_call 49; refine (scmp _ _ _).mono ?_; rintro e w3 ⟨rfl, rfl⟩))
            go_wp2
            go_ret
            have hne : (g i).data.toList ≠ (g' i).data.toList := fun h => by rw [Lib.toList_data, Lib.toList_data, h] at hge; simp at hge
            have HY : F i = cmpB (g i) (g' i) := by
              rw [<- HF.out]
              exact if_pos ⟨by omega, hne⟩
            have hy0 : cmpB (g i) (g' i) ≠ 0 := fun h => hne (cmpB_zero h)
            have hfi := fe_at m him HE.out (by rw [HY]; exact hy0)
            rw [<- HRR.out, HMIN.out, hfi, HY, if_neg hy0]
            exact ⟨rfl, ⟨hbf.os, hbf.tape, hbf.output, hbf.size, hbf.block⟩⟩
          | true =>
            have heq : (g i).data.toList = (g' i).data.toList := by rw [<- Lib.toList_data, <- Lib.toList_data]; simpa using hge
            have HQ : Hid ((g i).data.toList = (g' i).data.toList) := heq
            clear heq
            go_wp2_with fail
            go_quiet (fail)
            go_wp2_with fail
            go_region_held3 (fun w' => w'.cell? ⟨w.heap.size, 4, none⟩ = some (.slice (some ⟨pb, po, none⟩) m pc) /\ w'.cell? ⟨pb, po + i * 6, none⟩ = some (.int .i64 (f i).k) /\ w'.cell? ⟨pb, po + i * 6 + 1, none⟩ = some (.bool (f i).b) /\ w'.cell? ⟨pb, po + i * 6 + 2, none⟩ = some (.int .i64 (f i).n) /\ w'.cell? ⟨pb, po + i * 6 + 3, none⟩ = some (.string (f i).s) /\ w'.cell? ⟨pb, po + i * 6 + 4, none⟩ = some (.slice (A i).pa (f i).m (A i).pc) /\ w'.cell? ⟨pb, po + i * 6 + 5, none⟩ = some (.slice (A i).na (f i).q (A i).nc) /\ w'.cell? ⟨w.heap.size + 1, 4, none⟩ = some (.slice (some ⟨pb', po', none⟩) m' pc') /\ w'.cell? ⟨pb', po' + i * 6, none⟩ = some (.int .i64 (f' i).k) /\ w'.cell? ⟨pb', po' + i * 6 + 1, none⟩ = some (.bool (f' i).b) /\ w'.cell? ⟨pb', po' + i * 6 + 2, none⟩ = some (.int .i64 (f' i).n) /\ w'.cell? ⟨pb', po' + i * 6 + 3, none⟩ = some (.string (f' i).s) /\ w'.cell? ⟨pb', po' + i * 6 + 4, none⟩ = some (.slice (A' i).pa (f' i).m (A' i).pc) /\ w'.cell? ⟨pb', po' + i * 6 + 5, none⟩ = some (.slice (A' i).na (f' i).q (A' i).nc)) (first | go_keep | exact ⟨cell_kept a4 (hbk _ hl2), cell_kept d0 (hbk _ hlp), cell_kept d1 (hbk _ hlp), cell_kept d2 (hbk _ hlp), cell_kept d3 (hbk _ hlp), cell_kept d4 (hbk _ hlp), cell_kept d5 (hbk _ hlp), cell_kept b4 (hbk _ hl1), cell_kept e0 (hbk _ hlp'), cell_kept e1 (hbk _ hlp'), cell_kept e2 (hbk _ hlp'), cell_kept e3 (hbk _ hlp'), cell_kept e4 (hbk _ hlp'), cell_kept e5 (hbk _ hlp')⟩) (first | (go_at_call 21; refine (HI.out i B _ (A i) (A' i) (lies_drewN hLi _) (lies_drewN hLi' _) (by exact hszB)).mono ?_; rintro e w3 ⟨rfl, hb3⟩; have hbk : ∀ k, k < wr.heap.size -> w3.heap[k]? = wr.heap[k]? := hb3.block))
            all_goals
              have hb3' : Below wr.heap.size wr w3 := ⟨hb3.os, hb3.tape, hb3.output, hb3.size, hb3.block⟩
              obtain ⟨y, hy⟩ : ∃ y, cmpT (f i) (f' i) = y := ⟨_, rfl⟩
              rw [hy]
              have HY : Hid (F i = y) := by
                show _ = _
                rw [<- HF.out, <- hy]
                exact if_neg (fun h => h.2 HQ.out)
              clear hy hb3
              by_cases hy0 : y = 0
              . subst hy0
                go_wp2
                go_roundw
                case rel => exact ⟨i + 1, by omega, by go_num, fe_step HE.out HY.out, hbr.trans (hb3'.mono hbr.size)⟩
                case measure => simp [intOf]; omega
              . have hy1 : (y != 0) = true := by simpa using hy0
                go_wp2
                go_ret
                have hfi := fe_at m him HE.out (by rw [HY.out]; exact hy0)
                rw [<- HRR.out, HMIN.out, hfi, HY.out, if_neg hy0]
                exact ⟨rfl, hbf.trans (hb3'.mono hbf.size)⟩
        . have hin' : decide ((i : Int) < (q' : Int)) = false := by simp; omega
          go_wp2_with fail
          go_quiet (fail)
          go_wp2_with fail
          go_region_held3 (fun w' => w'.cell? ⟨w.heap.size, 4, none⟩ = some (.slice (some ⟨pb, po, none⟩) m pc) /\ w'.cell? ⟨pb, po + i * 6, none⟩ = some (.int .i64 (f i).k) /\ w'.cell? ⟨pb, po + i * 6 + 1, none⟩ = some (.bool (f i).b) /\ w'.cell? ⟨pb, po + i * 6 + 2, none⟩ = some (.int .i64 (f i).n) /\ w'.cell? ⟨pb, po + i * 6 + 3, none⟩ = some (.string (f i).s) /\ w'.cell? ⟨pb, po + i * 6 + 4, none⟩ = some (.slice (A i).pa (f i).m (A i).pc) /\ w'.cell? ⟨pb, po + i * 6 + 5, none⟩ = some (.slice (A i).na (f i).q (A i).nc) /\ w'.cell? ⟨w.heap.size + 1, 4, none⟩ = some (.slice (some ⟨pb', po', none⟩) m' pc') /\ w'.cell? ⟨pb', po' + i * 6, none⟩ = some (.int .i64 (f' i).k) /\ w'.cell? ⟨pb', po' + i * 6 + 1, none⟩ = some (.bool (f' i).b) /\ w'.cell? ⟨pb', po' + i * 6 + 2, none⟩ = some (.int .i64 (f' i).n) /\ w'.cell? ⟨pb', po' + i * 6 + 3, none⟩ = some (.string (f' i).s) /\ w'.cell? ⟨pb', po' + i * 6 + 4, none⟩ = some (.slice (A' i).pa (f' i).m (A' i).pc) /\ w'.cell? ⟨pb', po' + i * 6 + 5, none⟩ = some (.slice (A' i).na (f' i).q (A' i).nc)) (first | go_keep | exact ⟨cell_kept a4 (hbk _ hl2), cell_kept d0 (hbk _ hlp), cell_kept d1 (hbk _ hlp), cell_kept d2 (hbk _ hlp), cell_kept d3 (hbk _ hlp), cell_kept d4 (hbk _ hlp), cell_kept d5 (hbk _ hlp), cell_kept b4 (hbk _ hl1), cell_kept e0 (hbk _ hlp'), cell_kept e1 (hbk _ hlp'), cell_kept e2 (hbk _ hlp'), cell_kept e3 (hbk _ hlp'), cell_kept e4 (hbk _ hlp'), cell_kept e5 (hbk _ hlp')⟩) (first | (go_at_call 21; refine (HI.out i B _ (A i) (A' i) (lies_drewN hLi _) (lies_drewN hLi' _) (by exact hszB)).mono ?_; rintro e w3 ⟨rfl, hb3⟩; have hbk : ∀ k, k < wr.heap.size -> w3.heap[k]? = wr.heap[k]? := hb3.block))
          all_goals
            have hb3' : Below wr.heap.size wr w3 := ⟨hb3.os, hb3.tape, hb3.output, hb3.size, hb3.block⟩
            obtain ⟨y, hy⟩ : ∃ y, cmpT (f i) (f' i) = y := ⟨_, rfl⟩
            rw [hy]
            have HY : Hid (F i = y) := by
              show _ = _
              rw [<- HF.out, <- hy]
              exact if_neg (fun h => hin (by omega))
            clear hy hb3
            by_cases hy0 : y = 0
            . subst hy0
              go_wp2
              go_roundw
              case rel => exact ⟨i + 1, by omega, by go_num, fe_step HE.out HY.out, hbr.trans (hb3'.mono hbr.size)⟩
              case measure => simp [intOf]; omega
            . have hy1 : (y != 0) = true := by simpa using hy0
              go_wp2
              go_ret
              have hfi := fe_at m him HE.out (by rw [HY.out]; exact hy0)
              rw [<- HRR.out, HMIN.out, hfi, HY.out, if_neg hy0]
              exact ⟨rfl, hbf.trans (hb3'.mono hbf.size)⟩
      ·
        have hqq' : (q : Int) <= (q' : Int) := by omega
        by_cases hin : i < q
        . have hin' : (i : Int) < (q : Int) := by omega
          have hin1 : (i : Int) < (q : Int) := by omega
          have hin2 : (i : Int) < (q' : Int) := by omega
          have HNo := HN.out
          have HNo' := HN'.out
          obtain ⟨nb, no, rfl, hnb, hng⟩ := HNo.2.2.2 (by omega)
          obtain ⟨nb', no', rfl, hnb', hng'⟩ := HNo'.2.2.2 (by omega)
          have g1 := cell_later (hng i (by omega)) hnb hbw
          have g2 := cell_later (hng' i (by omega)) hnb' hbw
          clear hng hng' HNo HNo'
          cases hge : ((g i).toList == (g' i).toList) with
          | false =>
            go_wp2_with fail
            go_quiet (fail)
            go_wp2_with fail
            go_region_held3 (fun w' => w'.cell? ⟨w.heap.size, 5, none⟩ = some (.slice (some ⟨nb, no, none⟩) q nc) /\ w'.cell? ⟨nb, no + i, none⟩ = some (.string (g i)) /\ w'.cell? ⟨w.heap.size + 1, 5, none⟩ = some (.slice (some ⟨nb', no', none⟩) q' nc') /\ w'.cell? ⟨nb', no' + i, none⟩ = some (.string (g' i))) (go_keep) (first | (go_at_call 49; refine (scmp _ _ _).mono ?_; rintro e w3 ⟨rfl, rfl⟩))
            go_wp2
            go_ret
            have hne : (g i).data.toList ≠ (g' i).data.toList := fun h => by rw [Lib.toList_data, Lib.toList_data, h] at hge; simp at hge
            have HY : F i = cmpB (g i) (g' i) := by
              rw [<- HF.out]
              exact if_pos ⟨by omega, hne⟩
            have hy0 : cmpB (g i) (g' i) ≠ 0 := fun h => hne (cmpB_zero h)
            have hfi := fe_at m him HE.out (by rw [HY]; exact hy0)
            rw [<- HRR.out, HMIN.out, hfi, HY, if_neg hy0]
            exact ⟨rfl, ⟨hbf.os, hbf.tape, hbf.output, hbf.size, hbf.block⟩⟩
          | true =>
            have heq : (g i).data.toList = (g' i).data.toList := by rw [<- Lib.toList_data, <- Lib.toList_data]; simpa using hge
            have HQ : Hid ((g i).data.toList = (g' i).data.toList) := heq
            clear heq
            go_wp2_with fail
            go_quiet (fail)
            go_wp2_with fail
            go_region_held3 (fun w' => w'.cell? ⟨w.heap.size, 4, none⟩ = some (.slice (some ⟨pb, po, none⟩) m pc) /\ w'.cell? ⟨pb, po + i * 6, none⟩ = some (.int .i64 (f i).k) /\ w'.cell? ⟨pb, po + i * 6 + 1, none⟩ = some (.bool (f i).b) /\ w'.cell? ⟨pb, po + i * 6 + 2, none⟩ = some (.int .i64 (f i).n) /\ w'.cell? ⟨pb, po + i * 6 + 3, none⟩ = some (.string (f i).s) /\ w'.cell? ⟨pb, po + i * 6 + 4, none⟩ = some (.slice (A i).pa (f i).m (A i).pc) /\ w'.cell? ⟨pb, po + i * 6 + 5, none⟩ = some (.slice (A i).na (f i).q (A i).nc) /\ w'.cell? ⟨w.heap.size + 1, 4, none⟩ = some (.slice (some ⟨pb', po', none⟩) m' pc') /\ w'.cell? ⟨pb', po' + i * 6, none⟩ = some (.int .i64 (f' i).k) /\ w'.cell? ⟨pb', po' + i * 6 + 1, none⟩ = some (.bool (f' i).b) /\ w'.cell? ⟨pb', po' + i * 6 + 2, none⟩ = some (.int .i64 (f' i).n) /\ w'.cell? ⟨pb', po' + i * 6 + 3, none⟩ = some (.string (f' i).s) /\ w'.cell? ⟨pb', po' + i * 6 + 4, none⟩ = some (.slice (A' i).pa (f' i).m (A' i).pc) /\ w'.cell? ⟨pb', po' + i * 6 + 5, none⟩ = some (.slice (A' i).na (f' i).q (A' i).nc)) (first | go_keep | exact ⟨cell_kept a4 (hbk _ hl2), cell_kept d0 (hbk _ hlp), cell_kept d1 (hbk _ hlp), cell_kept d2 (hbk _ hlp), cell_kept d3 (hbk _ hlp), cell_kept d4 (hbk _ hlp), cell_kept d5 (hbk _ hlp), cell_kept b4 (hbk _ hl1), cell_kept e0 (hbk _ hlp'), cell_kept e1 (hbk _ hlp'), cell_kept e2 (hbk _ hlp'), cell_kept e3 (hbk _ hlp'), cell_kept e4 (hbk _ hlp'), cell_kept e5 (hbk _ hlp')⟩) (first | (go_at_call 21; refine (HI.out i B _ (A i) (A' i) (lies_drewN hLi _) (lies_drewN hLi' _) (by exact hszB)).mono ?_; rintro e w3 ⟨rfl, hb3⟩; have hbk : ∀ k, k < wr.heap.size -> w3.heap[k]? = wr.heap[k]? := hb3.block))
            all_goals
              have hb3' : Below wr.heap.size wr w3 := ⟨hb3.os, hb3.tape, hb3.output, hb3.size, hb3.block⟩
              obtain ⟨y, hy⟩ : ∃ y, cmpT (f i) (f' i) = y := ⟨_, rfl⟩
              rw [hy]
              have HY : Hid (F i = y) := by
                show _ = _
                rw [<- HF.out, <- hy]
                exact if_neg (fun h => h.2 HQ.out)
              clear hy hb3
              by_cases hy0 : y = 0
              . subst hy0
                go_wp2
                go_roundw
                case rel => exact ⟨i + 1, by omega, by go_num, fe_step HE.out HY.out, hbr.trans (hb3'.mono hbr.size)⟩
                case measure => simp [intOf]; omega
              . have hy1 : (y != 0) = true := by simpa using hy0
                go_wp2
                go_ret
                have hfi := fe_at m him HE.out (by rw [HY.out]; exact hy0)
                rw [<- HRR.out, HMIN.out, hfi, HY.out, if_neg hy0]
                exact ⟨rfl, hbf.trans (hb3'.mono hbf.size)⟩
        . have hin' : decide ((i : Int) < (q : Int)) = false := by simp; omega
          go_wp2_with fail
          go_quiet (fail)
          go_wp2_with fail
          go_region_held3 (fun w' => w'.cell? ⟨w.heap.size, 4, none⟩ = some (.slice (some ⟨pb, po, none⟩) m pc) /\ w'.cell? ⟨pb, po + i * 6, none⟩ = some (.int .i64 (f i).k) /\ w'.cell? ⟨pb, po + i * 6 + 1, none⟩ = some (.bool (f i).b) /\ w'.cell? ⟨pb, po + i * 6 + 2, none⟩ = some (.int .i64 (f i).n) /\ w'.cell? ⟨pb, po + i * 6 + 3, none⟩ = some (.string (f i).s) /\ w'.cell? ⟨pb, po + i * 6 + 4, none⟩ = some (.slice (A i).pa (f i).m (A i).pc) /\ w'.cell? ⟨pb, po + i * 6 + 5, none⟩ = some (.slice (A i).na (f i).q (A i).nc) /\ w'.cell? ⟨w.heap.size + 1, 4, none⟩ = some (.slice (some ⟨pb', po', none⟩) m' pc') /\ w'.cell? ⟨pb', po' + i * 6, none⟩ = some (.int .i64 (f' i).k) /\ w'.cell? ⟨pb', po' + i * 6 + 1, none⟩ = some (.bool (f' i).b) /\ w'.cell? ⟨pb', po' + i * 6 + 2, none⟩ = some (.int .i64 (f' i).n) /\ w'.cell? ⟨pb', po' + i * 6 + 3, none⟩ = some (.string (f' i).s) /\ w'.cell? ⟨pb', po' + i * 6 + 4, none⟩ = some (.slice (A' i).pa (f' i).m (A' i).pc) /\ w'.cell? ⟨pb', po' + i * 6 + 5, none⟩ = some (.slice (A' i).na (f' i).q (A' i).nc)) (first | go_keep | exact ⟨cell_kept a4 (hbk _ hl2), cell_kept d0 (hbk _ hlp), cell_kept d1 (hbk _ hlp), cell_kept d2 (hbk _ hlp), cell_kept d3 (hbk _ hlp), cell_kept d4 (hbk _ hlp), cell_kept d5 (hbk _ hlp), cell_kept b4 (hbk _ hl1), cell_kept e0 (hbk _ hlp'), cell_kept e1 (hbk _ hlp'), cell_kept e2 (hbk _ hlp'), cell_kept e3 (hbk _ hlp'), cell_kept e4 (hbk _ hlp'), cell_kept e5 (hbk _ hlp')⟩) (first | (go_at_call 21; refine (HI.out i B _ (A i) (A' i) (lies_drewN hLi _) (lies_drewN hLi' _) (by exact hszB)).mono ?_; rintro e w3 ⟨rfl, hb3⟩; have hbk : ∀ k, k < wr.heap.size -> w3.heap[k]? = wr.heap[k]? := hb3.block))
          all_goals
            have hb3' : Below wr.heap.size wr w3 := ⟨hb3.os, hb3.tape, hb3.output, hb3.size, hb3.block⟩
            obtain ⟨y, hy⟩ : ∃ y, cmpT (f i) (f' i) = y := ⟨_, rfl⟩
            rw [hy]
            have HY : Hid (F i = y) := by
              show _ = _
              rw [<- HF.out, <- hy]
              exact if_neg (fun h => hin (by omega))
            clear hy hb3
            by_cases hy0 : y = 0
            . subst hy0
              go_wp2
              go_roundw
              case rel => exact ⟨i + 1, by omega, by go_num, fe_step HE.out HY.out, hbr.trans (hb3'.mono hbr.size)⟩
              case measure => simp [intOf]; omega
            . have hy1 : (y != 0) = true := by simpa using hy0
              go_wp2
              go_ret
              have hfi := fe_at m him HE.out (by rw [HY.out]; exact hy0)
              rw [<- HRR.out, HMIN.out, hfi, HY.out, if_neg hy0]
              exact ⟨rfl, hbf.trans (hb3'.mono hbf.size)⟩
    . obtain rfl : m = i := by omega
      go_wp2_with fail
      refine (icmp _ _ _).mono ?_
      rintro e wr ⟨rfl, rfl⟩
      go_wp2
      go_ret
      rw [<- HRR.out, HMIN.out, if_pos HE.out]
      exact ⟨rfl, hbf⟩
set_option maxRecDepth 100000 in
set_option maxHeartbeats 4000000 in
theorem cparts_b {B : Nat} {w : World} {k : Int} {b : Bool} {n : Int} {s : ByteArray} {m : Nat} {f : Nat -> Tr} {q : Nat} {g : Nat -> ByteArray} {x : Ad} {k' : Int} {b' : Bool} {n' : Int} {s' : ByteArray} {m' : Nat} {f' : Nat -> Tr} {q' : Nat} {g' : Nat -> ByteArray} {y : Ad}
    (hL : Lies B w (.mk k b n s m f q g) x) (hL' : Lies B w (.mk k' b' n' s' m' f' q' g') y) (hB : B <= w.heap.size) (hM : m' < m) (ih : ∀ i, CmpC (f i) (f' i)) :
    Calls Tryz.prog 52 #[(Tr.mk k b n s m f q g).val x, (Tr.mk k' b' n' s' m' f' q' g').val y] w fun e w' => e = .returned (.int .i64 (if fe (min m m') (cmpF q q' g g' (fun i => cmpT (f i) (f' i))) = 0 then cmpI m m' else fe (min m m') (cmpF q q' g g' (fun i => cmpT (f i) (f' i))))) /\ Below w.heap.size w w' := by
  obtain ⟨A, hp, hr⟩ := hL.part
  obtain ⟨A', hp', hr'⟩ := hL'.part
  have hN : Names B w q g x.na x.nc := hL.lims.2.2.2.2
  have hN' : Names B w q' g' y.na y.nc := hL'.lims.2.2.2.2
  have hm63 : m <= x.pc /\ x.pc <= maxLen := hL.lims.2.2.2.1
  have hm63' : m' <= y.pc /\ y.pc <= maxLen := hL'.lims.2.2.2.1
  obtain ⟨pa, pc, na, nc⟩ := x
  obtain ⟨pa', pc', na', nc'⟩ := y
  have hV : (Tr.mk k b n s m f q g).val ⟨pa, pc, na, nc⟩ = .agg #[.int .i64 k, .bool b, .int .i64 n, .string s, .slice pa m pc, .slice na q nc] := rfl
  have hV' : (Tr.mk k' b' n' s' m' f' q' g').val ⟨pa', pc', na', nc'⟩ = .agg #[.int .i64 k', .bool b', .int .i64 n', .string s', .slice pa' m' pc', .slice na' q' nc'] := rfl
  rw [hV, hV']
  clear hV hV'
  obtain ⟨F, hF⟩ : ∃ F, cmpF q q' g g' (fun i => cmpT (f i) (f' i)) = F := ⟨_, rfl⟩
  have HF : Hid (cmpF q q' g g' (fun i => cmpT (f i) (f' i)) = F) := hF
  rw [hF]
  clear hF
  obtain ⟨R, hR⟩ : ∃ R, (if fe (min m m') F = 0 then cmpI m m' else fe (min m m') F) = R := ⟨_, rfl⟩
  have HRR : Hid ((if fe (min m m') F = 0 then cmpI m m' else fe (min m m') F) = R) := hR
  rw [hR]
  clear hR
  have HI : Hid (∀ i, CmpC (f i) (f' i)) := ih
  have HP : Hid (0 < m -> ∃ b o, pa = some ⟨b, o, none⟩ /\ b < B /\ ∀ i, i < m -> At6 w b (o + i * 6) (f i) (A i)) := hp
  have HP' : Hid (0 < m' -> ∃ b o, pa' = some ⟨b, o, none⟩ /\ b < B /\ ∀ i, i < m' -> At6 w b (o + i * 6) (f' i) (A' i)) := hp'
  have HR : Hid (∀ i, i < m -> Lies B w (f i) (A i)) := hr
  have HR' : Hid (∀ i, i < m' -> Lies B w (f' i) (A' i)) := hr'
  have HN : Hid (Names B w q g na nc) := hN
  have HN' : Hid (Names B w q' g' na' nc') := hN'
  have hmm : (m : Int) <= 9223372036854775807 := by unfold maxLen at hm63; omega
  have hmm' : (m' : Int) <= 9223372036854775807 := by unfold maxLen at hm63'; omega
  clear ih hp hp' hr hr' hN hN' hm63 hm63'
  have hM' : (m' : Int) < (m : Int) := by omega
  have HMIN : Hid (min m m' = m') := by show _ = _; omega
  go_enter Tryz.func52, Tryz.ntmps52
  go_wp2_with fail
  have r2 : ((w.alloc (.cells #[.int .i64 k, .bool b, .int .i64 n, .string s, .slice pa m pc, .slice na q nc] 25)).alloc (.cells #[.int .i64 k', .bool b', .int .i64 n', .string s', .slice pa' m' pc', .slice na' q' nc'] 25)).heap[w.heap.size]? = some (.cells #[.int .i64 k, .bool b, .int .i64 n, .string s, .slice pa m pc, .slice na q nc] 25 (0, 0)) := by
    rw [Below.heap_alloc _ _ _ (by simp)]; exact heap_alloc_new _ _
  have r3 : ((w.alloc (.cells #[.int .i64 k, .bool b, .int .i64 n, .string s, .slice pa m pc, .slice na q nc] 25)).alloc (.cells #[.int .i64 k', .bool b', .int .i64 n', .string s', .slice pa' m' pc', .slice na' q' nc'] 25)).heap[w.heap.size + 1]? = some (.cells #[.int .i64 k', .bool b', .int .i64 n', .string s', .slice pa' m' pc', .slice na' q' nc'] 25 (0, 0)) := by
    have := heap_alloc_new (w.alloc (.cells #[.int .i64 k, .bool b, .int .i64 n, .string s, .slice pa m pc, .slice na q nc] 25)) (.cells #[.int .i64 k', .bool b', .int .i64 n', .string s', .slice pa' m' pc', .slice na' q' nc'] 25); simpa using this
  have hbW : Below w.heap.size w ((w.alloc (.cells #[.int .i64 k, .bool b, .int .i64 n, .string s, .slice pa m pc, .slice na q nc] 25)).alloc (.cells #[.int .i64 k', .bool b', .int .i64 n', .string s', .slice pa' m' pc', .slice na' q' nc'] 25)) := ((Below.refl _ w).alloc (Nat.le_refl _) _).alloc (by simp) _
  obtain ⟨W, hW⟩ : ∃ W, (w.alloc (.cells #[.int .i64 k, .bool b, .int .i64 n, .string s, .slice pa m pc, .slice na q nc] 25)).alloc (.cells #[.int .i64 k', .bool b', .int .i64 n', .string s', .slice pa' m' pc', .slice na' q' nc'] 25) = W := ⟨_, rfl⟩
  rw [hW] at r2 r3 hbW ⊢
  clear hW
  have hl3 := lt_of_row r3
  go_loopw [14] (fun c14 wr => ∃ i : Nat, i <= m' /\ c14 = .int .i64 (i : Int) /\ fe i F = 0 /\ Below W.heap.size W wr) (fun c14 _ => m' - (intOf c14).toNat)
  case atStart => exact ⟨0, by omega, rfl, rfl, Below.refl _ _⟩
  case round =>
    obtain ⟨i, hi, rfl, hfe, hbr⟩ := hrel
    have HE : Hid (fe i F = 0) := hfe
    clear hfe
    have hr2 := (hbr.block _ (by omega)).trans r2
    have hr3 := (hbr.block _ hl3).trans r3
    have a4 := cell_of_row wr _ 4 _ _ _ hr2
    have a5 := cell_of_row wr _ 5 _ _ _ hr2
    have b4 := cell_of_row wr _ 4 _ _ _ hr3
    have b5 := cell_of_row wr _ 5 _ _ _ hr3
    have hbw : Below B w wr := (hbW.mono hB).trans (hbr.mono (by omega))
    have hbf : Below w.heap.size w wr := hbW.trans (hbr.mono (by omega))
    by_cases him : i < m'
    . have him' : (i : Int) < (m' : Int) := by omega
      have him1 : (i : Int) < (m : Int) := by omega
      have him2 : (i : Int) < (m' : Int) := by omega
      obtain ⟨pb, po, rfl, hpb, hat⟩ := HP.out (by omega)
      obtain ⟨pb', po', rfl, hpb', hat'⟩ := HP'.out (by omega)
      have h6a := (hat i (by omega)).later hpb hbw
      have h6b := (hat' i (by omega)).later hpb' hbw
      have d0 := h6a.c0
      have d1 := h6a.c1
      have d2 := h6a.c2
      have d3 := h6a.c3
      have d4 := h6a.c4
      have d5 := h6a.c5
      have e0 := h6b.c0
      have e1 := h6b.c1
      have e2 := h6b.c2
      have e3 := h6b.c3
      have e4 := h6b.c4
      have e5 := h6b.c5
      clear hat hat' h6a h6b
      have hLi := (HR.out i (by omega)).later hbw
      have hLi' := (HR'.out i (by omega)).later hbw
      have hszB : B <= wr.heap.size := by have := hbw.size; omega
      have hl2 := lt_of_row hr2
      have hl1 := lt_of_row hr3
      have hlp := block_lt d0
      have hlp' := block_lt e0
      by_cases hqq : q' < q
      ·
        have hqq' : (q' : Int) < (q : Int) := by omega
        by_cases hin : i < q'
        . have hin' : (i : Int) < (q' : Int) := by omega
          have hin1 : (i : Int) < (q : Int) := by omega
          have hin2 : (i : Int) < (q' : Int) := by omega
          have HNo := HN.out
          have HNo' := HN'.out
          obtain ⟨nb, no, rfl, hnb, hng⟩ := HNo.2.2.2 (by omega)
          obtain ⟨nb', no', rfl, hnb', hng'⟩ := HNo'.2.2.2 (by omega)
          have g1 := cell_later (hng i (by omega)) hnb hbw
          have g2 := cell_later (hng' i (by omega)) hnb' hbw
          clear hng hng' HNo HNo'
          cases hge : ((g i).toList == (g' i).toList) with
          | false =>
            go_wp2_with fail
            go_quiet (fail)
            go_wp2_with fail
            go_region_held3 (fun w' => w'.cell? ⟨w.heap.size, 5, none⟩ = some (.slice (some ⟨nb, no, none⟩) q nc) /\ w'.cell? ⟨nb, no + i, none⟩ = some (.string (g i)) /\ w'.cell? ⟨w.heap.size + 1, 5, none⟩ = some (.slice (some ⟨nb', no', none⟩) q' nc') /\ w'.cell? ⟨nb', no' + i, none⟩ = some (.string (g' i))) (go_keep) (first | (go_at_call 49; refine (scmp _ _ _).mono ?_; rintro e w3 ⟨rfl, rfl⟩))
            go_wp2
            go_ret
            have hne : (g i).data.toList ≠ (g' i).data.toList := fun h => by rw [Lib.toList_data, Lib.toList_data, h] at hge; simp at hge
            have HY : F i = cmpB (g i) (g' i) := by
              rw [<- HF.out]
              exact if_pos ⟨by omega, hne⟩
            have hy0 : cmpB (g i) (g' i) ≠ 0 := fun h => hne (cmpB_zero h)
            have hfi := fe_at m' him HE.out (by rw [HY]; exact hy0)
            rw [<- HRR.out, HMIN.out, hfi, HY, if_neg hy0]
            exact ⟨rfl, ⟨hbf.os, hbf.tape, hbf.output, hbf.size, hbf.block⟩⟩
          | true =>
            have heq : (g i).data.toList = (g' i).data.toList := by rw [<- Lib.toList_data, <- Lib.toList_data]; simpa using hge
            have HQ : Hid ((g i).data.toList = (g' i).data.toList) := heq
            clear heq
            go_wp2_with fail
            go_quiet (fail)
            go_wp2_with fail
            go_region_held3 (fun w' => w'.cell? ⟨w.heap.size, 4, none⟩ = some (.slice (some ⟨pb, po, none⟩) m pc) /\ w'.cell? ⟨pb, po + i * 6, none⟩ = some (.int .i64 (f i).k) /\ w'.cell? ⟨pb, po + i * 6 + 1, none⟩ = some (.bool (f i).b) /\ w'.cell? ⟨pb, po + i * 6 + 2, none⟩ = some (.int .i64 (f i).n) /\ w'.cell? ⟨pb, po + i * 6 + 3, none⟩ = some (.string (f i).s) /\ w'.cell? ⟨pb, po + i * 6 + 4, none⟩ = some (.slice (A i).pa (f i).m (A i).pc) /\ w'.cell? ⟨pb, po + i * 6 + 5, none⟩ = some (.slice (A i).na (f i).q (A i).nc) /\ w'.cell? ⟨w.heap.size + 1, 4, none⟩ = some (.slice (some ⟨pb', po', none⟩) m' pc') /\ w'.cell? ⟨pb', po' + i * 6, none⟩ = some (.int .i64 (f' i).k) /\ w'.cell? ⟨pb', po' + i * 6 + 1, none⟩ = some (.bool (f' i).b) /\ w'.cell? ⟨pb', po' + i * 6 + 2, none⟩ = some (.int .i64 (f' i).n) /\ w'.cell? ⟨pb', po' + i * 6 + 3, none⟩ = some (.string (f' i).s) /\ w'.cell? ⟨pb', po' + i * 6 + 4, none⟩ = some (.slice (A' i).pa (f' i).m (A' i).pc) /\ w'.cell? ⟨pb', po' + i * 6 + 5, none⟩ = some (.slice (A' i).na (f' i).q (A' i).nc)) (first | go_keep | exact ⟨cell_kept a4 (hbk _ hl2), cell_kept d0 (hbk _ hlp), cell_kept d1 (hbk _ hlp), cell_kept d2 (hbk _ hlp), cell_kept d3 (hbk _ hlp), cell_kept d4 (hbk _ hlp), cell_kept d5 (hbk _ hlp), cell_kept b4 (hbk _ hl1), cell_kept e0 (hbk _ hlp'), cell_kept e1 (hbk _ hlp'), cell_kept e2 (hbk _ hlp'), cell_kept e3 (hbk _ hlp'), cell_kept e4 (hbk _ hlp'), cell_kept e5 (hbk _ hlp')⟩) (first | (go_at_call 21; refine (HI.out i B _ (A i) (A' i) (lies_drewN hLi _) (lies_drewN hLi' _) (by exact hszB)).mono ?_; rintro e w3 ⟨rfl, hb3⟩; have hbk : ∀ k, k < wr.heap.size -> w3.heap[k]? = wr.heap[k]? := hb3.block))
            all_goals
              have hb3' : Below wr.heap.size wr w3 := ⟨hb3.os, hb3.tape, hb3.output, hb3.size, hb3.block⟩
              obtain ⟨y, hy⟩ : ∃ y, cmpT (f i) (f' i) = y := ⟨_, rfl⟩
              rw [hy]
              have HY : Hid (F i = y) := by
                show _ = _
                rw [<- HF.out, <- hy]
                exact if_neg (fun h => h.2 HQ.out)
              clear hy hb3
              by_cases hy0 : y = 0
              . subst hy0
                go_wp2
                go_roundw
                case rel => exact ⟨i + 1, by omega, by go_num, fe_step HE.out HY.out, hbr.trans (hb3'.mono hbr.size)⟩
                case measure => simp [intOf]; omega
              . have hy1 : (y != 0) = true := by simpa using hy0
                go_wp2
                go_ret
                have hfi := fe_at m' him HE.out (by rw [HY.out]; exact hy0)
                rw [<- HRR.out, HMIN.out, hfi, HY.out, if_neg hy0]
                exact ⟨rfl, hbf.trans (hb3'.mono hbf.size)⟩
        . have hin' : decide ((i : Int) < (q' : Int)) = false := by simp; omega
          go_wp2_with fail
          go_quiet (fail)
          go_wp2_with fail
          go_region_held3 (fun w' => w'.cell? ⟨w.heap.size, 4, none⟩ = some (.slice (some ⟨pb, po, none⟩) m pc) /\ w'.cell? ⟨pb, po + i * 6, none⟩ = some (.int .i64 (f i).k) /\ w'.cell? ⟨pb, po + i * 6 + 1, none⟩ = some (.bool (f i).b) /\ w'.cell? ⟨pb, po + i * 6 + 2, none⟩ = some (.int .i64 (f i).n) /\ w'.cell? ⟨pb, po + i * 6 + 3, none⟩ = some (.string (f i).s) /\ w'.cell? ⟨pb, po + i * 6 + 4, none⟩ = some (.slice (A i).pa (f i).m (A i).pc) /\ w'.cell? ⟨pb, po + i * 6 + 5, none⟩ = some (.slice (A i).na (f i).q (A i).nc) /\ w'.cell? ⟨w.heap.size + 1, 4, none⟩ = some (.slice (some ⟨pb', po', none⟩) m' pc') /\ w'.cell? ⟨pb', po' + i * 6, none⟩ = some (.int .i64 (f' i).k) /\ w'.cell? ⟨pb', po' + i * 6 + 1, none⟩ = some (.bool (f' i).b) /\ w'.cell? ⟨pb', po' + i * 6 + 2, none⟩ = some (.int .i64 (f' i).n) /\ w'.cell? ⟨pb', po' + i * 6 + 3, none⟩ = some (.string (f' i).s) /\ w'.cell? ⟨pb', po' + i * 6 + 4, none⟩ = some (.slice (A' i).pa (f' i).m (A' i).pc) /\ w'.cell? ⟨pb', po' + i * 6 + 5, none⟩ = some (.slice (A' i).na (f' i).q (A' i).nc)) (first | go_keep | exact ⟨cell_kept a4 (hbk _ hl2), cell_kept d0 (hbk _ hlp), cell_kept d1 (hbk _ hlp), cell_kept d2 (hbk _ hlp), cell_kept d3 (hbk _ hlp), cell_kept d4 (hbk _ hlp), cell_kept d5 (hbk _ hlp), cell_kept b4 (hbk _ hl1), cell_kept e0 (hbk _ hlp'), cell_kept e1 (hbk _ hlp'), cell_kept e2 (hbk _ hlp'), cell_kept e3 (hbk _ hlp'), cell_kept e4 (hbk _ hlp'), cell_kept e5 (hbk _ hlp')⟩) (first | (go_at_call 21; refine (HI.out i B _ (A i) (A' i) (lies_drewN hLi _) (lies_drewN hLi' _) (by exact hszB)).mono ?_; rintro e w3 ⟨rfl, hb3⟩; have hbk : ∀ k, k < wr.heap.size -> w3.heap[k]? = wr.heap[k]? := hb3.block))
          all_goals
            have hb3' : Below wr.heap.size wr w3 := ⟨hb3.os, hb3.tape, hb3.output, hb3.size, hb3.block⟩
            obtain ⟨y, hy⟩ : ∃ y, cmpT (f i) (f' i) = y := ⟨_, rfl⟩
            rw [hy]
            have HY : Hid (F i = y) := by
              show _ = _
              rw [<- HF.out, <- hy]
              exact if_neg (fun h => hin (by omega))
            clear hy hb3
            by_cases hy0 : y = 0
            . subst hy0
              go_wp2
              go_roundw
              case rel => exact ⟨i + 1, by omega, by go_num, fe_step HE.out HY.out, hbr.trans (hb3'.mono hbr.size)⟩
              case measure => simp [intOf]; omega
            . have hy1 : (y != 0) = true := by simpa using hy0
              go_wp2
              go_ret
              have hfi := fe_at m' him HE.out (by rw [HY.out]; exact hy0)
              rw [<- HRR.out, HMIN.out, hfi, HY.out, if_neg hy0]
              exact ⟨rfl, hbf.trans (hb3'.mono hbf.size)⟩
      ·
        have hqq' : (q : Int) <= (q' : Int) := by omega
        by_cases hin : i < q
        . have hin' : (i : Int) < (q : Int) := by omega
          have hin1 : (i : Int) < (q : Int) := by omega
          have hin2 : (i : Int) < (q' : Int) := by omega
          have HNo := HN.out
          have HNo' := HN'.out
          obtain ⟨nb, no, rfl, hnb, hng⟩ := HNo.2.2.2 (by omega)
          obtain ⟨nb', no', rfl, hnb', hng'⟩ := HNo'.2.2.2 (by omega)
          have g1 := cell_later (hng i (by omega)) hnb hbw
          have g2 := cell_later (hng' i (by omega)) hnb' hbw
          clear hng hng' HNo HNo'
          cases hge : ((g i).toList == (g' i).toList) with
          | false =>
            go_wp2_with fail
            go_quiet (fail)
            go_wp2_with fail
            go_region_held3 (fun w' => w'.cell? ⟨w.heap.size, 5, none⟩ = some (.slice (some ⟨nb, no, none⟩) q nc) /\ w'.cell? ⟨nb, no + i, none⟩ = some (.string (g i)) /\ w'.cell? ⟨w.heap.size + 1, 5, none⟩ = some (.slice (some ⟨nb', no', none⟩) q' nc') /\ w'.cell? ⟨nb', no' + i, none⟩ = some (.string (g' i))) (go_keep) (first | (go_at_call 49; refine (scmp _ _ _).mono ?_; rintro e w3 ⟨rfl, rfl⟩))
            go_wp2
            go_ret
            have hne : (g i).data.toList ≠ (g' i).data.toList := fun h => by rw [Lib.toList_data, Lib.toList_data, h] at hge; simp at hge
            have HY : F i = cmpB (g i) (g' i) := by
              rw [<- HF.out]
              exact if_pos ⟨by omega, hne⟩
            have hy0 : cmpB (g i) (g' i) ≠ 0 := fun h => hne (cmpB_zero h)
            have hfi := fe_at m' him HE.out (by rw [HY]; exact hy0)
            rw [<- HRR.out, HMIN.out, hfi, HY, if_neg hy0]
            exact ⟨rfl, ⟨hbf.os, hbf.tape, hbf.output, hbf.size, hbf.block⟩⟩
          | true =>
            have heq : (g i).data.toList = (g' i).data.toList := by rw [<- Lib.toList_data, <- Lib.toList_data]; simpa using hge
            have HQ : Hid ((g i).data.toList = (g' i).data.toList) := heq
            clear heq
            go_wp2_with fail
            go_quiet (fail)
            go_wp2_with fail
            go_region_held3 (fun w' => w'.cell? ⟨w.heap.size, 4, none⟩ = some (.slice (some ⟨pb, po, none⟩) m pc) /\ w'.cell? ⟨pb, po + i * 6, none⟩ = some (.int .i64 (f i).k) /\ w'.cell? ⟨pb, po + i * 6 + 1, none⟩ = some (.bool (f i).b) /\ w'.cell? ⟨pb, po + i * 6 + 2, none⟩ = some (.int .i64 (f i).n) /\ w'.cell? ⟨pb, po + i * 6 + 3, none⟩ = some (.string (f i).s) /\ w'.cell? ⟨pb, po + i * 6 + 4, none⟩ = some (.slice (A i).pa (f i).m (A i).pc) /\ w'.cell? ⟨pb, po + i * 6 + 5, none⟩ = some (.slice (A i).na (f i).q (A i).nc) /\ w'.cell? ⟨w.heap.size + 1, 4, none⟩ = some (.slice (some ⟨pb', po', none⟩) m' pc') /\ w'.cell? ⟨pb', po' + i * 6, none⟩ = some (.int .i64 (f' i).k) /\ w'.cell? ⟨pb', po' + i * 6 + 1, none⟩ = some (.bool (f' i).b) /\ w'.cell? ⟨pb', po' + i * 6 + 2, none⟩ = some (.int .i64 (f' i).n) /\ w'.cell? ⟨pb', po' + i * 6 + 3, none⟩ = some (.string (f' i).s) /\ w'.cell? ⟨pb', po' + i * 6 + 4, none⟩ = some (.slice (A' i).pa (f' i).m (A' i).pc) /\ w'.cell? ⟨pb', po' + i * 6 + 5, none⟩ = some (.slice (A' i).na (f' i).q (A' i).nc)) (first | go_keep | exact ⟨cell_kept a4 (hbk _ hl2), cell_kept d0 (hbk _ hlp), cell_kept d1 (hbk _ hlp), cell_kept d2 (hbk _ hlp), cell_kept d3 (hbk _ hlp), cell_kept d4 (hbk _ hlp), cell_kept d5 (hbk _ hlp), cell_kept b4 (hbk _ hl1), cell_kept e0 (hbk _ hlp'), cell_kept e1 (hbk _ hlp'), cell_kept e2 (hbk _ hlp'), cell_kept e3 (hbk _ hlp'), cell_kept e4 (hbk _ hlp'), cell_kept e5 (hbk _ hlp')⟩) (first | (go_at_call 21; refine (HI.out i B _ (A i) (A' i) (lies_drewN hLi _) (lies_drewN hLi' _) (by exact hszB)).mono ?_; rintro e w3 ⟨rfl, hb3⟩; have hbk : ∀ k, k < wr.heap.size -> w3.heap[k]? = wr.heap[k]? := hb3.block))
            all_goals
              have hb3' : Below wr.heap.size wr w3 := ⟨hb3.os, hb3.tape, hb3.output, hb3.size, hb3.block⟩
              obtain ⟨y, hy⟩ : ∃ y, cmpT (f i) (f' i) = y := ⟨_, rfl⟩
              rw [hy]
              have HY : Hid (F i = y) := by
                show _ = _
                rw [<- HF.out, <- hy]
                exact if_neg (fun h => h.2 HQ.out)
              clear hy hb3
              by_cases hy0 : y = 0
              . subst hy0
                go_wp2
                go_roundw
                case rel => exact ⟨i + 1, by omega, by go_num, fe_step HE.out HY.out, hbr.trans (hb3'.mono hbr.size)⟩
                case measure => simp [intOf]; omega
              . have hy1 : (y != 0) = true := by simpa using hy0
                go_wp2
                go_ret
                have hfi := fe_at m' him HE.out (by rw [HY.out]; exact hy0)
                rw [<- HRR.out, HMIN.out, hfi, HY.out, if_neg hy0]
                exact ⟨rfl, hbf.trans (hb3'.mono hbf.size)⟩
        . have hin' : decide ((i : Int) < (q : Int)) = false := by simp; omega
          go_wp2_with fail
          go_quiet (fail)
          go_wp2_with fail
          go_region_held3 (fun w' => w'.cell? ⟨w.heap.size, 4, none⟩ = some (.slice (some ⟨pb, po, none⟩) m pc) /\ w'.cell? ⟨pb, po + i * 6, none⟩ = some (.int .i64 (f i).k) /\ w'.cell? ⟨pb, po + i * 6 + 1, none⟩ = some (.bool (f i).b) /\ w'.cell? ⟨pb, po + i * 6 + 2, none⟩ = some (.int .i64 (f i).n) /\ w'.cell? ⟨pb, po + i * 6 + 3, none⟩ = some (.string (f i).s) /\ w'.cell? ⟨pb, po + i * 6 + 4, none⟩ = some (.slice (A i).pa (f i).m (A i).pc) /\ w'.cell? ⟨pb, po + i * 6 + 5, none⟩ = some (.slice (A i).na (f i).q (A i).nc) /\ w'.cell? ⟨w.heap.size + 1, 4, none⟩ = some (.slice (some ⟨pb', po', none⟩) m' pc') /\ w'.cell? ⟨pb', po' + i * 6, none⟩ = some (.int .i64 (f' i).k) /\ w'.cell? ⟨pb', po' + i * 6 + 1, none⟩ = some (.bool (f' i).b) /\ w'.cell? ⟨pb', po' + i * 6 + 2, none⟩ = some (.int .i64 (f' i).n) /\ w'.cell? ⟨pb', po' + i * 6 + 3, none⟩ = some (.string (f' i).s) /\ w'.cell? ⟨pb', po' + i * 6 + 4, none⟩ = some (.slice (A' i).pa (f' i).m (A' i).pc) /\ w'.cell? ⟨pb', po' + i * 6 + 5, none⟩ = some (.slice (A' i).na (f' i).q (A' i).nc)) (first | go_keep | exact ⟨cell_kept a4 (hbk _ hl2), cell_kept d0 (hbk _ hlp), cell_kept d1 (hbk _ hlp), cell_kept d2 (hbk _ hlp), cell_kept d3 (hbk _ hlp), cell_kept d4 (hbk _ hlp), cell_kept d5 (hbk _ hlp), cell_kept b4 (hbk _ hl1), cell_kept e0 (hbk _ hlp'), cell_kept e1 (hbk _ hlp'), cell_kept e2 (hbk _ hlp'), cell_kept e3 (hbk _ hlp'), cell_kept e4 (hbk _ hlp'), cell_kept e5 (hbk _ hlp')⟩) (first | (go_at_call 21; refine (HI.out i B _ (A i) (A' i) (lies_drewN hLi _) (lies_drewN hLi' _) (by exact hszB)).mono ?_; rintro e w3 ⟨rfl, hb3⟩; have hbk : ∀ k, k < wr.heap.size -> w3.heap[k]? = wr.heap[k]? := hb3.block))
          all_goals
            have hb3' : Below wr.heap.size wr w3 := ⟨hb3.os, hb3.tape, hb3.output, hb3.size, hb3.block⟩
            obtain ⟨y, hy⟩ : ∃ y, cmpT (f i) (f' i) = y := ⟨_, rfl⟩
            rw [hy]
            have HY : Hid (F i = y) := by
              show _ = _
              rw [<- HF.out, <- hy]
              exact if_neg (fun h => hin (by omega))
            clear hy hb3
            by_cases hy0 : y = 0
            . subst hy0
              go_wp2
              go_roundw
              case rel => exact ⟨i + 1, by omega, by go_num, fe_step HE.out HY.out, hbr.trans (hb3'.mono hbr.size)⟩
              case measure => simp [intOf]; omega
            . have hy1 : (y != 0) = true := by simpa using hy0
              go_wp2
              go_ret
              have hfi := fe_at m' him HE.out (by rw [HY.out]; exact hy0)
              rw [<- HRR.out, HMIN.out, hfi, HY.out, if_neg hy0]
              exact ⟨rfl, hbf.trans (hb3'.mono hbf.size)⟩
    . obtain rfl : m' = i := by omega
      go_wp2_with fail
      refine (icmp _ _ _).mono ?_
      rintro e wr ⟨rfl, rfl⟩
      go_wp2
      go_ret
      rw [<- HRR.out, HMIN.out, if_pos HE.out]
      exact ⟨rfl, hbf⟩
end Go.Proofs.YtfemippjaokcmaaGreatDoor.V
namespace Go.Proofs.YtfemippjaokcmaaGreatDoor.V
open Go.RowKit
theorem cparts {B : Nat} {w : World} {k : Int} {b : Bool} {n : Int} {s : ByteArray} {m : Nat} {f : Nat -> Tr} {q : Nat} {g : Nat -> ByteArray} {x : Ad} {k' : Int} {b' : Bool} {n' : Int} {s' : ByteArray} {m' : Nat} {f' : Nat -> Tr} {q' : Nat} {g' : Nat -> ByteArray} {y : Ad}
    (hL : Lies B w (.mk k b n s m f q g) x) (hL' : Lies B w (.mk k' b' n' s' m' f' q' g') y) (hB : B <= w.heap.size) (ih : ∀ i, CmpC (f i) (f' i)) :
    Calls Tryz.prog 52 #[(Tr.mk k b n s m f q g).val x, (Tr.mk k' b' n' s' m' f' q' g').val y] w fun e w' => e = .returned (.int .i64 (if fe (min m m') (cmpF q q' g g' (fun i => cmpT (f i) (f' i))) = 0 then cmpI m m' else fe (min m m') (cmpF q q' g g' (fun i => cmpT (f i) (f' i))))) /\ Below w.heap.size w w' := by
  by_cases hM : m' < m
  . exact cparts_b hL hL' hB hM ih
  . exact cparts_a hL hL' hB (by omega) ih
set_option maxRecDepth 100000 in
set_option maxHeartbeats 4000000 in
theorem cmp_all (t : Tr) : ∀ u, CmpC t u := by
  induction t with
  | no => exact fun _ _ _ _ _ hL => hL.no.elim
  | mk k b n s m f q g ih =>
    intro u B w x y hL hL' hB
    cases u with
    | no => exact hL'.no.elim
    | mk k' b' n' s' m' f' q' g' =>
      have hpp := fun (W : World) (hb : Below B w W) (hs : B <= W.heap.size) => cparts (hL.later hb) (hL'.later hb) hs (fun i => ih i (f' i))
      obtain ⟨pa, pc, na, nc⟩ := x
      obtain ⟨pa', pc', na', nc'⟩ := y
      obtain ⟨R, hR0⟩ : ∃ R, cmpT (.mk k b n s m f q g) (.mk k' b' n' s' m' f' q' g') = R := ⟨_, rfl⟩
      rw [hR0]
      have hR : (if k = k' then (if k = 1 then cmpB (boolB b) (boolB b') else if k = 2 then cmpI n n' else if k = 3 ∨ k = 4 then cmpB s s' else if k = 5 ∨ k = 6 then (if fe (min m m') (cmpF q q' g g' (fun i => cmpT (f i) (f' i))) = 0 then cmpI m m' else fe (min m m') (cmpF q q' g g' (fun i => cmpT (f i) (f' i)))) else 0) else cmpI k k') = R := by rw [<- hR0, cmpT]; rfl
      clear hR0
      have hV : (Tr.mk k b n s m f q g).val ⟨pa, pc, na, nc⟩ = .agg #[.int .i64 k, .bool b, .int .i64 n, .string s, .slice pa m pc, .slice na q nc] := rfl
      have hV' : (Tr.mk k' b' n' s' m' f' q' g').val ⟨pa', pc', na', nc'⟩ = .agg #[.int .i64 k', .bool b', .int .i64 n', .string s', .slice pa' m' pc', .slice na' q' nc'] := rfl
      rw [hV, hV'] at hpp ⊢
      clear hV hV'
      have hbW : Below w.heap.size w ((w.alloc (.cells #[.int .i64 k, .bool b, .int .i64 n, .string s, .slice pa m pc, .slice na q nc] 25)).alloc (.cells #[.int .i64 k', .bool b', .int .i64 n', .string s', .slice pa' m' pc', .slice na' q' nc'] 25)) := ((Below.refl _ w).alloc (Nat.le_refl _) _).alloc (by simp) _
      by_cases hkk : k = k'
      . subst hkk
        rw [if_pos rfl] at hR
        by_cases h1 : k = 1
        . subst h1
          rw [if_pos rfl] at hR
          subst hR
          clear hpp
          go_enter Tryz.func21, Tryz.ntmps21
          go_wp2_with fail
          go_quiet (first | (go_at_call 50; exact Calls.quiet_of_same (ebool_any _ _)) | (go_at_call 49; exact Calls.quiet_of_same (scmp _ _ _)))
          go_wp2
          go_ret
          exact ⟨rfl, ⟨hbW.os, hbW.tape, hbW.output, hbW.size, hbW.block⟩⟩
        . rw [if_neg h1] at hR
          by_cases h2 : k = 2
          . subst h2
            rw [if_pos rfl] at hR
            subst hR
            clear hpp
            go_enter Tryz.func21, Tryz.ntmps21
            go_wp2_with fail
            refine (lcmp _ _ _).mono ?_
            rintro e w1 ⟨rfl, rfl⟩
            go_wp2
            go_ret
            exact ⟨rfl, hbW⟩
          . rw [if_neg h2] at hR
            by_cases h34 : k = 3 ∨ k = 4
            . rw [if_pos h34] at hR
              subst hR
              clear hpp
              rcases h34 with rfl | rfl
              all_goals
                go_enter Tryz.func21, Tryz.ntmps21
                go_wp2_with fail
                refine (scmp _ _ _).mono ?_
                rintro e w1 ⟨rfl, rfl⟩
                go_wp2
                go_ret
                exact ⟨rfl, hbW⟩
            . rw [if_neg h34] at hR
              by_cases h56 : k = 5 ∨ k = 6
              . rw [if_pos h56] at hR
                rw [hR] at hpp
                clear hR
                rcases h56 with rfl | rfl
                all_goals
                  go_enter Tryz.func21, Tryz.ntmps21
                  go_wp2_with fail
                  refine (hpp _ (hbW.mono hB) (by simp; omega)).mono ?_
                  rintro e w1 ⟨rfl, hb1⟩
                  go_wp2
                  go_ret
                  exact ⟨rfl, hbW.trans (hb1.mono (by simp; omega))⟩
              . rw [if_neg h56] at hR
                subst hR
                clear hpp
                have n1 : (k == 1) = false := by simpa using h1
                have n2 : (k == 2) = false := by simpa using h2
                have n3 : (k == 3) = false := by simp; omega
                have n4 : (k == 4) = false := by simp; omega
                have n5 : (k == 5) = false := by simp; omega
                have n6 : (k == 6) = false := by simp; omega
                go_enter Tryz.func21, Tryz.ntmps21
                go_wp2
                go_ret
                exact ⟨rfl, hbW⟩
      . rw [if_neg hkk] at hR
        subst hR
        clear hpp
        have hk2 : (k != k') = true := by simpa using hkk
        go_enter Tryz.func21, Tryz.ntmps21
        go_wp2_with fail
        refine (icmp _ _ _).mono ?_
        rintro e w1 ⟨rfl, rfl⟩
        go_wp2
        go_ret
        exact ⟨rfl, hbW⟩
end Go.Proofs.YtfemippjaokcmaaGreatDoor.V
