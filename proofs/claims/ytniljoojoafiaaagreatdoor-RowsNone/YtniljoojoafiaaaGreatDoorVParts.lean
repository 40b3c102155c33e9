/- The parts of a sound value, behind others (putParts): of a list, and of a struct. -/
import Derived.Test.YtniljoojoafiaaaGreatDoorXap
import Derived.Test.YtniljoojoafiaaaGreatDoorXak
namespace Go.Proofs.YtniljoojoafiaaaGreatDoor.V
open Go.RowKit
set_option maxRecDepth 100000 in
theorem fresh_row (w : World) (cs : Array Value) (t : TypeId) : (w.alloc (.cells cs t)).heap[w.heap.size]? = some (.cells cs t (0, 0)) := heap_alloc_new _ _
set_option maxRecDepth 100000 in
set_option maxHeartbeats 4000000 in
theorem parts_5 {B : Nat} {w : World} {bo : Bool} {n : Int} {s : ByteArray} {m : Nat} {f : Nat → Tr} {q : Nat} {g : Nat → ByteArray} {x : Ad} {d : Int} {b : Nat} {l : List UInt8} (hS : SoundP 5 bo n s m f q g d)
    (ih : ∀ i, i < m → PutC (f i) (d + 1)) (hL : Lies B w (.mk 5 bo n s m f q g) x) (hB : B ≤ b) (hbl : Bld w b l) (hl : l.length ≤ 1101) :
    Calls Tryz.prog 97 #[.pointer (some ⟨b, 0, none⟩), (Tr.mk 5 bo n s m f q g).val x] w fun e w' => e = .returned (.tuple #[]) ∧ (∃ l', Bld w' b l' ∧ Aft l (put m ++ cat m (fun i => (if (5 : Int) = 6 then textL (g i) else []) ++ bytesT (f i))) l' ∧ l'.length ≤ 6100) ∧ Below b w w' ∧ Tame w w' := by
  obtain ⟨A, hp, hr⟩ := hL.part
  have hN := hL.lims.2.2.2.2
  replace hN : Names B w q g x.na x.nc := hN
  obtain ⟨pa, pc, na, nc⟩ := x
  have hV : (Tr.mk 5 bo n s m f q g).val ⟨pa, pc, na, nc⟩ = .agg #[.int .i64 5, .bool bo, .int .i64 n, .string s, .slice pa m pc, .slice na q nc] := rfl
  rw [hV]
  clear hV
  have h32 := hS.m32
  obtain ⟨F, hF⟩ : ∃ F : Nat → List UInt8, (fun i => (if (5 : Int) = 6 then textL (g i) else []) ++ bytesT (f i)) = F := ⟨_, rfl⟩
  rw [hF]
  have HF : Hid (∀ i, F i = (if (5 : Int) = 6 then textL (g i) else []) ++ bytesT (f i)) := fun i => by rw [← hF]
  clear hF
  have HI : Hid (∀ i, i < m → PutC (f i) (d + 1)) := ih
  have HP : Hid (0 < m → ∃ b o, pa = some ⟨b, o, none⟩ ∧ b < B ∧ ∀ i, i < m → At6 w b (o + i * 6) (f i) (A i)) := hp
  have HR : Hid (∀ i, i < m → Lies B w (f i) (A i)) := hr
  have HN : Hid (Names B w q g na nc) := hN
  clear ih hp hr hN
  have hpu := fun W => put_any m (by omega) W
  have hpl := put_len10 (n := m) (by omega)
  obtain ⟨u, hu⟩ : ∃ u : ByteArray, (⟨(put m).toArray⟩ : ByteArray) = u := ⟨_, rfl⟩
  have HU : Hid (u.data.toList = put m) := by show _ = _; rw [← hu]
  have hus : u.size ≤ 10 := by rw [Lib.size_eq, HU.out]; omega
  rw [hu] at hpu
  clear hu
  have hw : IntKind.u64.wrap (m : Int) = (m : Int) := by rw [IntKind.wrap_u64]; omega
  have hb0 := hbl.lt
  go_enter Tryz.func97, Tryz.ntmps97
  go_wp2_with fail
  refine (hpu _).mono ?_
  rintro e w1 ⟨rfl, hb1⟩
  have hrow := (hb1.block w.heap.size (by simp)).trans (fresh_row w #[.int .i64 5, .bool bo, .int .i64 n, .string s, .slice pa m pc, .slice na q nc] 34)
  have hbel : Below w.heap.size w w1 := ((Below.refl _ w).alloc (Nat.le_refl _) _).trans (hb1.mono (by simp))
  go_wp2_with fail
  refine (b_text b l u _ (hbl.later hbel) (by omega) (by omega)).mono ?_
  rintro e w2 ⟨rfl, hbl2, hbb2, ht2⟩
  replace hrow := ht2.block _ _ _ _ (by decide) (by decide) hrow
  replace hbb2 : Below b w w2 := (hbel.mono (by omega)).trans hbb2
  replace ht2 : Tame w w2 := (Tame.ofBelow hbel).trans ht2
  rw [HU.out] at hbl2
  clear hb1 hbel
  have c4 := cell_of_row w2 _ 4 _ _ _ hrow
  go_wp2_with fail
  go_loopw [16] (fun c16 wr => ∃ (i : Nat) (li : List UInt8), i ≤ m ∧ c16 = .int .i64 (i : Int) ∧ Bld wr b li ∧ Aft l (put m ++ cat i F) li ∧ li.length ≤ 6100 ∧ wr.heap[w.heap.size]? = some (.cells #[.int .i64 5, .bool bo, .int .i64 n, .string s, .slice pa m pc, .slice na q nc] 34 (0, 0)) ∧ Below b w wr ∧ Tame w wr) (fun c16 _ => m - (intOf c16).toNat)
  case atStart => exact ⟨0, l ++ put m, by omega, rfl, hbl2, by rw [show cat 0 F = [] from rfl, List.append_nil]; exact Aft.all _ _, by simp; omega, hrow, hbb2, ht2⟩
  case round =>
    clear c4 hrow hbl2 hbb2 ht2
    obtain ⟨i, li, hi, rfl, hbli, haf, hli, hrow, hbw, htw⟩ := hrel
    have HA : Hid (Aft l (put m ++ cat i F) li) := haf
    clear haf
    by_cases him : i < m
    · have him' : (i : Int) < (m : Int) := by omega
      obtain ⟨pb, po, rfl, hpb, hat⟩ := HP.out (by omega)
      have h6a := (hat i him).later hpb (hbw.mono hB)
      have d0 := h6a.c0
      have d1 := h6a.c1
      have d2 := h6a.c2
      have d3 := h6a.c3
      have d4 := h6a.c4
      have d5 := h6a.c5
      clear hat
      have hLi := (HR.out i him).later (hbw.mono hB)
      have hsz := htw.size
      go_wp2_with fail
      have hbx : Below wr.heap.size wr (wr.alloc (.cells #[.int .i64 (f i).k, .bool (f i).b, .int .i64 (f i).n, .string (f i).s, .slice (A i).pa (f i).m (A i).pc, .slice (A i).na (f i).q (A i).nc] 34)) := (Below.refl _ wr).alloc (Nat.le_refl _) _
      have hpart := fresh_row wr #[.int .i64 (f i).k, .bool (f i).b, .int .i64 (f i).n, .string (f i).s, .slice (A i).pa (f i).m (A i).pc, .slice (A i).na (f i).q (A i).nc] 34
      obtain ⟨w3, hw3⟩ : ∃ w3, wr.alloc (.cells #[.int .i64 (f i).k, .bool (f i).b, .int .i64 (f i).n, .string (f i).s, .slice (A i).pa (f i).m (A i).pc, .slice (A i).na (f i).q (A i).nc] 34) = w3 := ⟨_, rfl⟩
      rw [hw3] at hbx hpart ⊢
      clear hw3
      have hrow3 := (hbx.block _ (lt_of_row hrow)).trans hrow
      have hbw3 : Below b w w3 := hbw.trans (hbx.mono (by omega))
      have htw3 : Tame w w3 := htw.trans (Tame.ofBelow hbx)
      refine (b_len b li _ (hbli.later hbx)).mono ?_
      rintro e w3 ⟨rfl, rfl⟩
      by_cases hbig : 1024 < li.length
      · have hbig' : (1024 : Int) < (li.length : Int) := by omega
        go_wp2
        refine bodyPost_ret (v := .tuple #[]) (by simp [results, Tryz.results97, go_sem]) rfl ?_
        obtain ⟨y, hy⟩ := cat_more F (show i ≤ m by omega)
        refine ⟨rfl, ⟨li, hbli.later hbx, ?_, hli⟩, hbw3, htw3⟩
        rw [hy, ← List.append_assoc]
        exact HA.out.over hbig
      · have hbig' : (li.length : Int) ≤ 1024 := by omega
        have HX : Hid (li = l ++ (put m ++ cat i F)) := HA.out.exact (by omega)
        have e0 := cell_of_row w3 _ 0 _ _ _ hrow3
        have e5 := cell_of_row w3 _ 5 _ _ _ hrow3
        have p0 := cell_of_row w3 _ 0 _ _ _ hpart
        have p1 := cell_of_row w3 _ 1 _ _ _ hpart
        have p2 := cell_of_row w3 _ 2 _ _ _ hpart
        have p3 := cell_of_row w3 _ 3 _ _ _ hpart
        have p4 := cell_of_row w3 _ 4 _ _ _ hpart
        have p5 := cell_of_row w3 _ 5 _ _ _ hpart
        have hbl5 := hbli.later hbx
        have hLi5 := hLi.later (hbx.mono (by omega))
        have hln : li.length ≤ 1100 := by omega
        have hrow5 := hrow3
        have hbw5 := hbw3
        have htw5 := htw3
        go_wp2_with fail
        refine (HI.out i him B _ (A i) b li hLi5 hB hbl5 hln).mono ?_
        rintro e w6 ⟨rfl, ⟨l6, hbl6, haf6, hl6⟩, hbb6, ht6⟩
        have hrow6 := ht6.block _ _ _ _ (by decide) (by decide) hrow5
        go_wp2
        go_roundw
        case rel =>
          refine ⟨i + 1, l6, by omega, by go_num, hbl6, ?_, hl6, hrow6, hbw5.trans hbb6, htw5.trans ht6⟩
          show Aft l (put m ++ (cat i F ++ F i)) l6
          rw [HX.out] at haf6
          rw [HF.out i, ← List.append_assoc]
          rw [if_neg (by decide), List.nil_append]
          exact haf6.on
        case measure => simp [intOf]; omega
    · obtain rfl : i = m := by omega
      go_wp2
      go_end0
      exact ⟨rfl, ⟨li, hbli, HA.out, hli⟩, hbw, htw⟩
set_option maxRecDepth 100000 in
set_option maxHeartbeats 4000000 in
theorem parts_6 {B : Nat} {w : World} {bo : Bool} {n : Int} {s : ByteArray} {m : Nat} {f : Nat → Tr} {q : Nat} {g : Nat → ByteArray} {x : Ad} {d : Int} {b : Nat} {l : List UInt8} (hS : SoundP 6 bo n s m f q g d)
    (ih : ∀ i, i < m → PutC (f i) (d + 1)) (hL : Lies B w (.mk 6 bo n s m f q g) x) (hB : B ≤ b) (hbl : Bld w b l) (hl : l.length ≤ 1101) :
    Calls Tryz.prog 97 #[.pointer (some ⟨b, 0, none⟩), (Tr.mk 6 bo n s m f q g).val x] w fun e w' => e = .returned (.tuple #[]) ∧ (∃ l', Bld w' b l' ∧ Aft l (put m ++ cat m (fun i => (if (6 : Int) = 6 then textL (g i) else []) ++ bytesT (f i))) l' ∧ l'.length ≤ 6100) ∧ Below b w w' ∧ Tame w w' := by
  obtain ⟨A, hp, hr⟩ := hL.part
  have hN := hL.lims.2.2.2.2
  replace hN : Names B w q g x.na x.nc := hN
  obtain ⟨pa, pc, na, nc⟩ := x
  have hV : (Tr.mk 6 bo n s m f q g).val ⟨pa, pc, na, nc⟩ = .agg #[.int .i64 6, .bool bo, .int .i64 n, .string s, .slice pa m pc, .slice na q nc] := rfl
  rw [hV]
  clear hV
  have h32 := hS.m32
  have HQ : Hid (q = m ∧ ∀ i, i < q → okN g i = true) := hS.nm rfl
  obtain ⟨F, hF⟩ : ∃ F : Nat → List UInt8, (fun i => (if (6 : Int) = 6 then textL (g i) else []) ++ bytesT (f i)) = F := ⟨_, rfl⟩
  rw [hF]
  have HF : Hid (∀ i, F i = (if (6 : Int) = 6 then textL (g i) else []) ++ bytesT (f i)) := fun i => by rw [← hF]
  clear hF
  have HI : Hid (∀ i, i < m → PutC (f i) (d + 1)) := ih
  have HP : Hid (0 < m → ∃ b o, pa = some ⟨b, o, none⟩ ∧ b < B ∧ ∀ i, i < m → At6 w b (o + i * 6) (f i) (A i)) := hp
  have HR : Hid (∀ i, i < m → Lies B w (f i) (A i)) := hr
  have HN : Hid (Names B w q g na nc) := hN
  clear ih hp hr hN
  have hpu := fun W => put_any m (by omega) W
  have hpl := put_len10 (n := m) (by omega)
  obtain ⟨u, hu⟩ : ∃ u : ByteArray, (⟨(put m).toArray⟩ : ByteArray) = u := ⟨_, rfl⟩
  have HU : Hid (u.data.toList = put m) := by show _ = _; rw [← hu]
  have hus : u.size ≤ 10 := by rw [Lib.size_eq, HU.out]; omega
  rw [hu] at hpu
  clear hu
  have hw : IntKind.u64.wrap (m : Int) = (m : Int) := by rw [IntKind.wrap_u64]; omega
  have hb0 := hbl.lt
  go_enter Tryz.func97, Tryz.ntmps97
  go_wp2_with fail
  refine (hpu _).mono ?_
  rintro e w1 ⟨rfl, hb1⟩
  have hrow := (hb1.block w.heap.size (by simp)).trans (fresh_row w #[.int .i64 6, .bool bo, .int .i64 n, .string s, .slice pa m pc, .slice na q nc] 34)
  have hbel : Below w.heap.size w w1 := ((Below.refl _ w).alloc (Nat.le_refl _) _).trans (hb1.mono (by simp))
  go_wp2_with fail
  refine (b_text b l u _ (hbl.later hbel) (by omega) (by omega)).mono ?_
  rintro e w2 ⟨rfl, hbl2, hbb2, ht2⟩
  replace hrow := ht2.block _ _ _ _ (by decide) (by decide) hrow
  replace hbb2 : Below b w w2 := (hbel.mono (by omega)).trans hbb2
  replace ht2 : Tame w w2 := (Tame.ofBelow hbel).trans ht2
  rw [HU.out] at hbl2
  clear hb1 hbel
  have c4 := cell_of_row w2 _ 4 _ _ _ hrow
  go_wp2_with fail
  go_loopw [16] (fun c16 wr => ∃ (i : Nat) (li : List UInt8), i ≤ m ∧ c16 = .int .i64 (i : Int) ∧ Bld wr b li ∧ Aft l (put m ++ cat i F) li ∧ li.length ≤ 6100 ∧ wr.heap[w.heap.size]? = some (.cells #[.int .i64 6, .bool bo, .int .i64 n, .string s, .slice pa m pc, .slice na q nc] 34 (0, 0)) ∧ Below b w wr ∧ Tame w wr) (fun c16 _ => m - (intOf c16).toNat)
  case atStart => exact ⟨0, l ++ put m, by omega, rfl, hbl2, by rw [show cat 0 F = [] from rfl, List.append_nil]; exact Aft.all _ _, by simp; omega, hrow, hbb2, ht2⟩
  case round =>
    clear c4 hrow hbl2 hbb2 ht2
    obtain ⟨i, li, hi, rfl, hbli, haf, hli, hrow, hbw, htw⟩ := hrel
    have HA : Hid (Aft l (put m ++ cat i F) li) := haf
    clear haf
    by_cases him : i < m
    · have him' : (i : Int) < (m : Int) := by omega
      obtain ⟨pb, po, rfl, hpb, hat⟩ := HP.out (by omega)
      have h6a := (hat i him).later hpb (hbw.mono hB)
      have d0 := h6a.c0
      have d1 := h6a.c1
      have d2 := h6a.c2
      have d3 := h6a.c3
      have d4 := h6a.c4
      have d5 := h6a.c5
      clear hat
      have hLi := (HR.out i him).later (hbw.mono hB)
      have hsz := htw.size
      go_wp2_with fail
      have hbx : Below wr.heap.size wr (wr.alloc (.cells #[.int .i64 (f i).k, .bool (f i).b, .int .i64 (f i).n, .string (f i).s, .slice (A i).pa (f i).m (A i).pc, .slice (A i).na (f i).q (A i).nc] 34)) := (Below.refl _ wr).alloc (Nat.le_refl _) _
      have hpart := fresh_row wr #[.int .i64 (f i).k, .bool (f i).b, .int .i64 (f i).n, .string (f i).s, .slice (A i).pa (f i).m (A i).pc, .slice (A i).na (f i).q (A i).nc] 34
      obtain ⟨w3, hw3⟩ : ∃ w3, wr.alloc (.cells #[.int .i64 (f i).k, .bool (f i).b, .int .i64 (f i).n, .string (f i).s, .slice (A i).pa (f i).m (A i).pc, .slice (A i).na (f i).q (A i).nc] 34) = w3 := ⟨_, rfl⟩
      rw [hw3] at hbx hpart ⊢
      clear hw3
      have hrow3 := (hbx.block _ (lt_of_row hrow)).trans hrow
      have hbw3 : Below b w w3 := hbw.trans (hbx.mono (by omega))
      have htw3 : Tame w w3 := htw.trans (Tame.ofBelow hbx)
      refine (b_len b li _ (hbli.later hbx)).mono ?_
      rintro e w3 ⟨rfl, rfl⟩
      by_cases hbig : 1024 < li.length
      · have hbig' : (1024 : Int) < (li.length : Int) := by omega
        go_wp2
        refine bodyPost_ret (v := .tuple #[]) (by simp [results, Tryz.results97, go_sem]) rfl ?_
        obtain ⟨y, hy⟩ := cat_more F (show i ≤ m by omega)
        refine ⟨rfl, ⟨li, hbli.later hbx, ?_, hli⟩, hbw3, htw3⟩
        rw [hy, ← List.append_assoc]
        exact HA.out.over hbig
      · have hbig' : (li.length : Int) ≤ 1024 := by omega
        have HX : Hid (li = l ++ (put m ++ cat i F)) := HA.out.exact (by omega)
        have e0 := cell_of_row w3 _ 0 _ _ _ hrow3
        have e5 := cell_of_row w3 _ 5 _ _ _ hrow3
        have p0 := cell_of_row w3 _ 0 _ _ _ hpart
        have p1 := cell_of_row w3 _ 1 _ _ _ hpart
        have p2 := cell_of_row w3 _ 2 _ _ _ hpart
        have p3 := cell_of_row w3 _ 3 _ _ _ hpart
        have p4 := cell_of_row w3 _ 4 _ _ _ hpart
        have p5 := cell_of_row w3 _ 5 _ _ _ hpart
        have hqi : i < q := by have := HQ.out.1; omega
        have hgs := okN_size (HQ.out.2 i hqi)
        obtain ⟨nb, no, rfl, hnb, hng⟩ := HN.out.2.2.2 (by omega)
        have hnc := cell_later (hng i (by omega)) hnb (hbw3.mono hB)
        have hiq : (i : Int) < (q : Int) := by omega
        clear hng
        go_wp2_with fail
        refine (etext_any (g i) (by omega) _).mono ?_
        rintro e w4 ⟨rfl, hb4⟩
        go_wp2_with fail
        have htb := textB_size (g i) (by omega)
        refine (b_text b li (textB (g i)) _ ((hbli.later hbx).later hb4) (by omega) (by omega)).mono ?_
        rintro e w5 ⟨rfl, hbl5, hbb5, ht5⟩
        rw [textB_list] at hbl5
        have htl := textL_len (g i) (by omega)
        have hpart5 := ht5.block _ _ _ _ (by decide) (by decide) ((hb4.block _ (lt_of_row hpart)).trans hpart)
        have hrow5 := ht5.block _ _ _ _ (by decide) (by decide) ((hb4.block _ (lt_of_row hrow3)).trans hrow3)
        have hlt3 := lt_of_row hrow3
        have hbw5 : Below b w w5 := (hbw3.trans (hb4.mono (by omega))).trans hbb5
        have htw5 : Tame w w5 := (htw3.trans (Tame.ofBelow hb4)).trans ht5
        clear p0 p1 p2 p3 p4 p5
        have p0 := cell_of_row w5 _ 0 _ _ _ hpart5
        have p1 := cell_of_row w5 _ 1 _ _ _ hpart5
        have p2 := cell_of_row w5 _ 2 _ _ _ hpart5
        have p3 := cell_of_row w5 _ 3 _ _ _ hpart5
        have p4 := cell_of_row w5 _ 4 _ _ _ hpart5
        have p5 := cell_of_row w5 _ 5 _ _ _ hpart5
        have hLi5 := (HR.out i him).later (hbw5.mono hB)
        have hln : (li ++ textL (g i)).length ≤ 1100 := by rw [List.length_append]; omega
        go_wp2_with fail
        refine (HI.out i him B _ (A i) b (li ++ textL (g i)) hLi5 hB hbl5 hln).mono ?_
        rintro e w6 ⟨rfl, ⟨l6, hbl6, haf6, hl6⟩, hbb6, ht6⟩
        have hrow6 := ht6.block _ _ _ _ (by decide) (by decide) hrow5
        go_wp2
        go_roundw
        case rel =>
          refine ⟨i + 1, l6, by omega, by go_num, hbl6, ?_, hl6, hrow6, hbw5.trans hbb6, htw5.trans ht6⟩
          show Aft l (put m ++ (cat i F ++ F i)) l6
          rw [HX.out] at haf6
          rw [HF.out i, ← List.append_assoc]
          rw [if_pos (by trivial), ← List.append_assoc]
          rw [List.append_assoc l] at haf6
          exact haf6.on
        case measure => simp [intOf]; omega
    · obtain rfl : i = m := by omega
      go_wp2
      go_end0
      exact ⟨rfl, ⟨li, hbli, HA.out, hli⟩, hbw, htw⟩
end Go.Proofs.YtniljoojoafiaaaGreatDoor.V
