/- The parts of a sound value, behind others (putParts): of a list, and of a struct. A number's eight bytes (Number), of any number. A value's key, as a list of bytes (keyT); its number's bytes with the highest bit turned. -/
import Derived.Test.YtfcenidepkjdcaaDoorXah
import Derived.Test.YtfcenidepkjdcaaDoorXaf
import Derived.Test.YtfcenidepkjdcaaDoorXae
import Derived.Laws.Bits64
namespace Go.Proofs.YtfcenidepkjdcaaDoor.V
open Go.RowKit
set_option maxRecDepth 100000 in
theorem fresh_row (w : World) (cs : Array Value) (t : TypeId) : (w.alloc (.cells cs t)).heap[w.heap.size]? = some (.cells cs t (0, 0)) := heap_alloc_new _ _
set_option maxRecDepth 100000 in
set_option maxHeartbeats 4000000 in
theorem parts_5 {B : Nat} {w : World} {bo : Bool} {n : Int} {s : ByteArray} {m : Nat} {f : Nat → Tr} {q : Nat} {g : Nat → ByteArray} {x : Ad} {d : Int} {b : Nat} {l : List UInt8} (hS : SoundP 5 bo n s m f q g d)
    (ih : ∀ i, i < m → PutC (f i) (d + 1)) (hL : Lies B w (.mk 5 bo n s m f q g) x) (hB : B ≤ b) (hbl : Bld w b l) (hl : l.length ≤ 1101) :
    Calls Tryd.prog 78 #[.pointer (some ⟨b, 0, none⟩), (Tr.mk 5 bo n s m f q g).val x] w fun e w' => e = .returned (.tuple #[]) ∧ (∃ l', Bld w' b l' ∧ Aft l (put m ++ cat m (fun i => (if (5 : Int) = 6 then textL (g i) else []) ++ bytesT (f i))) l' ∧ l'.length ≤ 6100) ∧ Below b w w' ∧ Tame w w' := by
  obtain ⟨A, hp, hr⟩ := hL.part
  have hN := hL.lims.2.2.2.2
  replace hN : Names B w q g x.na x.nc := hN
  obtain ⟨pa, pc, na, nc⟩ := x
  have hV : (Tr.mk 5 bo n s m f q g).val ⟨pa, pc, na, nc⟩ = .agg #[.int .i64 5, .bool bo, .int .i64 n, .string s, .slice pa m pc, .slice na q nc] := rfl
  rw [hV]
  clear hV
  have h32 := hS.m32
  obtain ⟨F, hF⟩ : ∃ F : Nat → List UInt8, (fun i => (if (5 : Int) = 6 then textL (g i) else []) ++ bytesT (f i)) = F := ⟨_, rfl⟩
  rw [hF]
  have HF : Hid (∀ i, F i = (if (5 : Int) = 6 then textL (g i) else []) ++ bytesT (f i)) := fun i => by rw [← hF]
  clear hF
  have HI : Hid (∀ i, i < m → PutC (f i) (d + 1)) := ih
  have HP : Hid (0 < m → ∃ b o, pa = some ⟨b, o, none⟩ ∧ b < B ∧ ∀ i, i < m → At6 w b (o + i * 6) (f i) (A i)) := hp
  have HR : Hid (∀ i, i < m → Lies B w (f i) (A i)) := hr
  have HN : Hid (Names B w q g na nc) := hN
  clear ih hp hr hN
  have hpu := fun W => put_any m (by omega) W
  have hpl := put_len10 (n := m) (by omega)
  obtain ⟨u, hu⟩ : ∃ u : ByteArray, (⟨(put m).toArray⟩ : ByteArray) = u := ⟨_, rfl⟩
  have HU : Hid (u.data.toList = put m) := by show _ = _; rw [← hu]
  have hus : u.size ≤ 10 := by rw [Lib.size_eq, HU.out]; omega
  rw [hu] at hpu
  clear hu
  have hw : IntKind.u64.wrap (m : Int) = (m : Int) := by rw [IntKind.wrap_u64]; omega
  have hb0 := hbl.lt
  go_enter Tryd.func78, Tryd.ntmps78
  go_wp2_with fail
  refine (hpu _).mono ?_
  rintro e w1 ⟨rfl, hb1⟩
  have hrow := (hb1.block w.heap.size (by simp)).trans (fresh_row w #[.int .i64 5, .bool bo, .int .i64 n, .string s, .slice pa m pc, .slice na q nc] 29)
  have hbel : Below w.heap.size w w1 := ((Below.refl _ w).alloc (Nat.le_refl _) _).trans (hb1.mono (by simp))
  go_wp2_with fail
  refine (b_text b l u _ (hbl.later hbel) (by omega) (by omega)).mono ?_
  rintro e w2 ⟨rfl, hbl2, hbb2, ht2⟩
  replace hrow := ht2.block _ _ _ _ (by decide) (by decide) hrow
  replace hbb2 : Below b w w2 := (hbel.mono (by omega)).trans hbb2
  replace ht2 : Tame w w2 := (Tame.ofBelow hbel).trans ht2
  rw [HU.out] at hbl2
  clear hb1 hbel
  have c4 := cell_of_row w2 _ 4 _ _ _ hrow
  go_wp2_with fail
  go_loopw [16] (fun c16 wr => ∃ (i : Nat) (li : List UInt8), i ≤ m ∧ c16 = .int .i64 (i : Int) ∧ Bld wr b li ∧ Aft l (put m ++ cat i F) li ∧ li.length ≤ 6100 ∧ wr.heap[w.heap.size]? = some (.cells #[.int .i64 5, .bool bo, .int .i64 n, .string s, .slice pa m pc, .slice na q nc] 29 (0, 0)) ∧ Below b w wr ∧ Tame w wr) (fun c16 _ => m - (intOf c16).toNat)
  case atStart => exact ⟨0, l ++ put m, by omega, rfl, hbl2, by rw [show cat 0 F = [] from rfl, List.append_nil]; exact Aft.all _ _, by simp; omega, hrow, hbb2, ht2⟩
  case round =>
    clear c4 hrow hbl2 hbb2 ht2
    obtain ⟨i, li, hi, rfl, hbli, haf, hli, hrow, hbw, htw⟩ := hrel
    have HA : Hid (Aft l (put m ++ cat i F) li) := haf
    clear haf
    by_cases him : i < m
    · have him' : (i : Int) < (m : Int) := by omega
      obtain ⟨pb, po, rfl, hpb, hat⟩ := HP.out (by omega)
      have h6a := (hat i him).later hpb (hbw.mono hB)
      have d0 := h6a.c0
      have d1 := h6a.c1
      have d2 := h6a.c2
      have d3 := h6a.c3
      have d4 := h6a.c4
      have d5 := h6a.c5
      clear hat
      have hLi := (HR.out i him).later (hbw.mono hB)
      have hsz := htw.size
      go_wp2_with fail
      have hbx : Below wr.heap.size wr (wr.alloc (.cells #[.int .i64 (f i).k, .bool (f i).b, .int .i64 (f i).n, .string (f i).s, .slice (A i).pa (f i).m (A i).pc, .slice (A i).na (f i).q (A i).nc] 29)) := (Below.refl _ wr).alloc (Nat.le_refl _) _
      have hpart := fresh_row wr #[.int .i64 (f i).k, .bool (f i).b, .int .i64 (f i).n, .string (f i).s, .slice (A i).pa (f i).m (A i).pc, .slice (A i).na (f i).q (A i).nc] 29
      obtain ⟨w3, hw3⟩ : ∃ w3, wr.alloc (.cells #[.int .i64 (f i).k, .bool (f i).b, .int .i64 (f i).n, .string (f i).s, .slice (A i).pa (f i).m (A i).pc, .slice (A i).na (f i).q (A i).nc] 29) = w3 := ⟨_, rfl⟩
      rw [hw3] at hbx hpart ⊢
      clear hw3
      have hrow3 := (hbx.block _ (lt_of_row hrow)).trans hrow
      have hbw3 : Below b w w3 := hbw.trans (hbx.mono (by omega))
      have htw3 : Tame w w3 := htw.trans (Tame.ofBelow hbx)
      refine (b_len b li _ (hbli.later hbx)).mono ?_
      rintro e w3 ⟨rfl, rfl⟩
      by_cases hbig : 1024 < li.length
      · have hbig' : (1024 : Int) < (li.length : Int) := by omega
        go_wp2
        refine bodyPost_ret (v := .tuple #[]) (by simp [results, Tryd.results78, go_sem]) rfl ?_
        obtain ⟨y, hy⟩ := cat_more F (show i ≤ m by omega)
        refine ⟨rfl, ⟨li, hbli.later hbx, ?_, hli⟩, hbw3, htw3⟩
        rw [hy, ← List.append_assoc]
        exact HA.out.over hbig
      · have hbig' : (li.length : Int) ≤ 1024 := by omega
        have HX : Hid (li = l ++ (put m ++ cat i F)) := HA.out.exact (by omega)
        have e0 := cell_of_row w3 _ 0 _ _ _ hrow3
        have e5 := cell_of_row w3 _ 5 _ _ _ hrow3
        have p0 := cell_of_row w3 _ 0 _ _ _ hpart
        have p1 := cell_of_row w3 _ 1 _ _ _ hpart
        have p2 := cell_of_row w3 _ 2 _ _ _ hpart
        have p3 := cell_of_row w3 _ 3 _ _ _ hpart
        have p4 := cell_of_row w3 _ 4 _ _ _ hpart
        have p5 := cell_of_row w3 _ 5 _ _ _ hpart
        have hbl5 := hbli.later hbx
        have hLi5 := hLi.later (hbx.mono (by omega))
        have hln : li.length ≤ 1100 := by omega
        have hrow5 := hrow3
        have hbw5 := hbw3
        have htw5 := htw3
        go_wp2_with fail
        refine (HI.out i him B _ (A i) b li hLi5 hB hbl5 hln).mono ?_
        rintro e w6 ⟨rfl, ⟨l6, hbl6, haf6, hl6⟩, hbb6, ht6⟩
        have hrow6 := ht6.block _ _ _ _ (by decide) (by decide) hrow5
        go_wp2
        go_roundw
        case rel =>
          refine ⟨i + 1, l6, by omega, by go_num, hbl6, ?_, hl6, hrow6, hbw5.trans hbb6, htw5.trans ht6⟩
          show Aft l (put m ++ (cat i F ++ F i)) l6
          rw [HX.out] at haf6
          rw [HF.out i, ← List.append_assoc]
          rw [if_neg (by decide), List.nil_append]
          exact haf6.on
        case measure => simp [intOf]; omega
    · obtain rfl : i = m := by omega
      go_wp2
      go_end0
      exact ⟨rfl, ⟨li, hbli, HA.out, hli⟩, hbw, htw⟩
set_option maxRecDepth 100000 in
set_option maxHeartbeats 4000000 in
theorem parts_6 {B : Nat} {w : World} {bo : Bool} {n : Int} {s : ByteArray} {m : Nat} {f : Nat → Tr} {q : Nat} {g : Nat → ByteArray} {x : Ad} {d : Int} {b : Nat} {l : List UInt8} (hS : SoundP 6 bo n s m f q g d)
    (ih : ∀ i, i < m → PutC (f i) (d + 1)) (hL : Lies B w (.mk 6 bo n s m f q g) x) (hB : B ≤ b) (hbl : Bld w b l) (hl : l.length ≤ 1101) :
    Calls Tryd.prog 78 #[.pointer (some ⟨b, 0, none⟩), (Tr.mk 6 bo n s m f q g).val x] w fun e w' => e = .returned (.tuple #[]) ∧ (∃ l', Bld w' b l' ∧ Aft l (put m ++ cat m (fun i => (if (6 : Int) = 6 then textL (g i) else []) ++ bytesT (f i))) l' ∧ l'.length ≤ 6100) ∧ Below b w w' ∧ Tame w w' := by
  obtain ⟨A, hp, hr⟩ := hL.part
  have hN := hL.lims.2.2.2.2
  replace hN : Names B w q g x.na x.nc := hN
  obtain ⟨pa, pc, na, nc⟩ := x
  have hV : (Tr.mk 6 bo n s m f q g).val ⟨pa, pc, na, nc⟩ = .agg #[.int .i64 6, .bool bo, .int .i64 n, .string s, .slice pa m pc, .slice na q nc] := rfl
  rw [hV]
  clear hV
  have h32 := hS.m32
  have HQ : Hid (q = m ∧ ∀ i, i < q → okN g i = true) := hS.nm rfl
  obtain ⟨F, hF⟩ : ∃ F : Nat → List UInt8, (fun i => (if (6 : Int) = 6 then textL (g i) else []) ++ bytesT (f i)) = F := ⟨_, rfl⟩
  rw [hF]
  have HF : Hid (∀ i, F i = (if (6 : Int) = 6 then textL (g i) else []) ++ bytesT (f i)) := fun i => by rw [← hF]
  clear hF
  have HI : Hid (∀ i, i < m → PutC (f i) (d + 1)) := ih
  have HP : Hid (0 < m → ∃ b o, pa = some ⟨b, o, none⟩ ∧ b < B ∧ ∀ i, i < m → At6 w b (o + i * 6) (f i) (A i)) := hp
  have HR : Hid (∀ i, i < m → Lies B w (f i) (A i)) := hr
  have HN : Hid (Names B w q g na nc) := hN
  clear ih hp hr hN
  have hpu := fun W => put_any m (by omega) W
  have hpl := put_len10 (n := m) (by omega)
  obtain ⟨u, hu⟩ : ∃ u : ByteArray, (⟨(put m).toArray⟩ : ByteArray) = u := ⟨_, rfl⟩
  have HU : Hid (u.data.toList = put m) := by show _ = _; rw [← hu]
  have hus : u.size ≤ 10 := by rw [Lib.size_eq, HU.out]; omega
  rw [hu] at hpu
  clear hu
  have hw : IntKind.u64.wrap (m : Int) = (m : Int) := by rw [IntKind.wrap_u64]; omega
  have hb0 := hbl.lt
  go_enter Tryd.func78, Tryd.ntmps78
  go_wp2_with fail
  refine (hpu _).mono ?_
  rintro e w1 ⟨rfl, hb1⟩
  have hrow := (hb1.block w.heap.size (by simp)).trans (fresh_row w #[.int .i64 6, .bool bo, .int .i64 n, .string s, .slice pa m pc, .slice na q nc] 29)
  have hbel : Below w.heap.size w w1 := ((Below.refl _ w).alloc (Nat.le_refl _) _).trans (hb1.mono (by simp))
  go_wp2_with fail
  refine (b_text b l u _ (hbl.later hbel) (by omega) (by omega)).mono ?_
  rintro e w2 ⟨rfl, hbl2, hbb2, ht2⟩
  replace hrow := ht2.block _ _ _ _ (by decide) (by decide) hrow
  replace hbb2 : Below b w w2 := (hbel.mono (by omega)).trans hbb2
  replace ht2 : Tame w w2 := (Tame.ofBelow hbel).trans ht2
  rw [HU.out] at hbl2
  clear hb1 hbel
  have c4 := cell_of_row w2 _ 4 _ _ _ hrow
  go_wp2_with fail
  go_loopw [16] (fun c16 wr => ∃ (i : Nat) (li : List UInt8), i ≤ m ∧ c16 = .int .i64 (i : Int) ∧ Bld wr b li ∧ Aft l (put m ++ cat i F) li ∧ li.length ≤ 6100 ∧ wr.heap[w.heap.size]? = some (.cells #[.int .i64 6, .bool bo, .int .i64 n, .string s, .slice pa m pc, .slice na q nc] 29 (0, 0)) ∧ Below b w wr ∧ Tame w wr) (fun c16 _ => m - (intOf c16).toNat)
  case atStart => exact ⟨0, l ++ put m, by omega, rfl, hbl2, by rw [show cat 0 F = [] from rfl, List.append_nil]; exact Aft.all _ _, by simp; omega, hrow, hbb2, ht2⟩
  case round =>
    clear c4 hrow hbl2 hbb2 ht2
    obtain ⟨i, li, hi, rfl, hbli, haf, hli, hrow, hbw, htw⟩ := hrel
    have HA : Hid (Aft l (put m ++ cat i F) li) := haf
    clear haf
    by_cases him : i < m
    · have him' : (i : Int) < (m : Int) := by omega
      obtain ⟨pb, po, rfl, hpb, hat⟩ := HP.out (by omega)
      have h6a := (hat i him).later hpb (hbw.mono hB)
      have d0 := h6a.c0
      have d1 := h6a.c1
      have d2 := h6a.c2
      have d3 := h6a.c3
      have d4 := h6a.c4
      have d5 := h6a.c5
      clear hat
      have hLi := (HR.out i him).later (hbw.mono hB)
      have hsz := htw.size
      go_wp2_with fail
      have hbx : Below wr.heap.size wr (wr.alloc (.cells #[.int .i64 (f i).k, .bool (f i).b, .int .i64 (f i).n, .string (f i).s, .slice (A i).pa (f i).m (A i).pc, .slice (A i).na (f i).q (A i).nc] 29)) := (Below.refl _ wr).alloc (Nat.le_refl _) _
      have hpart := fresh_row wr #[.int .i64 (f i).k, .bool (f i).b, .int .i64 (f i).n, .string (f i).s, .slice (A i).pa (f i).m (A i).pc, .slice (A i).na (f i).q (A i).nc] 29
      obtain ⟨w3, hw3⟩ : ∃ w3, wr.alloc (.cells #[.int .i64 (f i).k, .bool (f i).b, .int .i64 (f i).n, .string (f i).s, .slice (A i).pa (f i).m (A i).pc, .slice (A i).na (f i).q (A i).nc] 29) = w3 := ⟨_, rfl⟩
      rw [hw3] at hbx hpart ⊢
      clear hw3
      have hrow3 := (hbx.block _ (lt_of_row hrow)).trans hrow
      have hbw3 : Below b w w3 := hbw.trans (hbx.mono (by omega))
      have htw3 : Tame w w3 := htw.trans (Tame.ofBelow hbx)
      refine (b_len b li _ (hbli.later hbx)).mono ?_
      rintro e w3 ⟨rfl, rfl⟩
      by_cases hbig : 1024 < li.length
      · have hbig' : (1024 : Int) < (li.length : Int) := by omega
        go_wp2
        refine bodyPost_ret (v := .tuple #[]) (by simp [results, Tryd.results78, go_sem]) rfl ?_
        obtain ⟨y, hy⟩ := cat_more F (show i ≤ m by omega)
        refine ⟨rfl, ⟨li, hbli.later hbx, ?_, hli⟩, hbw3, htw3⟩
        rw [hy, ← List.append_assoc]
        exact HA.out.over hbig
      · have hbig' : (li.length : Int) ≤ 1024 := by omega
        have HX : Hid (li = l ++ (put m ++ cat i F)) := HA.out.exact (by omega)
        have e0 := cell_of_row w3 _ 0 _ _ _ hrow3
        have e5 := cell_of_row w3 _ 5 _ _ _ hrow3
        have p0 := cell_of_row w3 _ 0 _ _ _ hpart
        have p1 := cell_of_row w3 _ 1 _ _ _ hpart
        have p2 := cell_of_row w3 _ 2 _ _ _ hpart
        have p3 := cell_of_row w3 _ 3 _ _ _ hpart
        have p4 := cell_of_row w3 _ 4 _ _ _ hpart
        have p5 := cell_of_row w3 _ 5 _ _ _ hpart
        have hqi : i < q := by have := HQ.out.1; omega
        have hgs := okN_size (HQ.out.2 i hqi)
        obtain ⟨nb, no, rfl, hnb, hng⟩ := HN.out.2.2.2 (by omega)
        have hnc := cell_later (hng i (by omega)) hnb (hbw3.mono hB)
        have hiq : (i : Int) < (q : Int) := by omega
        clear hng
        go_wp2_with fail
        refine (etext_any (g i) (by omega) _).mono ?_
        rintro e w4 ⟨rfl, hb4⟩
        go_wp2_with fail
        have htb := textB_size (g i) (by omega)
        refine (b_text b li (textB (g i)) _ ((hbli.later hbx).later hb4) (by omega) (by omega)).mono ?_
        rintro e w5 ⟨rfl, hbl5, hbb5, ht5⟩
        rw [textB_list] at hbl5
        have htl := textL_len (g i) (by omega)
        have hpart5 := ht5.block _ _ _ _ (by decide) (by decide) ((hb4.block _ (lt_of_row hpart)).trans hpart)
        have hrow5 := ht5.block _ _ _ _ (by decide) (by decide) ((hb4.block _ (lt_of_row hrow3)).trans hrow3)
        have hlt3 := lt_of_row hrow3
        have hbw5 : Below b w w5 := (hbw3.trans (hb4.mono (by omega))).trans hbb5
        have htw5 : Tame w w5 := (htw3.trans (Tame.ofBelow hb4)).trans ht5
        clear p0 p1 p2 p3 p4 p5
        have p0 := cell_of_row w5 _ 0 _ _ _ hpart5
        have p1 := cell_of_row w5 _ 1 _ _ _ hpart5
        have p2 := cell_of_row w5 _ 2 _ _ _ hpart5
        have p3 := cell_of_row w5 _ 3 _ _ _ hpart5
        have p4 := cell_of_row w5 _ 4 _ _ _ hpart5
        have p5 := cell_of_row w5 _ 5 _ _ _ hpart5
        have hLi5 := (HR.out i him).later (hbw5.mono hB)
        have hln : (li ++ textL (g i)).length ≤ 1100 := by rw [List.length_append]; omega
        go_wp2_with fail
        refine (HI.out i him B _ (A i) b (li ++ textL (g i)) hLi5 hB hbl5 hln).mono ?_
        rintro e w6 ⟨rfl, ⟨l6, hbl6, haf6, hl6⟩, hbb6, ht6⟩
        have hrow6 := ht6.block _ _ _ _ (by decide) (by decide) hrow5
        go_wp2
        go_roundw
        case rel =>
          refine ⟨i + 1, l6, by omega, by go_num, hbl6, ?_, hl6, hrow6, hbw5.trans hbb6, htw5.trans ht6⟩
          show Aft l (put m ++ (cat i F ++ F i)) l6
          rw [HX.out] at haf6
          rw [HF.out i, ← List.append_assoc]
          rw [if_pos (by trivial), ← List.append_assoc]
          rw [List.append_assoc l] at haf6
          exact haf6.on
        case measure => simp [intOf]; omega
    · obtain rfl : i = m := by omega
      go_wp2
      go_end0
      exact ⟨rfl, ⟨li, hbli, HA.out, hli⟩, hbw, htw⟩
end Go.Proofs.YtfcenidepkjdcaaDoor.V
namespace Go.Proofs.YtfcenidepkjdcaaDoor.V
open Go.RowKit
def be8 (n : Nat) : List UInt8 := (List.range 8).map fun i => UInt8.ofNat (n / 2 ^ (56 - 8 * i))
set_option maxRecDepth 100000 in
theorem be8_len (n : Nat) : (be8 n).length = 8 := by simp [be8]
set_option maxRecDepth 100000 in
theorem be8_take (n i : Nat) (h : i < 8) : (be8 n).take (i + 1) = (be8 n).take i ++ [UInt8.ofNat (n / 2 ^ (56 - 8 * i))] := by
  rw [List.take_succ_eq_append_getElem (by rw [be8_len]; exact h)]
  simp [be8]
set_option maxRecDepth 100000 in
theorem zero8 : (#[Value.int IntKind.u8 0, Value.int IntKind.u8 0, Value.int IntKind.u8 0, Value.int IntKind.u8 0, Value.int IntKind.u8 0, Value.int IntKind.u8 0, Value.int IntKind.u8 0, Value.int IntKind.u8 0] : Array Value) = bcs (padz 8 []) := rfl
set_option maxRecDepth 100000 in
theorem slice8 (g : Nat) (W : World) : (Instr.sliceAt 113 (.pointer (some ⟨g, 0, none⟩)) none none none).run Tryd.prog W = .ok (.slice (some ⟨g, 0, none⟩) 8 8) W := by
  have e8 : Tryd.prog.arrayLen 113 = 8 := by kernel_rfl
  have hs : (sizeOf (Tryd.prog.elem 113)).run Tryd.prog W = .ok 1 W := by kernel_rfl
  rw [run_sliceAt_array_all W 113 ⟨g, 0, none⟩ (by kernel_rfl), hs, e8]
  rfl
set_option maxRecDepth 100000 in
theorem conv8 {W : World} {g : Nat} {P : List UInt8} (H : W.heap[g]? = some (.cells (bcs P) 113 (0, 0))) (hP : P.length = 8) :
    (convert 88 9 (.slice (some ⟨g, 0, none⟩) 8 8)).run Tryd.prog W = .ok (.string ⟨P.toArray⟩) W := by
  rw [← hP]
  refine run_convert_bytes_back (P := Tryd.prog) W 88 9 5 ⟨g, 0, none⟩ P.length P Tryd.underlying88 Tryd.underlying5 Tryd.underlying9 (fun j hj => ?_)
  have e : (⟨g, 0, none⟩ : Addr).add j = ⟨g, j, none⟩ := by unfold Addr.add; split <;> simp_all
  rw [e, brow_cell H j (by omega), List.getD_eq_getElem?_getD, List.getElem?_eq_getElem hj]
  rfl
set_option maxRecDepth 100000 in
theorem byte_at (n c : Nat) : IntKind.u8.wrap ((n : Int) / 2 ^ c) = ((UInt8.ofNat (n / 2 ^ c)).toNat : Int) := by
  rw [IntKind.wrap_u8']
  simp
set_option maxRecDepth 20000 in
set_option maxHeartbeats 1000000 in
theorem number_any (n : Nat) (_hn : n < 18446744073709551616) (w : World) :
    Calls Tryd.prog 70 #[.int .u64 (n : Int)] w fun e w' => e = .returned (.string ⟨(be8 n).toArray⟩) ∧ Below w.heap.size w w' := by
  go_enter Tryd.func70, Tryd.ntmps70
  go_wp2
  rw [zero8]
  go_loopw [5] (fun c5 wr => ∃ (i : Nat), i ≤ 8 ∧ c5 = .int .i64 (i : Int) ∧ wr.heap[w.heap.size]? = some (.cells (bcs (padz 8 ((be8 n).take i))) 113 (0, 0)) ∧ Below w.heap.size w wr) (fun c5 _ => 8 - (intOf c5).toNat)
  case atStart =>
    exact ⟨0, by omega, rfl, heap_alloc_new _ _, (Below.refl _ _).alloc (Nat.le_refl _) _⟩
  case round =>
    obtain ⟨i, hi, rfl, hh, hb⟩ := hrel
    by_cases h8 : i < 8
    · have h8' : (i : Int) < 8 := by omega
      obtain ⟨P, hP⟩ : ∃ P, (be8 n).take i = P := ⟨_, rfl⟩
      have HP : Hid ((be8 n).take (i + 1) = P ++ [UInt8.ofNat (n / 2 ^ (56 - 8 * i))]) := by show _ = _; rw [be8_take n i h8, hP]
      rw [hP] at hh
      have hPl : P.length = i := by rw [← hP, List.length_take, be8_len]; omega
      clear hP
      have hpl := padz_len 8 P (by omega)
      have hc := brow_cell hh i (by omega)
      have hf := frozen_of_row wr _ i _ _ hh
      obtain ⟨v, hv⟩ : ∃ v : Int, (((padz 8 P).getD i 0).toNat : Int) = v := ⟨_, rfl⟩
      rw [hv] at hc
      clear hv hpl
      have h1 : IntKind.i64.wrap (8 * (i : Int)) = 8 * (i : Int) := by rw [IntKind.wrap_i64]; omega
      have h2 : IntKind.i64.wrap (56 - 8 * (i : Int)) = ((56 - 8 * i : Nat) : Int) := by rw [IntKind.wrap_i64]; omega
      go_wp2
      go_roundw
      case rel =>
        refine ⟨i + 1, by omega, by go_num, ?_, hb.setCell (by simp) _⟩
        rw [HP.out, brow_set hh i (UInt8.ofNat (n / 2 ^ (56 - 8 * i))) _ (by rw [← byte_at, IntKind.wrap_u8']), padz_set 8 P _ i hPl.symm (by omega)]
      case measure => simp [intOf]; omega
    · obtain rfl : i = 8 := by omega
      have hsl := slice8 w.heap.size
      have hcv := conv8 hh (by rw [padz_len _ _ (by simp [be8_len])])
      go_wp2
      go_ret
      have hfull : padz 8 ((be8 n).take 8) = be8 n := by
        rw [List.take_of_length_le (by rw [be8_len]; omega)]
        unfold padz
        rw [be8_len]
        simp
      rw [hfull]
      exact ⟨rfl, hb⟩
end Go.Proofs.YtfcenidepkjdcaaDoor.V
namespace Go.Proofs.YtfcenidepkjdcaaDoor.V
open Go.RowKit
def escL : List UInt8 → List UInt8
  | [] => []
  | c :: r => c :: (if c = 0 then 255 :: escL r else escL r)
def ktextL (s : ByteArray) : List UInt8 := escL s.data.toList ++ [0, 1]
def turnN (n : Int) : Nat := (n + 9223372036854775808).toNat
def keyT : Tr → List UInt8
  | .no => [0]
  | .mk k b n s m f _ g =>
    UInt8.ofNat k.toNat :: (if k = 1 then [if b then 1 else 0] else if k = 2 then be8 (turnN n) else if k = 3 ∨ k = 4 then ktextL s
      else if k = 5 ∨ k = 6 then cat m (fun i => 1 :: ((if k = 6 then ktextL (g i) else []) ++ keyT (f i))) ++ [0] else [])
set_option maxRecDepth 100000 in
theorem turnN_lt {n : Int} (h1 : n < 9223372036854775808) : turnN n < 18446744073709551616 := by unfold turnN; omega
set_option maxRecDepth 100000 in
theorem xor63 (m : Nat) (h : m < 18446744073709551616) : m ^^^ 9223372036854775808 = if m < 9223372036854775808 then m + 9223372036854775808 else m - 9223372036854775808 := by
  have low : ∀ a, a < 2 ^ 63 → a ^^^ 2 ^ 63 = 2 ^ 63 + a := by
    intro a ha
    apply Nat.eq_of_testBit_eq
    intro i
    rw [Nat.testBit_xor, Nat.testBit_two_pow]
    rcases Nat.lt_trichotomy i 63 with k | k | k
    · rw [Nat.testBit_two_pow_add_gt k, decide_eq_false (by omega), Bool.xor_false]
    · subst k
      rw [Nat.testBit_two_pow_add_eq]
      simp
    · have hp : 2 ^ 64 ≤ 2 ^ i := Nat.pow_le_pow_right (by omega) k
      rw [Nat.testBit_lt_two_pow (show a < 2 ^ i by omega), Nat.testBit_lt_two_pow (show 2 ^ 63 + a < 2 ^ i by omega), decide_eq_false (by omega)]
      rfl
  split
  · rename_i k
    have := low m (by omega)
    rw [show (2 : Nat) ^ 63 = 9223372036854775808 by decide] at this
    omega
  · rename_i k
    have := low (m - 9223372036854775808) (by omega)
    rw [show (2 : Nat) ^ 63 = 9223372036854775808 by decide] at this
    have e : m = (m - 9223372036854775808) ^^^ 9223372036854775808 := by omega
    rw [e, Nat.xor_assoc, Nat.xor_self, Nat.xor_zero]
    omega
set_option maxRecDepth 100000 in
theorem turn_bits {n : Int} (h0 : -9223372036854775808 ≤ n) (h1 : n < 9223372036854775808) : bits BinOp.xor IntKind.u64 (IntKind.u64.wrap n) 9223372036854775808 = (turnN n : Int) := by
  have e : IntKind.u64.wrap n = (((n % 18446744073709551616).toNat : Nat) : Int) := by rw [IntKind.wrap_u64]; omega
  have e2 : (9223372036854775808 : Int) = ((9223372036854775808 : Nat) : Int) := rfl
  rw [e, e2, bits_xor_u64_nat _ _ (by omega) (by omega), xor63 _ (by omega)]
  unfold turnN
  split <;> omega
def KputC (t : Tr) : Prop := ∀ (B : Nat) (w : World) (x : Ad) (b : Nat) (l : List UInt8), Lies B w t x → B ≤ b → Bld w b l → l.length + (keyT t).length ≤ 900000 →
    Calls Tryd.prog 54 #[.pointer (some ⟨b, 0, none⟩), t.val x] w fun e w' => e = .returned (.tuple #[]) ∧ Bld w' b (l ++ keyT t) ∧ Below b w w' ∧ Tame w w'
end Go.Proofs.YtfcenidepkjdcaaDoor.V
