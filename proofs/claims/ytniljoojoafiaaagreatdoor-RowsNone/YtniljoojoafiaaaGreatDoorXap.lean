/- A value that has no part of a name (value.Get): None. The part of a name of any value (value.Get). A sound value's bytes behind others (put, putParts): all of them, or more than may be. -/
import Derived.Test.YtniljoojoafiaaaGreatDoorXah
import Derived.Test.YtniljoojoafiaaaGreatDoorXao
import Derived.Test.YtniljoojoafiaaaGreatDoorXak
import Derived.Test.YtniljoojoafiaaaGreatDoorXan
namespace Go.Proofs.YtniljoojoafiaaaGreatDoor
open Go.RowKit Go.Shelf
attribute [local go_sem] Oper.semAt_some
def noneA : Array Value := #[.int .i64 0, .bool false, .int .i64 0, .string ⟨#[]⟩, .slice none 0 0, .slice none 0 0]
theorem none_call (w : World) : Calls Tryz.prog 83 #[] w fun r w' => r = .returned (.agg noneA) ∧ Below w.heap.size w w' := V.vnone w
set_option maxRecDepth 100000 in
set_option maxHeartbeats 4000000 in
theorem get_kind {w : World} (t : V.Tr) (x : V.Ad) (name : ByteArray) (hk : t.k ≠ 6) :
    Calls Tryz.prog 55 #[t.val x, .string name] w fun e w' => e = .returned (.agg noneA) ∧ Below w.heap.size w w' := by
  show Calls Tryz.prog 55 #[.agg #[.int .i64 t.k, .bool t.b, .int .i64 t.n, .string t.s, .slice x.pa t.m x.pc, .slice x.na t.q x.nc], .string name] w _
  obtain ⟨W3, hW3⟩ : ∃ W3, ((w.alloc (.cells #[.int .i64 t.k, .bool t.b, .int .i64 t.n, .string t.s, .slice x.pa t.m x.pc, .slice x.na t.q x.nc] 34)).alloc (.cells #[.string name] 9)).alloc (.cells #[.int .i64 0, .bool false, .int .i64 0, .string ⟨#[]⟩, .slice none 0 0, .slice none 0 0] 34) = W3 := ⟨_, rfl⟩
  have hb3 : Below w.heap.size w W3 := by rw [← hW3]; exact (((Below.refl _ w).alloc (Nat.le_refl _) _).alloc (by simp) _).alloc (by simp; omega) _
  have hs3 : W3.heap.size = w.heap.size + 1 + 1 + 1 := by rw [← hW3]; simp
  have r2 : W3.heap[w.heap.size + 1 + 1]? = some (.cells noneA 34 (0, 0)) := by
    rw [← hW3]
    have := heap_alloc_new ((w.alloc (.cells #[.int .i64 t.k, .bool t.b, .int .i64 t.n, .string t.s, .slice x.pa t.m x.pc, .slice x.na t.q x.nc] 34)).alloc (.cells #[.string name] 9)) (.cells #[.int .i64 0, .bool false, .int .i64 0, .string ⟨#[]⟩, .slice none 0 0, .slice none 0 0] 34)
    simpa [noneA] using this
  have HW : Hid (((w.alloc (.cells #[.int .i64 t.k, .bool t.b, .int .i64 t.n, .string t.s, .slice x.pa t.m x.pc, .slice x.na t.q x.nc] 34)).alloc (.cells #[.string name] 9)).alloc (.cells #[.int .i64 0, .bool false, .int .i64 0, .string ⟨#[]⟩, .slice none 0 0, .slice none 0 0] 34) = W3) := hW3
  clear hW3
  go_enter Tryz.func55, Tryz.ntmps55
  go_wp2_with fail
  rw [HW.out]
  refine (none_call W3).mono ?_
  rintro e w1 ⟨rfl, hb1⟩
  have q2 := (hb1.block _ (by omega)).trans r2
  have hbb : Below w.heap.size w w1 := hb3.trans (hb1.mono (by omega))
  have HN : Hid (w1.heap[w.heap.size + 1 + 1]? = some (.cells noneA 34 (0, 0)) ∧ Below w.heap.size w w1) := ⟨q2, hbb⟩
  clear q2 hbb hb1 r2 hb3 hs3 HW
  go_wp2_with (first | (refine wpList_put rfl 34 (.tmp 4) (.tmp 9) rfl rfl rfl rfl HN.out.1 rfl info34 (by simp [noneA, Value.oneCell']) ?_) | fail)
  exact bodyPost_ret (results_cell_row Tryz.results55 _ _ (w.heap.size + 1 + 1) 34 _ (0, 0) _ rfl (put_row _ HN.out.1 rfl) Tryz.underlying34 rfl info34) rfl ⟨rfl, put_below HN.out.2 _ (by omega) _⟩
set_option maxRecDepth 100000 in
set_option maxHeartbeats 4000000 in
theorem get_gone {B : Nat} {w : World} {b : Bool} {n : Int} {s : ByteArray} {m : Nat} {f : Nat → V.Tr} {q : Nat} {g : Nat → ByteArray} {x : V.Ad} (hL : V.Lies B w (.mk 6 b n s m f q g) x) (hB : B ≤ w.heap.size) (name : ByteArray) (i : Int) (hq : q ≤ 64) (him : i < 0 ∨ (m : Int) ≤ i)
    (hidx : Lib.idxBy (fun _ y => y.toList == name.toList) ((List.range q).map g) (default : ByteArray) = i) :
    Calls Tryz.prog 55 #[(V.Tr.mk 6 b n s m f q g).val x, .string name] w fun e w' => e = .returned (.agg noneA) ∧ Below w.heap.size w w' := by
  have hN := hL.lims
  replace hN : (-9223372036854775808 ≤ (6 : Int) ∧ (6 : Int) < 9223372036854775808) ∧ (-9223372036854775808 ≤ n ∧ n < 9223372036854775808) ∧ s.size ≤ maxLen ∧ (m ≤ x.pc ∧ x.pc ≤ maxLen) ∧ V.Names B w q g x.na x.nc := hN
  obtain ⟨_, _, _, hm, hq1, hq2, hq3, hq4⟩ := hN
  show Calls Tryz.prog 55 #[.agg #[.int .i64 6, .bool b, .int .i64 n, .string s, .slice x.pa m x.pc, .slice x.na q x.nc], .string name] w _
  obtain ⟨W3, hW3⟩ : ∃ W3, ((w.alloc (.cells #[.int .i64 6, .bool b, .int .i64 n, .string s, .slice x.pa m x.pc, .slice x.na q x.nc] 34)).alloc (.cells #[.string name] 9)).alloc (.cells #[.int .i64 0, .bool false, .int .i64 0, .string ⟨#[]⟩, .slice none 0 0, .slice none 0 0] 34) = W3 := ⟨_, rfl⟩
  have hb3 : Below w.heap.size w W3 := by rw [← hW3]; exact (((Below.refl _ w).alloc (Nat.le_refl _) _).alloc (by simp) _).alloc (by simp; omega) _
  have hs3 : W3.heap.size = w.heap.size + 1 + 1 + 1 := by rw [← hW3]; simp
  have r1 : W3.cell? ⟨w.heap.size + 1, 0, none⟩ = some (.string name) := by
    have h1 := heap_alloc_new (w.alloc (.cells #[.int .i64 6, .bool b, .int .i64 n, .string s, .slice x.pa m x.pc, .slice x.na q x.nc] 34)) (.cells #[.string name] 9)
    have h2 := Below.heap_alloc ((w.alloc (.cells #[.int .i64 6, .bool b, .int .i64 n, .string s, .slice x.pa m x.pc, .slice x.na q x.nc] 34)).alloc (.cells #[.string name] 9)) (.cells #[.int .i64 0, .bool false, .int .i64 0, .string ⟨#[]⟩, .slice none 0 0, .slice none 0 0] 34) (w.heap.size + 1) (by simp)
    rw [hW3] at h2
    exact cell_of_row W3 _ 0 _ _ _ (h2.trans (by simpa using h1))
  have r0 : W3.heap[w.heap.size]? = some (.cells #[.int .i64 6, .bool b, .int .i64 n, .string s, .slice x.pa m x.pc, .slice x.na q x.nc] 34 (0, 0)) := by
    rw [← hW3, Below.heap_alloc _ _ _ (by simp; omega), Below.heap_alloc _ _ _ (by simp)]
    exact heap_alloc_new _ _
  have r2 : W3.heap[w.heap.size + 1 + 1]? = some (.cells noneA 34 (0, 0)) := by
    rw [← hW3]
    have := heap_alloc_new ((w.alloc (.cells #[.int .i64 6, .bool b, .int .i64 n, .string s, .slice x.pa m x.pc, .slice x.na q x.nc] 34)).alloc (.cells #[.string name] 9)) (.cells #[.int .i64 0, .bool false, .int .i64 0, .string ⟨#[]⟩, .slice none 0 0, .slice none 0 0] 34)
    simpa [noneA] using this
  have hidx2 : Calls Tryz.prog 84 #[.slice x.na q x.nc, .func (.func 85) #[] #[.pointer (some ⟨w.heap.size + 1, 0, none⟩)]] W3 fun e w' => e = .returned (.int .i64 i) ∧ ∃ k, w' = W3.drewN k := by
    by_cases h0 : 0 < q
    · obtain ⟨nb, no, ha, hnb, hnc⟩ : ∃ b o, x.na = some ⟨b, o, none⟩ ∧ b < B ∧ ∀ i, i < q → w.cell? ⟨b, o + i, none⟩ = some (.string (g i)) := hq4 h0
      rw [ha]
      exact V.idx_get (nc := x.nc) name i hq r1 (fun j hj => V.cell_later (hnc j hj) hnb (hb3.mono hB)) hidx
    · obtain rfl : q = 0 := by omega
      have hi : i = -1 := by rw [← hidx]; rfl
      rw [hi]
      refine (AnyE.slices_IndexFunc_empty V.idxL x.na x.nc _ W3).mono ?_
      rintro e w' ⟨rfl, rfl⟩
      exact ⟨rfl, 0, rfl⟩
  have HI : Hid (Calls Tryz.prog 84 #[.slice x.na q x.nc, .func (.func 85) #[] #[.pointer (some ⟨w.heap.size + 1, 0, none⟩)]] W3 fun e w' => e = .returned (.int .i64 i) ∧ ∃ k, w' = W3.drewN k) := hidx2
  have HW : Hid (((w.alloc (.cells #[.int .i64 6, .bool b, .int .i64 n, .string s, .slice x.pa m x.pc, .slice x.na q x.nc] 34)).alloc (.cells #[.string name] 9)).alloc (.cells #[.int .i64 0, .bool false, .int .i64 0, .string ⟨#[]⟩, .slice none 0 0, .slice none 0 0] 34) = W3) := hW3
  have hwd : ∀ k, Below w.heap.size w (W3.drewN k) := fun k => ⟨hb3.os, hb3.tape, hb3.output, hb3.size, hb3.block⟩
  clear hidx2 hidx hL hq4 hW3
  go_enter Tryz.func55, Tryz.ntmps55
  go_wp2_with fail
  rw [HW.out]
  refine HI.out.mono ?_
  rintro e w1 ⟨rfl, k, rfl⟩
  obtain ⟨wd, hwd2⟩ : ∃ wd, W3.drewN k = wd := ⟨_, rfl⟩
  have q0 : wd.heap[w.heap.size]? = some (.cells #[.int .i64 6, .bool b, .int .i64 n, .string s, .slice x.pa m x.pc, .slice x.na q x.nc] 34 (0, 0)) := by rw [← hwd2]; exact r0
  have q2 : wd.heap[w.heap.size + 1 + 1]? = some (.cells noneA 34 (0, 0)) := by rw [← hwd2]; exact r2
  have hbd : Below w.heap.size w wd := by rw [← hwd2]; exact hwd k
  have hsd : wd.heap.size = w.heap.size + 1 + 1 + 1 := by rw [← hwd2]; exact hs3
  rw [hwd2]
  clear hwd2 hwd r0 r1 r2 hb3 hs3 HW HI
  have c4 := cell_of_row wd _ 4 _ _ _ q0
  have HQ : Hid (wd.heap[w.heap.size + 1 + 1]? = some (.cells noneA 34 (0, 0)) ∧ Below w.heap.size w wd ∧ wd.heap.size = w.heap.size + 1 + 1 + 1) := ⟨q2, hbd, hsd⟩
  clear q0 q2 hbd hsd
  have fin : ∀ (w1 : World), Below wd.heap.size wd w1 → Hid (w1.heap[w.heap.size + 1 + 1]? = some (.cells noneA 34 (0, 0)) ∧ Below w.heap.size w w1) := fun w1 hb1 => by
    have hz := HQ.out.2.2
    exact ⟨(hb1.block _ (by omega)).trans HQ.out.1, HQ.out.2.1.trans (hb1.mono (by omega))⟩
  by_cases hi0 : i < 0
  · go_wp2_with fail
    refine (none_call wd).mono ?_
    rintro e w1 ⟨rfl, hb1⟩
    have HN := fin w1 hb1
    clear fin hb1 c4
    go_wp2_with (first | (refine wpList_put rfl 34 (.tmp 4) (.tmp 23) rfl rfl rfl rfl HN.out.1 rfl info34 (by simp [noneA, Value.oneCell']) ?_) | fail)
    exact bodyPost_ret (results_cell_row Tryz.results55 _ _ (w.heap.size + 1 + 1) 34 _ (0, 0) _ rfl (put_row _ HN.out.1 rfl) Tryz.underlying34 rfl info34) rfl ⟨rfl, put_below HN.out.2 _ (by omega) _⟩
  · have him' : (m : Int) ≤ i := by omega
    go_wp2_with fail
    refine (none_call wd).mono ?_
    rintro e w1 ⟨rfl, hb1⟩
    have HN := fin w1 hb1
    clear fin hb1 c4
    go_wp2_with (first | (refine wpList_put rfl 34 (.tmp 4) (.tmp 23) rfl rfl rfl rfl HN.out.1 rfl info34 (by simp [noneA, Value.oneCell']) ?_) | fail)
    exact bodyPost_ret (results_cell_row Tryz.results55 _ _ (w.heap.size + 1 + 1) 34 _ (0, 0) _ rfl (put_row _ HN.out.1 rfl) Tryz.underlying34 rfl info34) rfl ⟨rfl, put_below HN.out.2 _ (by omega) _⟩
end Go.Proofs.YtniljoojoafiaaaGreatDoor
namespace Go.Proofs.YtniljoojoafiaaaGreatDoor
open Go.RowKit Go.Shelf
def ixOf (name : ByteArray) (q : Nat) (g : Nat → ByteArray) : Int := Lib.idxBy (fun _ y => y.toList == name.toList) ((List.range q).map g) (default : ByteArray)
def noT : V.Tr := V.leafT 0 false 0 ⟨#[]⟩
def getT : V.Tr → ByteArray → V.Tr
  | .no, _ => noT
  | .mk k _ _ _ m f q g, name => if k = 6 ∧ 0 ≤ ixOf name q g ∧ ixOf name q g < m then f (ixOf name q g).toNat else noT
set_option maxRecDepth 100000 in
theorem no_lies {S : Nat → Prop} {w : World} : V.LiesS S w noT ⟨none, 0, none, 0⟩ := V.lies_leaf (by omega) (by omega) (by show (0 : Nat) ≤ maxLen; exact Nat.zero_le _)
set_option maxRecDepth 100000 in
theorem get_any {B : Nat} {w : World} (t : V.Tr) (x : V.Ad) (name : ByteArray) (hL : V.Lies B w t x) (hB : B ≤ w.heap.size) (hs : V.slimq t) :
    Calls Tryz.prog 55 #[t.val x, .string name] w fun e w' => ∃ A, e = .returned ((getT t name).val A) ∧ V.LiesS (fun k => w.heap.size ≤ k ∧ k < w'.heap.size) w' (getT t name) A ∧ Below w.heap.size w w' := by
  have hno : ∀ {e : Ending} {w' : World}, getT t name = noT → e = .returned (.agg noneA) ∧ Below w.heap.size w w' → ∃ A, e = .returned ((getT t name).val A) ∧ V.LiesS (fun k => w.heap.size ≤ k ∧ k < w'.heap.size) w' (getT t name) A ∧ Below w.heap.size w w' := by
    rintro e w' h ⟨rfl, hb⟩
    rw [h]
    exact ⟨⟨none, 0, none, 0⟩, rfl, no_lies, hb⟩
  cases t with
  | no => exact (get_kind .no x name (by show (0 : Int) ≠ 6; omega)).mono fun e w' h => hno rfl h
  | mk k b n s m f q g =>
    by_cases hk : k = 6
    · subst hk
      obtain ⟨i, hi⟩ : ∃ i, ixOf name q g = i := ⟨_, rfl⟩
      by_cases hr : 0 ≤ i ∧ i < m
      · have hg : getT (.mk 6 b n s m f q g) name = f i.toNat := by
          show (if (6 : Int) = 6 ∧ 0 ≤ ixOf name q g ∧ ixOf name q g < m then f (ixOf name q g).toNat else noT) = _
          rw [hi, if_pos ⟨rfl, hr⟩]
        rw [hg]
        have hq0 : 0 < q := by
          rcases Nat.eq_zero_or_pos q with rfl | h
          · have : ixOf name 0 g = -1 := rfl
            omega
          · exact h
        exact V.get_at hL hB name i.toNat hq0 hs.2.1 (by omega) (hs.2.2 _ (by omega)) (by rw [Int.toNat_of_nonneg hr.1]; exact hi)
      · refine (get_gone hL hB name i hs.2.1 (by omega) hi).mono fun e w' h => hno ?_ h
        show (if (6 : Int) = 6 ∧ 0 ≤ ixOf name q g ∧ ixOf name q g < m then f (ixOf name q g).toNat else noT) = _
        rw [hi, if_neg (by omega)]
    · refine (get_kind (.mk k b n s m f q g) x name hk).mono fun e w' h => hno ?_ h
      show (if k = 6 ∧ 0 ≤ ixOf name q g ∧ ixOf name q g < m then f (ixOf name q g).toNat else noT) = _
      rw [if_neg (fun h => hk h.1)]
end Go.Proofs.YtniljoojoafiaaaGreatDoor
namespace Go.Proofs.YtniljoojoafiaaaGreatDoor.V
open Go.RowKit
def textL (s : ByteArray) : List UInt8 := put s.size ++ s.data.toList
def cat : Nat → (Nat → List UInt8) → List UInt8
  | 0, _ => []
  | m + 1, F => cat m F ++ F m
def bytesT : Tr → List UInt8
  | .no => [0]
  | .mk k b n s m f _ g =>
    UInt8.ofNat k.toNat :: (if k = 1 then [if b then 1 else 0] else if k = 2 then put (zig n) else if k = 3 ∨ k = 4 then textL s
      else if k = 5 ∨ k = 6 then put m ++ cat m (fun i => (if k = 6 then textL (g i) else []) ++ bytesT (f i)) else [])
def small : Tr → Prop
  | .no => True
  | .mk _ _ _ s m f _ _ => s.size ≤ 4096 ∧ ∀ i, i < m → small (f i)
def Aft (l x l' : List UInt8) : Prop := ((l ++ x).length ≤ 1024 → l' = l ++ x) ∧ (1024 < (l ++ x).length → 1024 < l'.length)
set_option maxRecDepth 100000 in
theorem Aft.all (l x : List UInt8) : Aft l x (l ++ x) := ⟨fun _ => rfl, fun h => h⟩
set_option maxRecDepth 100000 in
theorem Aft.exact {l x l' : List UInt8} (h : Aft l x l') (h2 : l'.length ≤ 1024) : l' = l ++ x := by
  rcases Nat.lt_or_ge 1024 (l ++ x).length with k | k
  · have := h.2 k; omega
  · exact h.1 k
set_option maxRecDepth 100000 in
theorem Aft.over {l x y l' : List UInt8} (h : Aft l x l') (h2 : 1024 < l'.length) : Aft l (x ++ y) l' := by
  have : 1024 < (l ++ x).length := by
    rcases Nat.lt_or_ge 1024 (l ++ x).length with k | k
    · exact k
    · have := h.1 k; rw [this] at h2; omega
  constructor
  · intro k; simp at k this; omega
  · intro _; exact h2
set_option maxRecDepth 100000 in
theorem Aft.on {l x y l' : List UInt8} (h : Aft (l ++ x) y l') : Aft l (x ++ y) l' := by
  unfold Aft at h ⊢
  rw [List.append_assoc] at h
  exact h
set_option maxRecDepth 100000 in
theorem cat_more {i m : Nat} (F : Nat → List UInt8) (h : i ≤ m) : ∃ y, cat m F = cat i F ++ y := by
  induction m with
  | zero => obtain rfl : i = 0 := by omega
            exact ⟨[], by simp⟩
  | succ m ih =>
    rcases Nat.lt_or_ge m i with k | k
    · obtain rfl : i = m + 1 := by omega
      exact ⟨[], by simp⟩
    · obtain ⟨y, hy⟩ := ih k
      exact ⟨y ++ F m, by show cat m F ++ F m = _; rw [hy, List.append_assoc]⟩
set_option maxRecDepth 100000 in
theorem fe_zero {F : Nat → Int} : ∀ {m : Nat}, fe m F = 0 → ∀ i, i < m → F i = 0
  | 0, _, i, hi => by omega
  | m + 1, h, i, hi => by
    have h' : (if fe m F = 0 then F m else fe m F) = 0 := h
    by_cases k : fe m F = 0
    · rw [if_pos k] at h'
      rcases Nat.lt_or_ge i m with q | q
      · exact fe_zero k i q
      · obtain rfl : i = m := by omega
        exact h'
    · rw [if_neg k] at h'
      exact absurd h' k
structure SoundP (k : Int) (b : Bool) (n : Int) (s : ByteArray) (m : Nat) (f : Nat → Tr) (q : Nat) (g : Nat → ByteArray) (d : Int) : Prop where
  d8 : d ≤ 8
  fm : formedB k b n s m q = true
  k0 : 0 ≤ k
  k6 : k ≤ 6
  m32 : m ≤ 32
  nm : k = 6 → q = m ∧ ∀ i, i < q → okN g i = true
  ch : ∀ i, i < m → soundT (f i) (d + 1) = 0
set_option maxRecDepth 100000 in
theorem soundP {k : Int} {b : Bool} {n : Int} {s : ByteArray} {m : Nat} {f : Nat → Tr} {q : Nat} {g : Nat → ByteArray} {d : Int} (h : soundT (.mk k b n s m f q g) d = 0) : SoundP k b n s m f q g d := by
  rw [soundT] at h
  by_cases h8 : 8 < d
  · rw [if_pos h8] at h; cases h
  rw [if_neg h8] at h
  by_cases hf : formedB k b n s m q = false
  · rw [if_pos hf] at h; cases h
  rw [if_neg hf] at h
  by_cases h32 : 32 < m
  · rw [if_pos h32] at h; cases h
  rw [if_neg h32] at h
  by_cases h6 : k = 6 ∧ namedB q m g = false
  · rw [if_pos h6] at h; cases h
  rw [if_neg h6] at h
  have hft : formedB k b n s m q = true := by simpa using hf
  have h2 := hft
  unfold formedB at h2
  simp only [Bool.and_eq_true, decide_eq_true_eq] at h2
  refine ⟨by omega, hft, h2.1.1.1.1.1.1, h2.1.1.1.1.1.2, by omega, fun hk => ?_, fe_zero h⟩
  have : namedB q m g = true := by
    cases hn : namedB q m g with
    | true => rfl
    | false => exact absurd ⟨hk, hn⟩ h6
  exact of_decide_eq_true this
set_option maxRecDepth 100000 in
theorem nameB_size {s : ByteArray} (h : nameB s = true) : s.size ≤ 16 := by
  unfold nameB at h
  simp only [Bool.and_eq_true, decide_eq_true_eq] at h
  exact h.1.1.2
set_option maxRecDepth 100000 in
theorem okN_size {g : Nat → ByteArray} {i : Nat} (h : okN g i = true) : (g i).size ≤ 16 := by
  unfold okN at h
  rw [Bool.and_eq_true] at h
  exact nameB_size h.1
set_option maxRecDepth 100000 in
theorem textB_list (s : ByteArray) : (textB s).data.toList = textL s := by
  unfold textB textL
  rw [ByteArray.data_append, Array.toList_append]
set_option maxRecDepth 100000 in
theorem textL_len (s : ByteArray) (h : s.size ≤ 4096) : (textL s).length ≤ s.size + 10 := by
  unfold textL
  have := put_len10 (n := s.size) (by omega)
  rw [List.length_append, ← Lib.size_eq]
  omega
set_option maxRecDepth 100000 in
theorem textB_size (s : ByteArray) (h : s.size ≤ 4096) : (textB s).size ≤ s.size + 10 := by
  have := textL_len s h
  rw [← textB_list, ← Lib.size_eq] at this
  exact this
def PutC (t : Tr) (_ : Int) : Prop := ∀ (B : Nat) (w : World) (x : Ad) (b : Nat) (l : List UInt8), Lies B w t x → B ≤ b → Bld w b l → l.length ≤ 1100 →
    Calls Tryz.prog 63 #[.pointer (some ⟨b, 0, none⟩), t.val x] w fun e w' => e = .returned (.tuple #[]) ∧ (∃ l', Bld w' b l' ∧ Aft l (bytesT t) l' ∧ l'.length ≤ 6100) ∧ Below b w w' ∧ Tame w w'
set_option maxRecDepth 100000 in
theorem Bld.lt {w : World} {b : Nat} {l : List UInt8} (h : Bld w b l) : b < w.heap.size := by
  rcases h with h | h
  · exact h.lt
  · exact h.lt
set_option maxRecDepth 100000 in
theorem Bld.later {w w' : World} {b : Nat} {l : List UInt8} (h : Bld w b l) (hb : Below w.heap.size w w') : Bld w' b l := by
  have key : ∀ p, Lib.BuilderAt 126 5 b b p (strC l) w → Lib.BuilderAt 126 5 b b p (strC l) w' := by
    rintro p ⟨h1, v, h2, h3, h4⟩
    refine ⟨h1, v, (hb.block b (lt_of_row h2)).trans h2, ?_, h4⟩
    refine ⟨h3.1, ?_⟩
    rcases h3.2 with h5 | ⟨g, cap, cur, h5, h6, h7, h8⟩
    · exact Or.inl h5
    · exact Or.inr ⟨g, cap, cur, h5, h6, (hb.block g (lt_of_row h7)).trans h7, h8⟩
  rcases h with h | h
  · exact Or.inl (key _ h)
  · exact Or.inr (key _ h)
set_option maxRecDepth 100000 in
theorem kindByte {k : Int} (h0 : 0 ≤ k) (h6 : k ≤ 6) : IntKind.u8.wrap k = ((UInt8.ofNat k.toNat).toNat : Int) := by
  rw [toNat_ofNat_lt (by omega), IntKind.wrap_u8']; omega
end Go.Proofs.YtniljoojoafiaaaGreatDoor.V
