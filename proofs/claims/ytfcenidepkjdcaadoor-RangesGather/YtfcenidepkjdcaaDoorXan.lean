/- The span of a value's keys (keys.Equal), and what is in it. Looks: a look at all of a table (ranges.Whole), at a part (ranges.Part), in its one form (ranges.plain). The order of names as numbers (osF), which of them are kept (keptP), the struct's tree (structT). -/
import Derived.Test.YtfcenidepkjdcaaDoorXal
import Derived.Test.YtfcenidepkjdcaaDoorXam
import Derived.Test.YtfcenidepkjdcaaDoorXah
import Derived.Test.YtfcenidepkjdcaaDoorXaf
import Derived.Test.YtfcenidepkjdcaaDoorVCln
import Derived.Test.YtfcenidepkjdcaaDoorXag
namespace Go.Proofs.YtfcenidepkjdcaaDoor.V
open Go.RowKit

theorem span_prefix {p s nx : List UInt8} (hn : nextF p = some nx) : (!lt8 s p && lt8 s nx) = decide (p <+: s) := by
  by_cases hp : p <+: s
  · obtain ⟨t, rfl⟩ := hp
    have h1 : lt8 (p ++ t) p = false := by
      have := lt8_append p t []
      rw [List.append_nil, lt8_nil_r] at this
      exact this
    rw [h1, next_above t hn, decide_eq_true (List.prefix_append p t)]
    rfl
  · rw [decide_eq_false hp]
    rcases lt8_total s p with h | h | h
    · rw [h]; rfl
    · exact absurd (h ▸ List.prefix_refl _) hp
    · obtain ⟨n', hn', hl⟩ := next_least h hp
      obtain rfl : n' = nx := Option.some.inj (hn'.symm.trans hn)
      rw [hl]
      simp
theorem next_key {t : Tr} {d : Int} (h : soundT t d = 0) : ∃ nx, nextF (keyT t) = some nx := by
  obtain ⟨h0, h6, r, hr⟩ := key_head h
  rw [hr, nextF]
  cases nextF r with
  | some x => exact ⟨_, rfl⟩
  | none =>
    have : UInt8.ofNat t.k.toNat ≠ 255 := fun e => by
      have := u8_eq.1 e
      rw [toNat_ofNat_lt (by omega)] at this
      have h255 : (255 : UInt8).toNat = 255 := rfl
      omega
    exact ⟨_, if_neg this⟩
theorem equal_has {T U : Tr} {d d' : Int} (hT : soundT T d = 0) (hU : soundT U d' = 0) {K L E : ByteArray} (hK : K.data.toList = keyT T) (hL : L.data.toList = keyT U) : hasB K (nextB K) (L ++ E) = decide (keyT T = keyT U) := by
  obtain ⟨nx, hn⟩ := next_key hT
  have hb : (nextB K).toList = nx := by
    rw [Lib.toList_data]
    show nextL K.data.toList = nx
    unfold nextL
    rw [hK, hn]
    rfl
  have he : (nextB K).toList.isEmpty = false := by
    rw [hb]
    have := nextF_ne hn
    cases nx with
    | nil => exact absurd rfl this
    | cons => rfl
  unfold hasB
  rw [he, hb, Lib.toList_data, Lib.toList_data, ByteArray.data_append, Array.toList_append, hK, hL, Bool.false_or]
  have := span_prefix (s := keyT U ++ E.data.toList) hn
  rw [show Op.bytesLess (keyT U ++ E.data.toList) (keyT T) = lt8 (keyT U ++ E.data.toList) (keyT T) from rfl, show Op.bytesLess (keyT U ++ E.data.toList) nx = lt8 (keyT U ++ E.data.toList) nx from rfl, this, decide_eq_decide]
  constructor
  · intro hp
    refine key_ff T U d d' hT hU (comp_left (x := []) (y := E.data.toList) ?_)
    rw [List.append_nil]
    exact Or.inl hp
  · intro e
    rw [e]
    exact List.prefix_append _ _
set_option maxRecDepth 100000 in
set_option maxHeartbeats 4000000 in
theorem equal_ok {t : Tr} {B : Nat} {w : World} {x : Ad} (h : checkT t = 0) (hsm : small t) (hg : Gm w) (hL : Lies B w t x) (hB : B ≤ w.heap.size) :
    Calls Tryd.prog 19 #[t.val x] w fun e w' => e = .returned (.agg #[.string ⟨(keyT t).toArray⟩, .string (nextB ⟨(keyT t).toArray⟩)]) ∧ Below w.heap.size w w' := by
  have hof := fun (W : World) (hb : Below w.heap.size w W) => of_ok (w := W) h hsm (hg.later hb hg.pos) (hL.later (hb.mono hB)) (by have := hb.size; omega)
  have hks := key_short h
  have hV : t.val x = .agg #[.int .i64 t.k, .bool t.b, .int .i64 t.n, .string t.s, .slice x.pa t.m x.pc, .slice x.na t.q x.nc] := rfl
  rw [hV] at hof ⊢
  have hsz : (⟨(keyT t).toArray⟩ : ByteArray).size ≤ maxLen := by
    show (keyT t).toArray.size ≤ _
    rw [List.size_toArray]
    unfold maxLen
    omega
  obtain ⟨K, hK⟩ : ∃ K : ByteArray, (⟨(keyT t).toArray⟩ : ByteArray) = K := ⟨_, rfl⟩
  rw [hK] at hof hsz ⊢
  have hnx := fun W => next_any K hsz W
  obtain ⟨N, hN⟩ : ∃ N, nextB K = N := ⟨_, rfl⟩
  rw [hN] at hnx ⊢
  clear hK hN hks
  have hbel : Below w.heap.size w ((w.alloc (.cells #[.int .i64 t.k, .bool t.b, .int .i64 t.n, .string t.s, .slice x.pa t.m x.pc, .slice x.na t.q x.nc] 29)).alloc (.cells #[.string ⟨#[]⟩, .string ⟨#[]⟩] 23)) := ((Below.refl _ w).alloc (Nat.le_refl _) _).alloc (by simp) _
  have hrow := fresh_row (w.alloc (.cells #[.int .i64 t.k, .bool t.b, .int .i64 t.n, .string t.s, .slice x.pa t.m x.pc, .slice x.na t.q x.nc] 29)) #[.string ⟨#[]⟩, .string ⟨#[]⟩] 23
  have hs1 : (w.alloc (.cells #[.int .i64 t.k, .bool t.b, .int .i64 t.n, .string t.s, .slice x.pa t.m x.pc, .slice x.na t.q x.nc] 29)).heap.size = w.heap.size + 1 := by simp
  rw [hs1] at hrow
  go_enter Tryd.func19, Tryd.ntmps19
  go_wp2_with fail
  refine (hof _ hbel).mono ?_
  rintro e w1 ⟨rfl, hb1⟩
  have hr1 := (hb1.block _ (lt_of_row hrow)).trans hrow
  have hz1 := hb1.size
  have hl1 := lt_of_row hrow
  go_wp2_with fail
  refine (hnx _).mono ?_
  rintro e w2 ⟨rfl, hb2⟩
  have hr2 := (hb2.block _ (lt_of_row hr1)).trans hr1
  have hbw : Below w.heap.size w w2 := (hbel.trans (hb1.mono hbel.size)).trans (hb2.mono (by have := hbel.size; omega))
  have c0 := cell_of_row w2 _ 0 _ _ _ hr2
  have c1 := cell_of_row w2 _ 1 _ _ _ hr2
  have f0 := frozen_of_row w2 _ 0 _ _ hr2
  have f1 := frozen_of_row w2 _ 1 _ _ hr2
  go_wp2
  have hrow3 : ((w2.setCell ⟨w.heap.size + 1, 0, none⟩ (.string K)).setCell ⟨w.heap.size + 1, 1, none⟩ (.string N)).heap[w.heap.size + 1]? = some (.cells #[.string K, .string N] 23 (0, 0)) := row_setCell (k := 1) (row_setCell (k := 0) hr2 (.string K)) (.string N)
  have hbf : Below w.heap.size w ((w2.setCell ⟨w.heap.size + 1, 0, none⟩ (.string K)).setCell ⟨w.heap.size + 1, 1, none⟩ (.string N)) := (hbw.setCell (p := ⟨w.heap.size + 1, 0, none⟩) (by show w.heap.size ≤ w.heap.size + 1; omega) _).setCell (p := ⟨w.heap.size + 1, 1, none⟩) (by show w.heap.size ≤ w.heap.size + 1; omega) _
  obtain ⟨wf, hwf⟩ : ∃ wf, ((w2.setCell ⟨w.heap.size + 1, 0, none⟩ (.string K)).setCell ⟨w.heap.size + 1, 1, none⟩ (.string N)) = wf := ⟨_, rfl⟩
  rw [hwf] at hrow3 hbf ⊢
  clear hwf
  have o0 := cell_of_row wf _ 0 _ _ _ hrow3
  have o1 := cell_of_row wf _ 1 _ _ _ hrow3
  exact bodyPost_ret (v := .agg #[.string K, .string N]) (by simp [results, Tryd.results19, go_sem, o0, o1]) rfl ⟨rfl, hbf⟩
end Go.Proofs.YtfcenidepkjdcaaDoor.V
namespace Go.Proofs.YtfcenidepkjdcaaDoor
open Go.RowKit Go.Shelf
attribute [local go_sem] Oper.semAt_some
def eB : ByteArray := ⟨#[]⟩
theorem info25 : (Tryd.prog.info? 25).map (·.size) = some 4 := by kernel_rfl
def rdA (tb fl lo hi : ByteArray) : Array Value := #[.string tb, .string fl, .string lo, .string hi]
def thA (tb : ByteArray) (sh : Bool) (t : V.Tr) (x : V.Ad) (u : V.Tr) (y : V.Ad) (was is : Bool) : Array Value :=
  #[.string tb, .bool sh, .int .i64 t.k, .bool t.b, .int .i64 t.n, .string t.s, .slice x.pa t.m x.pc, .slice x.na t.q x.nc, .int .i64 u.k, .bool u.b, .int .i64 u.n, .string u.s, .slice y.pa u.m y.pc, .slice y.na u.q y.nc, .bool was, .bool is]
theorem empty_of {x : ByteArray} (h : x.toList.isEmpty = true) : x = ⟨#[]⟩ := by
  rw [Lib.toList_data] at h
  obtain ⟨⟨l⟩⟩ := x
  simp at h
  subst h
  rfl
set_option maxRecDepth 100000 in
set_option maxHeartbeats 4000000 in
theorem whole_any (tb : ByteArray) (w : World) : Calls Tryd.prog 20 #[.string tb] w fun e w' => e = .returned (.agg (rdA tb eB eB eB)) ∧ Below w.heap.size w w' := by
  go_enter Tryd.func20, Tryd.ntmps20
  go_wp2
  exact bodyPost_ret (v := .agg (rdA tb eB eB eB)) (by simp [results, Tryd.results20, go_sem, rdA, eB]) rfl ⟨rfl, (Below.refl _ _).alloc (Nat.le_refl _) _⟩
def plA (tb fl lo hi : ByteArray) : Array Value := if fl.toList.isEmpty = true then rdA tb eB eB eB else rdA tb fl lo hi
set_option maxRecDepth 100000 in
set_option maxHeartbeats 4000000 in
theorem plain_any (tb fl lo hi : ByteArray) (w : World) : Calls Tryd.prog 26 #[.agg (rdA tb fl lo hi)] w fun e w' => e = .returned (.agg (plA tb fl lo hi)) ∧ Below w.heap.size w w' := by
  show Calls Tryd.prog 26 #[.agg #[.string tb, .string fl, .string lo, .string hi]] w _
  by_cases h0 : fl.toList.isEmpty = true
  · have hp : plA tb fl lo hi = rdA tb eB eB eB := by unfold plA; rw [if_pos h0]
    rw [hp]
    have kw := fun W => whole_any tb W
    unfold rdA at kw ⊢
    obtain ⟨w1, hw1⟩ : ∃ w1, (w.alloc (.cells #[.string tb, .string fl, .string lo, .string hi] 25)).alloc (.cells #[.string ⟨#[]⟩, .string ⟨#[]⟩, .string ⟨#[]⟩, .string ⟨#[]⟩] 25) = w1 := ⟨_, rfl⟩
    have hb1 : Below w.heap.size w w1 := by rw [← hw1]; exact ((Below.refl _ w).alloc (Nat.le_refl _) _).alloc (by simp) _
    have r1 : w1.heap[w.heap.size + 1]? = some (.cells #[.string ⟨#[]⟩, .string ⟨#[]⟩, .string ⟨#[]⟩, .string ⟨#[]⟩] 25 (0, 0)) := by
      rw [← hw1]
      have := heap_alloc_new (w.alloc (.cells #[.string tb, .string fl, .string lo, .string hi] 25)) (.cells #[.string ⟨#[]⟩, .string ⟨#[]⟩, .string ⟨#[]⟩, .string ⟨#[]⟩] 25)
      simpa using this
    have HW : Hid ((w.alloc (.cells #[.string tb, .string fl, .string lo, .string hi] 25)).alloc (.cells #[.string ⟨#[]⟩, .string ⟨#[]⟩, .string ⟨#[]⟩, .string ⟨#[]⟩] 25) = w1) := hw1
    clear hw1
    go_enter Tryd.func26, Tryd.ntmps26
    go_wp2_with fail
    rw [HW.out]
    refine (kw w1).mono ?_
    rintro e w2 ⟨rfl, hb2⟩
    have HN : Hid (w2.heap[w.heap.size + 1]? = some (.cells #[.string ⟨#[]⟩, .string ⟨#[]⟩, .string ⟨#[]⟩, .string ⟨#[]⟩] 25 (0, 0)) ∧ Below w.heap.size w w2) := ⟨(hb2.block _ (lt_of_row r1)).trans r1, hb1.trans (hb2.mono hb1.size)⟩
    clear hb2 r1 hb1 kw
    go_wp2_with (first | (refine wpList_put rfl 25 (.tmp 2) (.tmp 8) rfl rfl rfl rfl HN.out.1 rfl info25 (by simp [Value.oneCell']) ?_) | fail)
    exact bodyPost_ret (results_cell_row Tryd.results26 _ _ (w.heap.size + 1) 25 _ (0, 0) _ rfl (put_row _ HN.out.1 rfl) Tryd.underlying25 rfl info25) rfl ⟨rfl, put_below HN.out.2 _ (by omega) _⟩
  · have hp : plA tb fl lo hi = rdA tb fl lo hi := by unfold plA; rw [if_neg h0]
    rw [hp]
    have h1 : fl.toList.isEmpty = false := by simpa using h0
    unfold rdA
    go_enter Tryd.func26, Tryd.ntmps26
    go_wp2
    exact bodyPost_ret (v := .agg #[.string tb, .string fl, .string lo, .string hi]) (by simp [results, Tryd.results26, go_sem]) rfl ⟨rfl, ((Below.refl _ _).alloc (Nat.le_refl _) _).alloc (by simp) _⟩
set_option maxRecDepth 100000 in
set_option maxHeartbeats 4000000 in
theorem sight_yes (tb fl lo hi : ByteArray) (w : World) (h0 : fl.toList.isEmpty = true) : Calls Tryd.prog 24 #[.agg (rdA tb fl lo hi)] w fun e w' => e = .returned (.func (.func 42) #[] #[]) ∧ Below w.heap.size w w' := by
  unfold rdA
  go_enter Tryd.func24, Tryd.ntmps24
  go_wp2
  go_ret
  exact ⟨rfl, (Below.refl _ _).alloc (Nat.le_refl _) _⟩
set_option maxRecDepth 100000 in
set_option maxHeartbeats 4000000 in
theorem sight_no (tb fl lo hi : ByteArray) (w : World) (h0 : fl.toList.isEmpty = false) : Calls Tryd.prog 24 #[.agg (rdA tb fl lo hi)] w fun e w' => e = .returned (.func (.func 43) #[] #[.pointer (some ⟨w.heap.size, 0, none⟩)]) ∧ w'.heap[w.heap.size]? = some (.cells (rdA tb fl lo hi) 25 (0, 0)) ∧ Below w.heap.size w w' := by
  unfold rdA
  go_enter Tryd.func24, Tryd.ntmps24
  go_wp2
  go_ret
  exact ⟨rfl, heap_alloc_new _ _, (Below.refl _ _).alloc (Nat.le_refl _) _⟩
set_option maxRecDepth 100000 in
set_option maxHeartbeats 4000000 in
theorem all_seen (t : V.Tr) (x : V.Ad) (w : World) : Calls Tryd.prog 42 #[t.val x] w fun e w' => e = .returned (.bool true) ∧ Below w.heap.size w w' := by
  show Calls Tryd.prog 42 #[.agg #[.int .i64 t.k, .bool t.b, .int .i64 t.n, .string t.s, .slice x.pa t.m x.pc, .slice x.na t.q x.nc]] w _
  go_enter Tryd.func42, Tryd.ntmps42
  go_wp2
  go_ret
  exact ⟨rfl, (Below.refl _ _).alloc (Nat.le_refl _) _⟩
set_option maxRecDepth 100000 in
set_option maxHeartbeats 4000000 in
theorem part_any (tb fl lo hi : ByteArray) (w : World) : Calls Tryd.prog 18 #[.string tb, .string fl, .agg #[.string lo, .string hi]] w fun e w' => e = .returned (.agg (plA tb fl lo hi)) ∧ Below w.heap.size w w' := by
  have kw := fun W => plain_any tb fl lo hi W
  obtain ⟨P, hP⟩ : ∃ P, plA tb fl lo hi = P := ⟨_, rfl⟩
  have hP4 : ∃ a b c d, P = rdA a b c d := by
    rw [← hP]; unfold plA; split
    · exact ⟨_, _, _, _, rfl⟩
    · exact ⟨_, _, _, _, rfl⟩
  rw [hP] at kw ⊢
  obtain ⟨a, b, c, d, rfl⟩ := hP4
  clear hP
  unfold rdA at kw ⊢
  obtain ⟨w1, hw1⟩ : ∃ w1, (w.alloc (.cells #[.string lo, .string hi] 23)).alloc (.cells #[.string ⟨#[]⟩, .string ⟨#[]⟩, .string ⟨#[]⟩, .string ⟨#[]⟩] 25) = w1 := ⟨_, rfl⟩
  have hb1 : Below w.heap.size w w1 := by rw [← hw1]; exact ((Below.refl _ w).alloc (Nat.le_refl _) _).alloc (by simp) _
  have r1 : w1.heap[w.heap.size + 1]? = some (.cells #[.string ⟨#[]⟩, .string ⟨#[]⟩, .string ⟨#[]⟩, .string ⟨#[]⟩] 25 (0, 0)) := by
    rw [← hw1]
    have := heap_alloc_new (w.alloc (.cells #[.string lo, .string hi] 23)) (.cells #[.string ⟨#[]⟩, .string ⟨#[]⟩, .string ⟨#[]⟩, .string ⟨#[]⟩] 25)
    simpa using this
  have HW : Hid ((w.alloc (.cells #[.string lo, .string hi] 23)).alloc (.cells #[.string ⟨#[]⟩, .string ⟨#[]⟩, .string ⟨#[]⟩, .string ⟨#[]⟩] 25) = w1) := hw1
  clear hw1
  go_enter Tryd.func18, Tryd.ntmps18
  go_wp2_with fail
  rw [HW.out]
  refine (kw w1).mono ?_
  rintro e w2 ⟨rfl, hb2⟩
  have HN : Hid (w2.heap[w.heap.size + 1]? = some (.cells #[.string ⟨#[]⟩, .string ⟨#[]⟩, .string ⟨#[]⟩, .string ⟨#[]⟩] 25 (0, 0)) ∧ Below w.heap.size w w2) := ⟨(hb2.block _ (lt_of_row r1)).trans r1, hb1.trans (hb2.mono hb1.size)⟩
  clear hb2 r1 hb1 kw
  go_wp2_with (first | (refine wpList_put rfl 25 (.tmp 6) (.tmp 11) rfl rfl rfl rfl HN.out.1 rfl info25 (by simp [Value.oneCell']) ?_) | fail)
  exact bodyPost_ret (results_cell_row Tryd.results18 _ _ (w.heap.size + 1) 25 _ (0, 0) _ rfl (put_row _ HN.out.1 rfl) Tryd.underlying25 rfl info25) rfl ⟨rfl, put_below HN.out.2 _ (by omega) _⟩
end Go.Proofs.YtfcenidepkjdcaaDoor
namespace Go.Proofs.YtfcenidepkjdcaaDoor.V
open Go.Shelf Go.RowKit Go.Lib Go.Sort
def idF (n : Nat) : Array (Fin (n + 1)) := (List.finRange (n + 1)).toArray
set_option maxRecDepth 100000 in
theorem idF_size (n : Nat) : (idF n).size = n + 1 := by simp [idF]
set_option maxRecDepth 100000 in
theorem idF_get (n j : Nat) (h : j < n + 1) : (idF n)[j]! = ⟨j, h⟩ := by
  rw [getElem!_pos _ j (by rw [idF_size]; exact h)]
  simp [idF]
def osF (g : Nat → ByteArray) (n : Nat) (p : Nat) : Nat := ((sortF g n (idF n))[p]!).val
def keepP (g : Nat → ByteArray) (os : Nat → Nat) (N p : Nat) : Bool := !(decide (p + 1 < N) && ((g (os (p + 1))).toList == (g (os p)).toList))
def keptP (g : Nat → ByteArray) (os : Nat → Nat) (N : Nat) : Nat → List Nat
  | 0 => []
  | i + 1 => if keepP g os N i then keptP g os N i ++ [os i] else keptP g os N i
set_option maxRecDepth 100000 in
theorem kept_len (g : Nat → ByteArray) (os : Nat → Nat) (N : Nat) : ∀ i, (keptP g os N i).length ≤ i
  | 0 => Nat.le_refl _
  | i + 1 => by
    have := kept_len g os N i
    unfold keptP
    by_cases h : keepP g os N i = true
    · rw [if_pos h]; simp; omega
    · rw [if_neg h]; omega
set_option maxRecDepth 100000 in
theorem kept_prefix (g : Nat → ByteArray) (os : Nat → Nat) (N : Nat) (i : Nat) : ∀ k, keptP g os N i <+: keptP g os N (i + k)
  | 0 => List.prefix_rfl
  | k + 1 => by
    refine (kept_prefix g os N i k).trans ?_
    show _ <+: (if keepP g os N (i + k) then _ else _)
    by_cases h : keepP g os N (i + k) = true
    · rw [if_pos h]; exact List.prefix_append _ _
    · rw [if_neg h]; exact List.prefix_rfl
set_option maxRecDepth 100000 in
theorem kept_at (g : Nat → ByteArray) (os : Nat → Nat) (N i : Nat) (hi : i < N) (h : keepP g os N i = true) : (keptP g os N N).getD (keptP g os N i).length 0 = os i := by
  have h1 : keptP g os N (i + 1) = keptP g os N i ++ [os i] := by show (if _ then _ else _) = _; rw [if_pos h]
  obtain ⟨k, rfl⟩ : ∃ k, N = i + 1 + k := ⟨N - (i + 1), by omega⟩
  obtain ⟨r, hr⟩ := kept_prefix g os (i + 1 + k) (i + 1) k
  rw [← hr, h1]
  simp [List.getD_eq_getElem?_getD]
set_option maxRecDepth 100000 in
theorem kept_lt (g : Nat → ByteArray) (os : Nat → Nat) (N q : Nat) (hos : ∀ p, p < N → os p < q) : ∀ i, i ≤ N → ∀ a ∈ keptP g os N i, a < q
  | 0, _, a, ha => by cases ha
  | i + 1, hi, a, ha => by
    unfold keptP at ha
    by_cases h : keepP g os N i = true
    · rw [if_pos h] at ha
      rcases List.mem_append.1 ha with h1 | h1
      · exact kept_lt g os N q hos i (by omega) a h1
      · simp at h1; subst h1; exact hos i (by omega)
    · rw [if_neg h] at ha
      exact kept_lt g os N q hos i (by omega) a ha
def structT (g : Nat → ByteArray) (f : Nat → Tr) (os : Nat → Nat) (N : Nat) : Tr :=
  .mk 6 false 0 ⟨#[]⟩ (keptP g os N N).length (fun j => f ((keptP g os N N).getD j 0)) (keptP g os N N).length (fun j => ((keptP g os N N).map g).getD j ⟨#[]⟩)
set_option maxRecDepth 100000 in
theorem heap_putF {n : Nat} (w : World) (z : Nat) (d : Array (Fin (n + 1))) (k j : Nat) (h : j ≠ z) : ((putRow (encF n) w z 0 d).drewN k).heap[j]? = w.heap[j]? := by
  show (putRow (encF n) w z 0 d).heap[j]? = _
  simp only [putRow, mapBlock, Array.getElem?_modify]
  rw [if_neg (fun e => h e.symm)]
set_option maxRecDepth 100000 in
theorem insInner_size {α : Type} [Inhabited α] (lt : α → α → Bool) (a : Nat) : ∀ (j : Nat) (d : Array α), (insInner lt a j d).size = d.size
  | 0, _ => rfl
  | j + 1, d => by
    unfold insInner
    by_cases h : (decide (j + 1 > a) && lt d[j + 1]! d[j]!) = true
    · rw [if_pos h, insInner_size lt a j, swp_size]
    · rw [if_neg h]
set_option maxRecDepth 100000 in
theorem insOuter_size {α : Type} [Inhabited α] (lt : α → α → Bool) (a b : Nat) : ∀ (k i : Nat) (d : Array α), b - i = k → (insOuter lt a b i d).size = d.size
  | 0, i, d, h => by
    unfold insOuter
    rw [if_neg (by omega)]
  | k + 1, i, d, h => by
    unfold insOuter
    by_cases hb : i < b
    · rw [if_pos hb, insOuter_size lt a b k (i + 1) _ (by omega), insInner_size]
    · rw [if_neg hb]
set_option maxRecDepth 100000 in
theorem sortF_size (g : Nat → ByteArray) (n : Nat) (d : Array (Fin (n + 1))) : (sortF g n d).size = d.size := insOuter_size _ _ _ _ _ _ rfl
set_option maxRecDepth 100000 in
theorem info3 : (Tryd.prog.info? 3).map (fun i => (i.zero, i.size, i.bytes)) = some (some (.int .i64 0), 1, 8) := by kernel_rfl
set_option maxRecDepth 100000 in
theorem sort_ints {q nc n blk z b o : Nat} {g : Nat → ByteArray} {wr : World} {cur : Array Value} (hn12 : n + 1 ≤ 12) (hnq : n + 1 ≤ q) (hrow : wr.heap[blk]? = some (.cells cur 3 (0, 0))) (hcs : ∀ j, j < n + 1 → cur[j]? = some (.int .i64 (j : Int)))
    (hz : wr.cell? ⟨z, 0, none⟩ = some (.slice (some ⟨b, o, none⟩) q nc)) (hn : ∀ i, i < q → wr.cell? ⟨b, o + i, none⟩ = some (.string (g i))) (hzb : z ≠ blk) (hbb : b ≠ blk) :
    Calls Tryd.prog 35 #[.slice (some ⟨blk, 0, none⟩) (n + 1) (n + 1), .func (.func 36) #[] #[.pointer (some ⟨z, 0, none⟩)]] wr fun e w' => e = .returned (.tuple #[]) ∧ (∀ p, p < n + 1 → w'.cell? ⟨blk, p, none⟩ = some (.int .i64 (osF g n p : Int))) ∧ (∀ j, j ≠ blk → w'.heap[j]? = wr.heap[j]?) ∧ RowKit.Below blk wr w' ∧ w'.heap.size = wr.heap.size := by
  have hH : Holds (encF n) wr blk 0 (idF n) := fun j hj => by
    rw [idF_size] at hj
    rw [idF_get n j hj, Nat.zero_add]
    exact ⟨by rw [cell_of_row wr _ _ _ _ _ hrow, hcs j (by omega)]; rfl, frozen_of_row wr _ _ _ _ hrow⟩
  have hl := lt_of_row hrow
  have hsort := sort_any (cap := n + 1) (g := g) hn12 hnq hz hn hzb hbb (idF n) (idF_size n) hH
  have hsz' := sortF_size g n (idF n)
  have hH2 := holds_putRow (encF n) wr blk 0 (idF n) (sortF g n (idF n)) hH hsz'
  refine hsort.mono ?_
  rintro e w' ⟨rfl, k, rfl⟩
  refine ⟨rfl, fun p hp => ?_, fun j hj => heap_putF _ _ _ _ _ hj, ?_, size_putRow _ _ _ _ _⟩
  · have := (hH2 p (by rw [hsz', idF_size]; omega)).1
    rw [Nat.zero_add] at this
    exact this
  · exact (RowKit.Below.refl _ wr).grown (show wr.grownBy _ (some blk) from ⟨rfl, rfl, rfl, by rw [show ((putRow (encF n) wr blk 0 (sortF g n (idF n))).drewN k).heap.size = wr.heap.size from size_putRow _ _ _ _ _]; exact Nat.le_refl _, fun j _ hne => heap_putF _ _ _ _ _ (fun e => hne (by rw [e]))⟩) (by omega) (fun j hj => by injection hj with hj; omega)
set_option maxRecDepth 100000 in
theorem osF_lt (g : Nat → ByteArray) (n p : Nat) : osF g n p < n + 1 := (((sortF g n (idF n))[p]!)).isLt
end Go.Proofs.YtfcenidepkjdcaaDoor.V
