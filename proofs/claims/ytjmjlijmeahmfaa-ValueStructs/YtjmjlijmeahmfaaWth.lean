/- A struct with another part of a name (With). -/
import Derived.Test.YtjmjlijmeahmfaaCct
import Derived.Test.YtjmjlijmeahmfaaRsb
import Derived.Test.YtjmjlijmeahmfaaStr
import Derived.Test.YtjmjlijmeahmfaaAwk0
namespace Go.Proofs.Ytjmjlijmeahmfaa
open Go.RowKit
theorem range_getD {n j : Nat} (h : j < n) : (List.range n).getD j 0 = j := by
  rw [List.getD_eq_getElem?_getD, List.getElem?_range h]; rfl
theorem names_slt {S : Nat → Prop} {w : World} {q : Nat} {g : Nat → ByteArray} {na : Option Addr} {nc : Nat} (h : NamesS S w q g na nc) : SlT S w 1 na q nc ((List.range q).flatMap (cN g)) := by
  obtain ⟨h1, h2, _, h4⟩ := h
  have hl := fm_len (cN_len g) (List.range q)
  rw [List.length_range] at hl
  refine ⟨⟨h1, h2⟩, hl, cN_one g _, fun h0 => ?_⟩
  obtain ⟨b, o, h5, h6, h7⟩ := h4 h0
  refine ⟨b, o, h5, h6, fun j u hu => ?_⟩
  have hj : j < q := by
    rcases Nat.lt_or_ge j q with h | h
    · exact h
    · rw [List.getElem?_eq_none (by omega)] at hu; cases hu
  have h8 := fm_at (cN_len g) (List.range q) j 0 (by simpa using hj) (by omega)
  rw [Nat.mul_one, Nat.add_zero, hu, range_getD hj] at h8
  rw [h7 j hj, h8]; rfl
theorem parts_slt {S : Nat → Prop} {w : World} {m pc : Nat} {f : Nat → Tr} {A : Nat → Ad} {pa : Option Addr} (hc : m ≤ pc ∧ pc ≤ maxLen) (h : 0 < m → ∃ b o, pa = some ⟨b, o, none⟩ ∧ S b ∧ ∀ i, i < m → At6 w b (o + i * 6) (f i) (A i)) : SlT S w 6 pa m pc ((List.range m).flatMap (cP f A)) := by
  have hl := fm_len (cP_len f A) (List.range m)
  rw [List.length_range] at hl
  refine ⟨hc, hl, cP_one f A _, fun h0 => ?_⟩
  obtain ⟨b, o, h5, h6, h7⟩ := h h0
  refine ⟨b, o, h5, h6, fun j u hu => ?_⟩
  have hj : j < m * 6 := by
    rcases Nat.lt_or_ge j (m * 6) with h | h
    · exact h
    · rw [List.getElem?_eq_none (by omega)] at hu; cases hu
  obtain ⟨i, c, rfl, hc6, hi⟩ : ∃ i c, j = i * 6 + c ∧ c < 6 ∧ i < m := ⟨j / 6, j % 6, by omega, by omega, by omega⟩
  have h8 := fm_at (cP_len f A) (List.range m) i c (by simpa using hi) hc6
  rw [hu, range_getD hi] at h8
  have h9 := h7 i hi
  have : c = 0 ∨ c = 1 ∨ c = 2 ∨ c = 3 ∨ c = 4 ∨ c = 5 := by omega
  rw [show o + (i * 6 + c) = o + i * 6 + c by omega, h8]
  rcases this with rfl | rfl | rfl | rfl | rfl | rfl
  · exact h9.c0
  · exact h9.c1
  · exact h9.c2
  · exact h9.c3
  · exact h9.c4
  · exact h9.c5
def gW (c : Nat) (G : Nat → ByteArray) (nm : ByteArray) (j : Nat) : ByteArray := if j < c then G j else nm
def tW' (c : Nat) (T : Nat → Tr) (p : Int) (j : Nat) : Tr := if j < c then T j else leafT 2 false p ⟨#[]⟩
def aW (c : Nat) (A : Nat → Ad) (j : Nat) : Ad := if j < c then A j else ⟨none, 0, none, 0⟩
theorem fm_congr {F F' : Nat → List Value} : ∀ (D : List Nat), (∀ a ∈ D, F a = F' a) → D.flatMap F = D.flatMap F'
  | [], _ => rfl
  | a :: D, h => by rw [List.flatMap_cons, List.flatMap_cons, h a List.mem_cons_self, fm_congr D (fun b hb => h b (List.mem_cons_of_mem _ hb))]
theorem cells_n (c : Nat) (G : Nat → ByteArray) (nm : ByteArray) : [] ++ (List.range c).flatMap (cN G) ++ [.string nm] = (List.range (c + 1)).flatMap (cN (gW c G nm)) := by
  rw [List.range_succ, List.flatMap_append, List.nil_append, fm_congr (F := cN (gW c G nm)) (F' := cN G) (List.range c) (fun a ha => by unfold cN gW; rw [if_pos (List.mem_range.1 ha)])]
  simp [cN, gW]
theorem cells_p (c : Nat) (T : Nat → Tr) (A : Nat → Ad) (p : Int) : [] ++ (List.range c).flatMap (cP T A) ++ (leafT 2 false p ⟨#[]⟩).cs ⟨none, 0, none, 0⟩ = (List.range (c + 1)).flatMap (cP (tW' c T p) (aW c A)) := by
  rw [List.range_succ, List.flatMap_append, List.nil_append, fm_congr (F := cP (tW' c T p) (aW c A)) (F' := cP T A) (List.range c) (fun a ha => by unfold cP tW' aW; rw [if_pos (List.mem_range.1 ha), if_pos (List.mem_range.1 ha)])]
  simp [cP, tW', aW]
def two (a b : Sq) : Nat → Sq
  | 0 => a
  | _ + 1 => b
set_option maxRecDepth 100000 in
set_option maxHeartbeats 8000000 in
theorem with_any {B : Nat} {w : World} {c : Nat} {T : Nat → Tr} {G : Nat → ByteArray} {x : Ad} (hL : Lies B w (.mk 6 false 0 ⟨#[]⟩ c T c G) x) (hB : B ≤ w.heap.size) (hc : c ≤ 12) (hsl : ∀ i, i < c → slimq (T i)) (nm : ByteArray) (hnm : nm.size ≤ maxLen) (p : Int) (hpr : -9223372036854775808 ≤ p ∧ p < 9223372036854775808) :
    Calls Try.prog 24 #[.agg #[.int .i64 6, .bool false, .int .i64 0, .string ⟨#[]⟩, .slice x.pa c x.pc, .slice x.na c x.nc], .string nm, .agg #[.int .i64 2, .bool false, .int .i64 p, .string ⟨#[]⟩, .slice none 0 0, .slice none 0 0]] w fun e w' => ∃ A', e = .returned ((structT (gW c G nm) (tW' c T p) (osF (gW c G nm) c) (c + 1)).val A') ∧ LiesS (fun k => w.heap.size ≤ k ∧ k < w'.heap.size) w' (structT (gW c G nm) (tW' c T p) (osF (gW c G nm) c) (c + 1)) A' ∧ Below w.heap.size w w' := by
  obtain ⟨A, hp, hr⟩ := hL.part
  have hN : Names B w c G x.na x.nc := hL.lims.2.2.2.2
  have hpc : c ≤ x.pc ∧ x.pc ≤ maxLen := hL.lims.2.2.2.1
  obtain ⟨pa, pc, na, nc⟩ := x
  replace hp : 0 < c → ∃ b o, pa = some ⟨b, o, none⟩ ∧ b < B ∧ ∀ i, i < c → At6 w b (o + i * 6) (T i) (A i) := hp
  replace hN : Names B w c G na nc := hN
  replace hpc : c ≤ pc ∧ pc ≤ maxLen := hpc
  show Calls Try.prog 24 #[.agg #[.int .i64 6, .bool false, .int .i64 0, .string ⟨#[]⟩, .slice pa c pc, .slice na c nc], .string nm, .agg #[.int .i64 2, .bool false, .int .i64 p, .string ⟨#[]⟩, .slice none 0 0, .slice none 0 0]] w _
  have hSN := names_slt hN
  have hSP := parts_slt hpc hp
  have hGS : ∀ i, i < c → (G i).size ≤ maxLen := hN.2.2.1
  obtain ⟨LN, hLN⟩ : ∃ LN, (List.range c).flatMap (cN G) = LN := ⟨_, rfl⟩
  obtain ⟨LP, hLP⟩ : ∃ LP, (List.range c).flatMap (cP T A) = LP := ⟨_, rfl⟩
  rw [hLN] at hSN
  rw [hLP] at hSP
  have HLN : Hid ((List.range c).flatMap (cN G) = LN) := hLN
  have HLP : Hid ((List.range c).flatMap (cP T A) = LP) := hLP
  have HSN : Hid (SlT (fun k => k < B) w 1 na c nc LN) := hSN
  have HSP : Hid (SlT (fun k => k < B) w 6 pa c pc LP) := hSP
  have HR : Hid (∀ i, i < c → Lies B w (T i) (A i)) := hr
  have HSL : Hid (∀ i, i < c → slimq (T i)) := hsl
  have HGS : Hid (∀ i, i < c → (G i).size ≤ maxLen) := hGS
  have hmx : maxLen = 9223372036854775807 := rfl
  have hcn : (c : Int) ≤ (nc : Int) := by have := hN.1; omega
  have hcp : (c : Int) ≤ (pc : Int) := by omega
  have hnc2 : (nc : Int) ≤ 9223372036854775807 := by have := hN.2.1; omega
  have hpc2 : (pc : Int) ≤ 9223372036854775807 := by omega
  have hmin : min (c : Int) (c : Int) = (c : Int) := by omega
  clear hLN hLP hSN hSP hr hsl hGS hL hp hN
  obtain ⟨tr, htr⟩ : ∃ tr, structT (gW c G nm) (tW' c T p) (osF (gW c G nm) c) (c + 1) = tr := ⟨_, rfl⟩
  rw [htr]
  have HTR : Hid (structT (gW c G nm) (tW' c T p) (osF (gW c G nm) c) (c + 1) = tr) := htr
  clear htr
  go_enter Try.func24, Try.ntmps24
  go_wp2_with fail
  obtain ⟨w1, hw1⟩ : ∃ w1, ((((w.alloc (.cells #[.int .i64 6, .bool false, .int .i64 0, .string ⟨#[]⟩, .slice pa c pc, .slice na c nc] 25)).alloc (.cells #[.int .i64 2, .bool false, .int .i64 p, .string ⟨#[]⟩, .slice none 0 0, .slice none 0 0] 25)).alloc (.cells #[.int .i64 0, .bool false, .int .i64 0, .string ⟨#[]⟩, .slice none 0 0, .slice none 0 0] 25)).alloc (.cells #[.string nm] 9)).alloc (.cells #[.slice na c nc, .slice (some ⟨w.heap.size + 1 + 1 + 1, 0, none⟩) 1 1] 23) = w1 := ⟨_, rfl⟩
  have hb1 : Below w.heap.size w w1 := by rw [← hw1]; exact (((((Below.refl _ w).alloc (Nat.le_refl _) _).alloc (by simp) _).alloc (by simp <;> omega) _).alloc (by simp <;> omega) _).alloc (by simp <;> omega) _
  have hs1 : w1.heap.size = w.heap.size + 5 := by rw [← hw1]; simp
  have r0 : w1.heap[w.heap.size]? = some (.cells #[.int .i64 6, .bool false, .int .i64 0, .string ⟨#[]⟩, .slice pa c pc, .slice na c nc] 25 (0, 0)) := by
    rw [← hw1, Below.heap_alloc _ _ _ (by simp <;> omega), Below.heap_alloc _ _ _ (by simp <;> omega), Below.heap_alloc _ _ _ (by simp <;> omega), Below.heap_alloc _ _ _ (by simp)]; exact heap_alloc_new _ _
  have r1 : w1.heap[w.heap.size + 1]? = some (.cells #[.int .i64 2, .bool false, .int .i64 p, .string ⟨#[]⟩, .slice none 0 0, .slice none 0 0] 25 (0, 0)) := by
    rw [← hw1, Below.heap_alloc _ _ _ (by simp <;> omega), Below.heap_alloc _ _ _ (by simp <;> omega), Below.heap_alloc _ _ _ (by simp)]
    have := heap_alloc_new (w.alloc (.cells #[.int .i64 6, .bool false, .int .i64 0, .string ⟨#[]⟩, .slice pa c pc, .slice na c nc] 25)) (.cells #[.int .i64 2, .bool false, .int .i64 p, .string ⟨#[]⟩, .slice none 0 0, .slice none 0 0] 25); simpa using this
  have r2 : w1.heap[w.heap.size + 1 + 1]? = some (.cells #[.int .i64 0, .bool false, .int .i64 0, .string ⟨#[]⟩, .slice none 0 0, .slice none 0 0] 25 (0, 0)) := by
    rw [← hw1, Below.heap_alloc _ _ _ (by simp <;> omega), Below.heap_alloc _ _ _ (by simp)]
    have := heap_alloc_new ((w.alloc (.cells #[.int .i64 6, .bool false, .int .i64 0, .string ⟨#[]⟩, .slice pa c pc, .slice na c nc] 25)).alloc (.cells #[.int .i64 2, .bool false, .int .i64 p, .string ⟨#[]⟩, .slice none 0 0, .slice none 0 0] 25)) (.cells #[.int .i64 0, .bool false, .int .i64 0, .string ⟨#[]⟩, .slice none 0 0, .slice none 0 0] 25); simpa using this
  have r3 : w1.heap[w.heap.size + 1 + 1 + 1]? = some (.cells #[.string nm] 9 (0, 0)) := by
    rw [← hw1, Below.heap_alloc _ _ _ (by simp)]
    have := heap_alloc_new (((w.alloc (.cells #[.int .i64 6, .bool false, .int .i64 0, .string ⟨#[]⟩, .slice pa c pc, .slice na c nc] 25)).alloc (.cells #[.int .i64 2, .bool false, .int .i64 p, .string ⟨#[]⟩, .slice none 0 0, .slice none 0 0] 25)).alloc (.cells #[.int .i64 0, .bool false, .int .i64 0, .string ⟨#[]⟩, .slice none 0 0, .slice none 0 0] 25)) (.cells #[.string nm] 9); simpa using this
  have r4 : w1.heap[w.heap.size + 1 + 1 + 1 + 1]? = some (.cells #[.slice na c nc, .slice (some ⟨w.heap.size + 1 + 1 + 1, 0, none⟩) 1 1] 23 (0, 0)) := by
    rw [← hw1]
    have := heap_alloc_new ((((w.alloc (.cells #[.int .i64 6, .bool false, .int .i64 0, .string ⟨#[]⟩, .slice pa c pc, .slice na c nc] 25)).alloc (.cells #[.int .i64 2, .bool false, .int .i64 p, .string ⟨#[]⟩, .slice none 0 0, .slice none 0 0] 25)).alloc (.cells #[.int .i64 0, .bool false, .int .i64 0, .string ⟨#[]⟩, .slice none 0 0, .slice none 0 0] 25)).alloc (.cells #[.string nm] 9)) (.cells #[.slice na c nc, .slice (some ⟨w.heap.size + 1 + 1 + 1, 0, none⟩) 1 1] 23); simpa using this
  rw [hw1]
  clear hw1
  have hcat := concat9 (two ⟨na, c, nc, LN⟩ ⟨some ⟨w.heap.size + 1 + 1 + 1, 0, none⟩, 1, 1, [.string nm]⟩) 2 (by omega) (fun i hi => by have hh : i = 0 ∨ i = 1 := (by omega); rcases hh with rfl | rfl; exact (show c ≤ 100 by omega); exact (show 1 ≤ 100 by omega)) (w.heap.size + 1 + 1 + 1 + 1) 2 (by omega) w1 (by omega) (fun i hi => by
    have hh : i = 0 ∨ i = 1 := by omega
    rcases hh with rfl | rfl
    · exact ⟨cell_of_row w1 _ 0 _ _ _ r4, (HSN.out.kept (fun k hk => hb1.block k (by omega))).up (fun k hk => by omega)⟩
    · refine ⟨cell_of_row w1 _ 1 _ _ _ r4, ⟨show 1 ≤ 1 from Nat.le_refl _, show 1 ≤ maxLen by unfold maxLen; omega⟩, rfl, fun u hu => ?_, fun _ => ⟨w.heap.size + 1 + 1 + 1, 0, rfl, by omega, fun j u hu => ?_⟩⟩
      · have hu : u ∈ [Value.string nm] := hu
        have : u = .string nm := by simpa using hu
        rw [this]; rfl
      · have hu : [Value.string nm][j]? = some u := hu
        rw [cell_of_row w1 _ _ _ _ _ r3]
        rw [Nat.zero_add]
        simpa using hu)
  have hcat' : Calls Try.prog 57 #[.slice (some ⟨w.heap.size + 1 + 1 + 1 + 1, 0, none⟩) 2 2] w1 fun e w' => ∃ pn cn, e = .returned (.slice pn (0 + c + 1) cn) ∧ SlT (fun k => w1.heap.size ≤ k ∧ k < w'.heap.size) w' 1 pn (0 + c + 1) cn ([] ++ LN ++ [.string nm]) ∧ Below w1.heap.size w1 w' := hcat
  rw [Nat.zero_add] at hcat'
  clear hcat r3 r4
  refine hcat'.mono ?_
  rintro e w2 ⟨pn, cn, rfl, hS2, hb2⟩
  have HS2 : Hid (SlT (fun k => w1.heap.size ≤ k ∧ k < w2.heap.size) w2 1 pn (c + 1) cn ([] ++ LN ++ [.string nm])) := hS2
  have hz2 := hb2.size
  clear hcat' hS2
  have q0 := (hb2.block _ (by omega)).trans r0
  have q1 := (hb2.block _ (by omega)).trans r1
  have q2 := (hb2.block _ (by omega)).trans r2
  have hbb2 : Below w.heap.size w w2 := hb1.trans (hb2.mono (by omega))
  clear r0 r1 r2
  go_wp2_with fail
  refine any_tail (by kernel_rfl) 7 (by exact Nat.le_of_ble_eq_true rfl) (fun i => i + 28) (mixR [(5, fun v W => ∃ g, v = .slice (some ⟨g, 0, none⟩) 1 1 ∧ W.heap[g]? = some (.cells #[.int .i64 2, .bool false, .int .i64 p, .string ⟨#[]⟩, .slice none 0 0, .slice none 0 0] 25 (0, 0))), (6, fun v W => ∃ g g2, v = .slice (some ⟨g2, 0, none⟩) 2 2 ∧ W.heap[g2]? = some (.cells #[.slice pa c pc, .slice (some ⟨g, 0, none⟩) 1 1] 22 (0, 0)) ∧ W.heap[g]? = some (.cells #[.int .i64 2, .bool false, .int .i64 p, .string ⟨#[]⟩, .slice none 0 0, .slice none 0 0] 25 (0, 0)))] [.pointer (some ⟨w.heap.size, 4, none⟩), .slice pa c pc, .int .i64 (c : Int), .slice pa c pc, .agg #[.int .i64 2, .bool false, .int .i64 p, .string ⟨#[]⟩, .slice none 0 0, .slice none 0 0], undef, undef]) (by kernel_rfl) (by kernel_rfl) (by kernel_rfl) (by kernel_rfl) (mixR_later _ _ (stab_cons (fun v W W' h hb => by obtain ⟨g, h1, h2⟩ := h; exact ⟨g, h1, (hb.block _ (lt_of_row h2)).trans h2⟩) (stab_cons (fun v W W' h hb => by obtain ⟨g, g2, h1, h2, h3⟩ := h; exact ⟨g, g2, h1, (hb.block _ (lt_of_row h2)).trans h2, (hb.block _ (lt_of_row h3)).trans h3⟩) stab_nil))) ?step ?post
  case step =>
    intro iq hiq a W hrest hb hk
    have hp3 : a.eval (.tmp 3) = .pointer (some ⟨w.heap.size, 0, none⟩) := (hrest 3 (by intro iq2 hiq2; (repeat' split) <;> omega)).trans rfl
    have fp3 := ev hp3
    have hp5 : a.eval (.tmp 5) = .pointer (some ⟨w.heap.size + 1, 0, none⟩) := (hrest 5 (by intro iq2 hiq2; (repeat' split) <;> omega)).trans rfl
    have fp5 := ev hp5
    have hp7 : a.eval (.tmp 7) = .int .i64 (c : Int) := (hrest 7 (by intro iq2 hiq2; (repeat' split) <;> omega)).trans rfl
    have fp7 := ev hp7
    clear hrest
    have x0 := (hb.block _ (lt_of_row q0)).trans q0
    have x1 := (hb.block _ (lt_of_row q1)).trans q1
    have c4 := cell_of_row W _ 4 _ _ _ x0
    have d0 := cell_of_row W _ 0 _ _ _ x1
    have d1 := cell_of_row W _ 1 _ _ _ x1
    have d2 := cell_of_row W _ 2 _ _ _ x1
    have d3 := cell_of_row W _ 3 _ _ _ x1
    have d4 := cell_of_row W _ 4 _ _ _ x1
    have d5 := cell_of_row W _ 5 _ _ _ x1
    obtain rfl | rfl | rfl | rfl | rfl | rfl | rfl : iq = 0 ∨ iq = 1 ∨ iq = 2 ∨ iq = 3 ∨ iq = 4 ∨ iq = 5 ∨ iq = 6 := by omega
    · clear hiq
      clear hk
      refine ⟨_, rfl, rfl, rfl, wp_value (v := .pointer (some ⟨w.heap.size, 4, none⟩)) (w' := W) ?_ ⟨_, rfl, Below.refl _ _, rfl⟩⟩
      go_simp
    · clear hiq
      have e0 : a.eval (.tmp 28) = .pointer (some ⟨w.heap.size, 4, none⟩) := hk 0 (mem_of (by kernel_rfl))
      have f0 := ev e0
      clear hk
      refine ⟨_, rfl, rfl, rfl, wp_value (v := .slice pa c pc) (w' := W) ?_ ⟨_, rfl, Below.refl _ _, rfl⟩⟩
      go_simp
    · clear hiq
      clear hk
      refine ⟨_, rfl, rfl, rfl, wp_value (v := .int .i64 (c : Int)) (w' := W) ?_ ⟨_, rfl, Below.refl _ _, rfl⟩⟩
      go_simp
    · clear hiq
      have e1 : a.eval (.tmp 29) = .slice pa c pc := hk 1 (mem_of (by kernel_rfl))
      have f1 := ev e1
      have e2 : a.eval (.tmp 30) = .int .i64 (c : Int) := hk 2 (mem_of (by kernel_rfl))
      have f2 := ev e2
      clear hk
      refine ⟨_, rfl, rfl, rfl, wp_value (v := .slice pa c pc) (w' := W) ?_ ⟨_, rfl, Below.refl _ _, rfl⟩⟩
      go_simp
    · clear hiq
      clear hk
      refine ⟨_, rfl, rfl, rfl, wp_value (v := .agg #[.int .i64 2, .bool false, .int .i64 p, .string ⟨#[]⟩, .slice none 0 0, .slice none 0 0]) (w' := W) ?_ ⟨_, rfl, Below.refl _ _, rfl⟩⟩
      go_simp
    · clear hiq
      have e4 : a.eval (.tmp 32) = .agg #[.int .i64 2, .bool false, .int .i64 p, .string ⟨#[]⟩, .slice none 0 0, .slice none 0 0] := hk 4 (mem_of (by kernel_rfl))
      have f4 := ev e4
      clear hk
      refine ⟨_, rfl, rfl, rfl, wp_value (v := .slice (some ⟨W.heap.size, 0, none⟩) 1 1) (w' := W.alloc (.cells #[.int .i64 2, .bool false, .int .i64 p, .string ⟨#[]⟩, .slice none 0 0, .slice none 0 0] 25)) ?_ ⟨_, rfl, (Below.refl _ _).alloc (Nat.le_refl _) _, ⟨W.heap.size, rfl, heap_alloc_new _ _⟩⟩⟩
      go_simp
    · clear hiq
      have e3 : a.eval (.tmp 31) = .slice pa c pc := hk 3 (mem_of (by kernel_rfl))
      have f3 := ev e3
      obtain ⟨g, e5, h5⟩ : ∃ g, a.eval (.tmp 33) = .slice (some ⟨g, 0, none⟩) 1 1 ∧ W.heap[g]? = some (.cells #[.int .i64 2, .bool false, .int .i64 p, .string ⟨#[]⟩, .slice none 0 0, .slice none 0 0] 25 (0, 0)) := hk 5 (mem_of (by kernel_rfl))
      have f5 := ev e5
      clear hk
      refine ⟨_, rfl, rfl, rfl, wp_value (v := .slice (some ⟨W.heap.size, 0, none⟩) 2 2) (w' := W.alloc (.cells #[.slice pa c pc, .slice (some ⟨g, 0, none⟩) 1 1] 22)) ?_ ⟨_, rfl, (Below.refl _ _).alloc (Nat.le_refl _) _, ⟨g, W.heap.size, rfl, heap_alloc_new _ _, (Below.heap_alloc _ _ _ (lt_of_row h5)).trans h5⟩⟩⟩
      go_simp
  case post =>
    intro V w3 hb3 hV
    obtain ⟨g, g2, e6, h62, h6⟩ : ∃ g g2, V 6 = .slice (some ⟨g2, 0, none⟩) 2 2 ∧ w3.heap[g2]? = some (.cells #[.slice pa c pc, .slice (some ⟨g, 0, none⟩) 1 1] 22 (0, 0)) ∧ w3.heap[g]? = some (.cells #[.int .i64 2, .bool false, .int .i64 p, .string ⟨#[]⟩, .slice none 0 0, .slice none 0 0] 25 (0, 0)) := hV 6 (by decide)
    clear hV
    simp only [putAll, e6]
    clear e6
    have hz3 := hb3.size
    have hg2 := lt_of_row h62
    have hg1 := lt_of_row h6
    have x2 := (hb3.block _ (by omega)).trans q2
    have hbb3 : Below w.heap.size w w3 := hbb2.trans (hb3.mono (by omega))
    have HS3 : Hid (SlT (fun k => w1.heap.size ≤ k ∧ k < w3.heap.size) w3 1 pn (c + 1) cn ([] ++ LN ++ [.string nm])) := (HS2.out.kept (fun k hk => hb3.block k hk.2)).up (fun k hk => ⟨hk.1, by omega⟩)
    have hcat := concat25 (two ⟨pa, c, pc, LP⟩ ⟨some ⟨g, 0, none⟩, 1, 1, (leafT 2 false p ⟨#[]⟩).cs ⟨none, 0, none, 0⟩⟩) 2 (by omega) (fun i hi => by have hh : i = 0 ∨ i = 1 := (by omega); rcases hh with rfl | rfl; exact (show c ≤ 100 by omega); exact (show 1 ≤ 100 by omega)) g2 2 (by omega) w3 hg2 (fun i hi => by
      have hh : i = 0 ∨ i = 1 := by omega
      rcases hh with rfl | rfl
      · exact ⟨cell_of_row w3 _ 0 _ _ _ h62, (HSP.out.kept (fun k hk => hbb3.block k (by omega))).up (fun k hk => by omega)⟩
      · refine ⟨cell_of_row w3 _ 1 _ _ _ h62, ⟨show 1 ≤ 1 from Nat.le_refl _, show 1 ≤ maxLen by unfold maxLen; omega⟩, rfl, fun u hu => cs_one' _ _ u hu, fun _ => ⟨g, 0, rfl, by omega, fun j u hu => ?_⟩⟩
        rw [cell_of_row w3 _ _ _ _ _ h6, Nat.zero_add]
        have hu' : #[.int .i64 2, .bool false, .int .i64 p, .string ⟨#[]⟩, .slice none 0 0, .slice none 0 0].toList[j]? = some u := hu
        rw [← hu']; simp)
    have hcat' : Calls Try.prog 58 #[.slice (some ⟨g2, 0, none⟩) 2 2] w3 fun e w' => ∃ pp cp, e = .returned (.slice pp (0 + c + 1) cp) ∧ SlT (fun k => w3.heap.size ≤ k ∧ k < w'.heap.size) w' 6 pp (0 + c + 1) cp ([] ++ LP ++ (leafT 2 false p ⟨#[]⟩).cs ⟨none, 0, none, 0⟩) ∧ Below w3.heap.size w3 w' := hcat
    rw [Nat.zero_add] at hcat'
    clear hcat h62 h6
    go_wp2_with fail
    refine hcat'.mono ?_
    rintro e w4 ⟨pp, cp, rfl, hS4, hb4⟩
    have hz4 := hb4.size
    have x4 := (hb4.block _ (by omega)).trans x2
    have hbb4 : Below w.heap.size w w4 := hbb3.trans (hb4.mono (by omega))
    have hSN4 := (HS3.out.kept (w' := w4) (fun k hk => hb4.block k hk.2)).up (S' := fun k => k < w4.heap.size) (fun k hk => by omega)
    have hSP4 := hS4.up (S' := fun k => k < w4.heap.size) (fun k hk => hk.2)
    rw [← HLN.out, cells_n] at hSN4
    rw [← HLP.out, cells_p] at hSP4
    obtain ⟨nb, no, rfl, hnb, hnc⟩ := names_at hSN4 (by simp) (by omega)
    obtain ⟨pb, po, rfl, hpb, hpat⟩ := parts_at hSP4 (by simp) (by omega)
    have hst := struct_any (B := w4.heap.size) (w := w4) (q := c + 1) (nc := cn) (nb := nb) (no := no) (g := gW c G nm) (m := c + 1) (pc := cp) (pb := pb) (po := po) (f := tW' c T p) (A := aW c A) c (by omega) (by omega) (Nat.le_refl _) hnb
      (fun i hi => by have := hnc i hi; rwa [range_getD hi] at this) (fun i hi => by unfold gW; split; exact HGS.out i (by assumption); exact hnm) hpb (fun i hi => by have := hpat i hi; rwa [range_getD hi] at this)
      (fun i hi => by unfold tW' aW; split; exact (HR.out i (by assumption)).later (hbb4.mono hB) |>.up (by omega); exact lies_leaf (by decide) hpr (Nat.zero_le _)) (fun i hi => by unfold tW'; split; exact HSL.out i (by assumption); exact ⟨Nat.zero_le _, Nat.zero_le _, fun i hi => absurd hi (Nat.not_lt_zero i)⟩)
    clear hS4 hSN4 hSP4 hnc hpat hcat'
    rw [HTR.out] at hst
    go_wp2_with fail
    refine hst.mono ?_
    rintro e w5 ⟨A5, he, hL5, hb5⟩
    replace he : e = .returned (.agg #[.int .i64 tr.k, .bool tr.b, .int .i64 tr.n, .string tr.s, .slice A5.pa tr.m A5.pc, .slice A5.na tr.q A5.nc]) := he
    subst he
    have x5 := (hb5.block _ (by omega)).trans x4
    have b0 := cell_of_row w5 _ 0 _ _ _ x5
    have b1 := cell_of_row w5 _ 1 _ _ _ x5
    have b2 := cell_of_row w5 _ 2 _ _ _ x5
    have b3 := cell_of_row w5 _ 3 _ _ _ x5
    have b4 := cell_of_row w5 _ 4 _ _ _ x5
    have b5 := cell_of_row w5 _ 5 _ _ _ x5
    have y0 := frozen_of_row w5 _ 0 _ _ x5
    have y1 := frozen_of_row w5 _ 1 _ _ x5
    have y2 := frozen_of_row w5 _ 2 _ _ x5
    have y3 := frozen_of_row w5 _ 3 _ _ x5
    have y4 := frozen_of_row w5 _ 4 _ _ x5
    have y5 := frozen_of_row w5 _ 5 _ _ x5
    have hbb5 : Below w.heap.size w w5 := hbb4.trans (hb5.mono (by omega))
    have hz5 := hb5.size
    go_wp2
    change bodyPost _ _ _ _ _ (set6 w5 (w.heap.size + 1 + 1) (.int .i64 tr.k) (.bool tr.b) (.int .i64 tr.n) (.string tr.s) (.slice A5.pa tr.m A5.pc) (.slice A5.na tr.q A5.nc))
    have hro := set6_row x5 (.int .i64 tr.k) (.bool tr.b) (.int .i64 tr.n) (.string tr.s) (.slice A5.pa tr.m A5.pc) (.slice A5.na tr.q A5.nc)
    have hkeep : ∀ k1, k1 ≠ w.heap.size + 1 + 1 → (set6 w5 (w.heap.size + 1 + 1) (.int .i64 tr.k) (.bool tr.b) (.int .i64 tr.n) (.string tr.s) (.slice A5.pa tr.m A5.pc) (.slice A5.na tr.q A5.nc)).heap[k1]? = w5.heap[k1]? := fun k1 h1 => set6_block _ _ _ _ _ _ _ _ k1 h1
    have hsz := set6_size w5 (w.heap.size + 1 + 1) (.int .i64 tr.k) (.bool tr.b) (.int .i64 tr.n) (.string tr.s) (.slice A5.pa tr.m A5.pc) (.slice A5.na tr.q A5.nc)
    have hof := set6_below hbb5 (w.heap.size + 1 + 1) (by omega) (.int .i64 tr.k) (.bool tr.b) (.int .i64 tr.n) (.string tr.s) (.slice A5.pa tr.m A5.pc) (.slice A5.na tr.q A5.nc)
    obtain ⟨wf, hwf⟩ : ∃ wf, set6 w5 (w.heap.size + 1 + 1) (.int .i64 tr.k) (.bool tr.b) (.int .i64 tr.n) (.string tr.s) (.slice A5.pa tr.m A5.pc) (.slice A5.na tr.q A5.nc) = wf := ⟨_, rfl⟩
    rw [hwf] at hro hkeep hsz hof ⊢
    clear hwf
    have o0 := cell_of_row wf _ 0 _ _ _ hro
    have o1 := cell_of_row wf _ 1 _ _ _ hro
    have o2 := cell_of_row wf _ 2 _ _ _ hro
    have o3 := cell_of_row wf _ 3 _ _ _ hro
    have o4 := cell_of_row wf _ 4 _ _ _ hro
    have o5 := cell_of_row wf _ 5 _ _ _ hro
    refine bodyPost_ret (v := .agg #[.int .i64 tr.k, .bool tr.b, .int .i64 tr.n, .string tr.s, .slice A5.pa tr.m A5.pc, .slice A5.na tr.q A5.nc]) (by simp [results, Try.results24, go_sem, o0, o1, o2, o3, o4, o5]) rfl ⟨A5, rfl, ?_, hof⟩
    exact (hL5.kept (fun k1 hk => hkeep k1 (by omega))).up (fun k1 hk => ⟨by omega, by omega⟩)
end Go.Proofs.Ytjmjlijmeahmfaa
