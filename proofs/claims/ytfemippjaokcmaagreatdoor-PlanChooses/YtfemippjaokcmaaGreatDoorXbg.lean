/- How a value that is handed in is read: as a tree, with its memory. What the expressions of texts are; how long their spans are; lists of texts that are handed in. -/
import Derived.Test.YtfemippjaokcmaaGreatDoorXaq
import Derived.Test.YtfemippjaokcmaaGreatDoorRows
import Derived.WalkKit
import Derived.ProofKit
import Derived.OpenShut
import Derived.ShutString
import Derived.Deep.Strs
import Derived.Deep.Fields
import Derived.Test.YtfemippjaokcmaaGreatDoorXbe
import Derived.Test.YtfemippjaokcmaaGreatDoorXbf
namespace Go.Proofs.YtfemippjaokcmaaGreatDoor.V
open Go.ChangeShapes Go.WideShapes Go.ChangeAt Go.RowKit Go.Deep
theorem laidOut : laidOutB Tryz.prog = true := by kernel_rfl
theorem add_at (g q n : Nat) : (⟨g, q, none⟩ : Addr).add n = ⟨g, q + n, none⟩ := by unfold Addr.add; split <;> simp_all
theorem open_names {H : Type} {enc : TypeId × Value → H} {W : World} {fuel : Nat} {cs : List Value} {x : DataW H × List MemPlace}
    (h : DataW.trod enc Tryz.prog W 0 (fun _ => true) true fuel 22 cs = some x) :
    ∃ (na : Option Addr) (q nc : Nat) (g : Nat → ByteArray), cs = [.slice na q nc] ∧ Names W.heap.size W q g na nc := by
  rcases open_strs (P := Tryz.prog) Tryz.underlying22 Tryz.underlying9 (by kernel_rfl) h with ⟨rfl, _⟩ | ⟨a, len, cap, m, S, rfl, _, hl, hm, hmm, _, hall⟩
  · exact ⟨none, 0, 0, fun _ => ⟨#[]⟩, rfl, Nat.le_refl _, Nat.zero_le _, fun i hi => absurd hi (Nat.not_lt_zero _), fun h0 => absurd h0 (Nat.lt_irrefl _)⟩
  · simp only [if_true] at hmm
    subst hmm
    refine ⟨some a, len, m, S, rfl, hl, hm, fun i hi => (hall i (by omega)).2, fun h0 => ?_⟩
    obtain ⟨g, q, spot⟩ := a
    have hspot : spot = none := by simpa [Addr.add] using World.cell?_spot (hall 0 (by omega)).1
    subst hspot
    refine ⟨g, q, rfl, ?_, fun i hi => ?_⟩
    · have := block_lt (hall 0 (by omega)).1
      rw [add_at] at this
      exact this
    · have := (hall i (by omega)).1
      rw [add_at] at this
      exact this
end Go.Proofs.YtfemippjaokcmaaGreatDoor.V
namespace Go.Proofs.YtfemippjaokcmaaGreatDoor
open Go.RowKit Go.Shelf
attribute [local go_sem] Oper.semAt_some fw0 fw1 fw2
def Wp (t : Et) : Prop := AllE t ∧ Pc t 3000
theorem zero_wp : Wp zeroT := ⟨all_zero, pc_not (by show ¬ 0 = 6; decide) (by decide)⟩
theorem whr_wp {ws : List Wd} (hz : Wz ws) (hl : Wl ws) (hq : Wq ws) {M : Sm} {s : PS} (h : Wp M.wh) : Wp (whrF ws M s).1.wh := by
  unfold whrF
  split
  · next hi =>
    have hk : (wAt ws s.at').k ≠ 0 := by rw [isP_kind hi]; decide
    have hs : s.at' < ws.length := by
      rcases Nat.lt_or_ge s.at' ws.length with h1 | h1
      · exact h1
      · exact absurd (by rw [wAt_out h1]) hk
    exact ⟨expr_all hl hq _, expr_pc hz hq _ (hz.next hs hk)⟩
  · exact h
theorem ord_wh (ws : List Wd) (M : Sm) (s : PS) : (ordF ws M s).1.wh = M.wh := by
  unfold ordF
  split <;> rfl
theorem src_wh (ws : List Wd) (M : Sm) (s : PS) : (srcF ws M s).1.wh = M.wh := by
  unfold srcF
  split <;> rfl
theorem col_wh (ws : List Wd) (M : Sm) (s : PS) : (colF ws M s).1.wh = M.wh := by
  unfold colF
  split
  · rfl
  split
  · rfl
  · rfl
theorem sld_wp {ws : List Wd} (hz : Wz ws) (hl : Wl ws) (hq : Wq ws) (s : PS) : Wp (slD ws Sm.new s).1.wh := by
  unfold slD
  rw [ord_wh]
  unfold slW
  refine whr_wp hz hl hq ?_
  unfold slO
  rw [src_wh]
  unfold slC
  rw [col_wh]
  exact zero_wp
theorem sel_wp {ws : List Wd} (hz : Wz ws) (hl : Wl ws) (hq : Wq ws) (s : PS) : Wp (selF ws Sm.new s).1.wh := by
  unfold selF
  split
  · exact sld_wp hz hl hq s
  · exact sld_wp hz hl hq s
theorem stm_wp {ws : List Wd} (hz : Wz ws) (hl : Wl ws) (hq : Wq ws) (s : PS) : Wp (stmF ws s).1.wh := by
  unfold stmF
  split
  · unfold creF
    split
    · exact zero_wp
    split
    · exact zero_wp
    · exact zero_wp
  split
  · exact zero_wp
  split
  · exact whr_wp hz hl hq zero_wp
  split
  · exact whr_wp hz hl hq zero_wp
  split
  · exact sel_wp hz hl hq _
  · exact zero_wp
/- Of any text. -/
theorem ps_wp (l : List UInt8) : Wp (psF l).1 := by
  unfold psF
  split
  · exact zero_wp
  · show Wp (parF (preL ++ l)).1.wh
    unfold parF
    split
    · exact zero_wp
    · next h1 =>
      have hb : (wordsR (preL ++ l)).2.2 = 0 := Classical.not_not.1 h1
      split
      · exact zero_wp
      · obtain ⟨hz, hl, -, -, -⟩ := words_ok hb
        exact stm_wp hz hl (words_q hb) _
theorem nextF_len : ∀ (l n : List UInt8), V.nextF l = some n → n.length ≤ l.length
  | [], n, h => by cases h
  | c :: l, n, h => by
    unfold V.nextF at h
    cases hq : V.nextF l with
    | some m =>
      rw [hq] at h
      have := nextF_len l m hq
      injection h with h
      subst h
      simp only [List.length_cons]
      omega
    | none =>
      rw [hq] at h
      dsimp only at h
      split at h
      · cases h
      · injection h with h
        subst h
        simp
theorem nextB_len (K : ByteArray) : (V.nextB K).size ≤ K.size := by
  show (V.nextL K.data.toList).length ≤ K.data.toList.length
  unfold V.nextL
  cases hq : V.nextF K.data.toList with
  | none => exact Nat.zero_le _
  | some n => exact nextF_len _ n hq
theorem span_len {sg : List UInt8} {K : ByteArray} (h : K.size ≤ 9000) : (spanF sg K).2.1.size ≤ 20000 := by
  have hn := nextB_len K
  unfold spanF
  repeat' split
  all_goals first
    | exact Nat.zero_le _
    | (show K.size ≤ 20000; omega)
    | (show (V.nextB K).size ≤ 20000; omega)
theorem saidC_len {sg : ByteArray} {f l : En} (h : EnL l) : (saidC sg f l).2.2.size ≤ 20000 := by
  unfold saidC
  split
  · next hk =>
    have h1 := h.lit hk.2
    split
    · exact span_len (show (litK l).size ≤ 9000 from litK_len ⟨h1.1, h1.2.1⟩)
    · exact Nat.zero_le _
  · exact Nat.zero_le _
theorem said_len {t : Et} (h : AllE t) : (saidE t).2.2.size ≤ 20000 := by
  unfold saidE saidF
  split
  · split
    · exact saidC_len (h.sub 0 [])
    · exact saidC_len (h.sub 1 [])
  · exact Nat.zero_le _
/- Both plans of an expression. -/
theorem both_plans {t : Et} (h : AllE t) (d : Nat) (l : List ByteArray) : foldL l (partsE d t) = chooseL ((partsE d t).map saidE) l :=
  law_is (partsE d t) l (fun x hx hok => lsE_ok (h.parts d x hx) hok)
/- A list of texts that is handed in. -/
structure Lst (w : World) (p : Option Addr) (xs : List ByteArray) : Prop where
  len : xs.length ≤ 9223372036854775807
  lies : 0 < xs.length → ∃ g q, p = some ⟨g, q, none⟩ ∧ g < w.heap.size ∧ ∀ i x, xs[i]? = some x → w.cell? ⟨g, q + i, none⟩ = some (.string x)
section
open Go.ChangeShapes Go.WideShapes Go.ChangeAt Go.Deep
set_option maxRecDepth 100000 in
theorem cells_slice {W : World} {r : Reach} {b0 : Nat} {v : Value} {a : Option Addr} {n c : Nat} (hv : Value.okWide Tryz.prog W r b0 22 v) (h : v.cells.toList = [.slice a n c]) : v = .slice a n c := by
  simp only [Value.okWide, Tryz.underlying22, Cell.okWide] at hv
  cases v <;> simp_all [Value.cells, Cell.ok, Tryz.underlying22]
set_option maxRecDepth 100000 in
theorem open_list {H : Type} {enc : TypeId × Value → H} {W : World} {r : Reach} {b0 : Nat} {v : Value} {d : DataW H} {p : List MemPlace}
    (hv : Value.okWide Tryz.prog W r b0 22 v) (h : DataW.Trod enc Tryz.prog W 0 (fun _ => true) true 22 v d p) :
    ∃ (xs : List ByteArray) (a : Option Addr) (c : Nat), v = .slice a xs.length c ∧ Lst W a xs := by
  obtain ⟨fuel, hf⟩ := h
  obtain ⟨a, n, c, g, h1, h2, h3, -, h5⟩ := V.open_names hf
  have hv' := cells_slice hv h1
  refine ⟨(List.range n).map g, a, c, by simpa using hv', ?_, fun h0 => ?_⟩
  · have : maxLen = 9223372036854775807 := rfl
    rw [List.length_map, List.length_range]
    omega
  · obtain ⟨b, o, e1, e2, e3⟩ := h5 (by simpa using h0)
    refine ⟨b, o, e1, e2, fun i x hx => ?_⟩
    have hi : i < n := by simpa using (List.getElem?_eq_some_iff.1 hx).1
    rw [e3 i hi]
    simp [hi] at hx
    rw [hx]
end
end Go.Proofs.YtfemippjaokcmaaGreatDoor
