/- Struct of any number of names and parts up to 13; two lists of values that grow side by side (Two). -/
import Derived.Test.YtjmjlijmeahmfaaWth
import Derived.Test.YtjmjlijmeahmfaaStn
import Derived.Test.YtjmjlijmeahmfaaRfs
import Derived.Test.YtjmjlijmeahmfaaGtn
namespace Go.Proofs.Ytjmjlijmeahmfaa
open Go.RowKit
theorem lies_congr {S : Nat → Prop} {w : World} {k : Int} {b : Bool} {n : Int} {s : ByteArray} {m : Nat} {f f' : Nat → Tr} {q : Nat} {g g' : Nat → ByteArray} {x : Ad} (h : LiesS S w (.mk k b n s m f q g) x) (hf : ∀ i, i < m → f' i = f i) (hg : ∀ i, i < q → g' i = g i) : LiesS S w (.mk k b n s m f' q g') x := by
  cases h with
  | mk A hk hn hs hm hp hr hq =>
    obtain ⟨q1, q2, q3, q4⟩ := hq
    refine .mk A hk hn hs hm (fun h0 => ?_) (fun i hi => by rw [hf i hi]; exact hr i hi) ⟨q1, q2, fun i hi => by rw [hg i hi]; exact q3 i hi, fun h0 => ?_⟩
    · obtain ⟨b', o, h1, h2, h3⟩ := hp h0
      exact ⟨b', o, h1, h2, fun i hi => by rw [hf i hi]; exact h3 i hi⟩
    · obtain ⟨b', o, h1, h2, h3⟩ := q4 h0
      exact ⟨b', o, h1, h2, fun i hi => by rw [hg i hi]; exact h3 i hi⟩
theorem struct_both {B : Nat} {w : World} {q nc m pc : Nat} {na pa : Option Addr} {g : Nat → ByteArray} {f : Nat → Tr} {A : Nat → Ad} (N : Nat) (hN : N = min q m) (hN13 : N ≤ 13) (hB : B ≤ w.heap.size)
    (hnm : Names B w q g na nc) (hp : 0 < m → ∃ b o, pa = some ⟨b, o, none⟩ ∧ b < B ∧ ∀ i, i < m → At6 w b (o + i * 6) (f i) (A i)) (hr : ∀ i, i < m → Lies B w (f i) (A i)) (hsl : ∀ i, i < m → slimq (f i)) :
    Calls Try.prog 21 #[.slice na q nc, .slice pa m pc] w fun e w' => ∃ A', e = .returned ((docT g f (docP g N)).val A') ∧ LiesS (fun k => w.heap.size ≤ k ∧ k < w'.heap.size) w' (docT g f (docP g N)) A' ∧ Below w.heap.size w w' := by
  cases N with
  | zero =>
    refine (struct_none hN.symm).mono ?_
    rintro e w' ⟨he, hb⟩
    exact ⟨⟨none, 0, none, 0⟩, he, .mk (fun _ => ⟨none, 0, none, 0⟩) (by decide) (by decide) (Nat.zero_le _) ⟨Nat.le_refl _, Nat.zero_le _⟩ (fun h => absurd h (Nat.lt_irrefl _)) (fun i hi => absurd hi (Nat.not_lt_zero i)) ⟨Nat.le_refl _, Nat.zero_le _, fun i hi => absurd hi (Nat.not_lt_zero i), fun h => absurd h (Nat.lt_irrefl _)⟩, hb⟩
  | succ n =>
    have hq : 0 < q := by have : n + 1 ≤ q := by rw [hN]; exact Nat.min_le_left _ _
                          omega
    have hm : 0 < m := by have : n + 1 ≤ m := by rw [hN]; exact Nat.min_le_right _ _
                          omega
    obtain ⟨_, _, h3, h4⟩ := hnm
    obtain ⟨nb, no, rfl, hnb, hnc⟩ := h4 hq
    obtain ⟨pb, po, rfl, hpb, hat⟩ := hp hm
    refine (struct_any n hN13 hN hB hnb hnc h3 hpb hat hr hsl).mono ?_
    rintro e w' ⟨A', he, hL, hb⟩
    have hK := kept_doc g n
    have hlen : (keptP g (osF g n) (n + 1) (n + 1)).length = (docP g (n + 1)).length := by rw [hK]
    have hL' : LiesS (fun k => w.heap.size ≤ k ∧ k < w'.heap.size) w' (.mk 6 false 0 ⟨#[]⟩ (docP g (n + 1)).length (fun j => f ((docP g (n + 1)).getD j 0)) (docP g (n + 1)).length (fun j => ((docP g (n + 1)).map g).getD j ⟨#[]⟩)) A' := by
      rw [← hK]; exact hL
    refine ⟨A', ?_, lies_congr hL' (fun i _ => rfl) (fun i hi => ?_), hb⟩
    · rw [he]
      show Ending.returned (.agg #[.int .i64 6, .bool false, .int .i64 0, .string ⟨#[]⟩, .slice A'.pa (keptP g (osF g n) (n + 1) (n + 1)).length A'.pc, .slice A'.na (keptP g (osF g n) (n + 1) (n + 1)).length A'.nc]) = _
      rw [hlen]; rfl
    · rw [List.getD_eq_getElem?_getD, List.getD_eq_getElem?_getD, List.getElem?_map, List.getElem?_eq_getElem hi]; rfl
def Sk (wr : World) (v8 v9 : Value) (k : Nat) : Prop := k < wr.heap.size ∧ some k ≠ v8.ownBlock ∧ some k ≠ v9.ownBlock
structure Two (base : Nat) (wr : World) (v8 v9 : Value) (i j : Nat) (T : Nat → Tr) (A A' : Nat → Ad) : Prop where
  own8 : wr.ownsRow base 25 6 v8 i (flat i (fun k => (T k).cs (A k)))
  own9 : wr.ownsRow base 33 6 v9 j (flat j (fun k => (T k).cs (A' k)))
  lies8 : ∀ k, k < i → LiesS (Sk wr v8 v9) wr (T k) (A k)
  lies9 : ∀ k, k < j → LiesS (Sk wr v8 v9) wr (T k) (A' k)
theorem Two.kept {base : Nat} {w w' : World} {v8 v9 : Value} {i j : Nat} {T : Nat → Tr} {A A' : Nat → Ad} (h : Two base w v8 v9 i j T A A') (hb : Below w.heap.size w w') : Two base w' v8 v9 i j T A A' := by
  have hk : ∀ k, Sk w v8 v9 k → w'.heap[k]? = w.heap[k]? := fun k hk => hb.block k hk.1
  have hu : ∀ k, Sk w v8 v9 k → Sk w' v8 v9 k := fun k hk => ⟨Nat.lt_of_lt_of_le hk.1 hb.size, hk.2⟩
  exact ⟨own_kept h.own8 (fun k hk => hb.block k (h.own8.lt k hk).2), own_kept h.own9 (fun k hk => hb.block k (h.own9.lt k hk).2), fun k hk2 => ((h.lies8 k hk2).kept hk).up hu, fun k hk2 => ((h.lies9 k hk2).kept hk).up hu⟩
theorem flat_step {T : Nat → Tr} {A : Nat → Ad} (i : Nat) (a : Ad) : flat (i + 1) (fun k => (T k).cs (if k = i then a else A k)) = flat i (fun k => (T k).cs (A k)) ++ (T i).cs a := by
  show flat i (fun j => (T j).cs (if j = i then a else A j)) ++ (T i).cs (if i = i then a else A i) = _
  rw [if_pos rfl, flat_congr (fun j hj => by rw [if_neg (by omega)])]
theorem Two.step8 {base : Nat} {w2 w3 : World} {v8 v9 v' : Value} {i j : Nat} {T : Nat → Tr} {A A' : Nat → Ad} {a : Ad} (h : Two base w2 v8 v9 i j T A A') (hT : LiesS (Sk w2 v8 v9) w2 (T i) a)
    (ho : w3.ownsRow base 25 6 v' (i + 1) (flat i (fun k => (T k).cs (A k)) ++ (T i).cs a)) (hg : w2.grownBy w3 v8.ownBlock) (hbk : v'.ownBlock = v8.ownBlock ∨ v'.ownBlock = some w2.heap.size) :
    Two base w3 v' v9 (i + 1) j T (fun k => if k = i then a else A k) A' := by
  have hk : ∀ k, Sk w2 v8 v9 k → w3.heap[k]? = w2.heap[k]? := fun k hk => hg.block k hk.1 hk.2.1
  have hu : ∀ k, Sk w2 v8 v9 k → Sk w3 v' v9 k := fun k hk => ⟨Nat.lt_of_lt_of_le hk.1 hg.size, fun e => by
    rcases hbk with hb | hb
    · rw [hb] at e; exact hk.2.1 e
    · rw [hb] at e; injection e with e; have := hk.1; omega, hk.2.2⟩
  refine ⟨by rw [flat_step]; exact ho, own_kept h.own9 (fun k hk => hg.block k (h.own9.lt k hk).2 (own_ne h.own9 h.own8 (by decide) k hk)), fun k hk2 => ?_, fun k hk2 => ((h.lies9 k hk2).kept hk).up hu⟩
  by_cases hki : k = i
  · subst hki
    show LiesS _ w3 (T k) (if k = k then a else A k)
    rw [if_pos rfl]
    exact (hT.kept hk).up hu
  · show LiesS _ w3 (T k) (if k = i then a else A k)
    rw [if_neg hki]
    exact ((h.lies8 k (by omega)).kept hk).up hu
theorem Two.step9 {base : Nat} {w2 w3 : World} {v8 v9 v' : Value} {i j : Nat} {T : Nat → Tr} {A A' : Nat → Ad} {a : Ad} (h : Two base w2 v8 v9 i j T A A') (hT : LiesS (Sk w2 v8 v9) w2 (T j) a)
    (ho : w3.ownsRow base 33 6 v' (j + 1) (flat j (fun k => (T k).cs (A' k)) ++ (T j).cs a)) (hg : w2.grownBy w3 v9.ownBlock) (hbk : v'.ownBlock = v9.ownBlock ∨ v'.ownBlock = some w2.heap.size) :
    Two base w3 v8 v' i (j + 1) T A (fun k => if k = j then a else A' k) := by
  have hk : ∀ k, Sk w2 v8 v9 k → w3.heap[k]? = w2.heap[k]? := fun k hk => hg.block k hk.1 hk.2.2
  have hu : ∀ k, Sk w2 v8 v9 k → Sk w3 v8 v' k := fun k hk => ⟨Nat.lt_of_lt_of_le hk.1 hg.size, hk.2.1, fun e => by
    rcases hbk with hb | hb
    · rw [hb] at e; exact hk.2.2 e
    · rw [hb] at e; injection e with e; have := hk.1; omega⟩
  refine ⟨own_kept h.own8 (fun k hk => hg.block k (h.own8.lt k hk).2 (own_ne h.own8 h.own9 (by decide) k hk)), by rw [flat_step]; exact ho, fun k hk2 => ((h.lies8 k hk2).kept hk).up hu, fun k hk2 => ?_⟩
  by_cases hki : k = j
  · subst hki
    show LiesS _ w3 (T k) (if k = k then a else A' k)
    rw [if_pos rfl]
    exact (hT.kept hk).up hu
  · show LiesS _ w3 (T k) (if k = j then a else A' k)
    rw [if_neg hki]
    exact ((h.lies9 k (by omega)).kept hk).up hu
theorem slt_one (w : World) (cs : Array Value) (E sz : Nat) (h : cs.size = 1 * sz) (h1 : ∀ u ∈ cs.toList, u.oneCell' = true) : SlT (fun _ => True) (w.alloc (.cells cs E)) sz (some ⟨w.heap.size, 0, none⟩) 1 1 cs.toList := by
  refine ⟨⟨Nat.le_refl _, by unfold maxLen; omega⟩, by simpa using h, h1, fun _ => ⟨w.heap.size, 0, rfl, trivial, fun j u hu => ?_⟩⟩
  rw [cell_of_row _ _ _ _ _ _ (heap_alloc_new w _), Nat.zero_add]
  simpa using hu
theorem flat_fm (F : Nat → List Value) : ∀ n, flat n F = (List.range n).flatMap F
  | 0 => rfl
  | n + 1 => by
    show flat n F ++ F n = _
    rw [List.range_succ, List.flatMap_append, flat_fm F n]; simp
end Go.Proofs.Ytjmjlijmeahmfaa
