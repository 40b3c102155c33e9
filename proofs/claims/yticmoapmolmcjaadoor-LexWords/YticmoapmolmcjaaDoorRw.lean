/- The document's word, where it is a text between quotes, or x and one. -/
import Derived.Test.YticmoapmolmcjaaDoorRo
namespace Go.Proofs.YticmoapmolmcjaaDoor
open Go.RowKit Go.Shelf
def rE (a : Nat) (x : Fo) : Nat := match x with
  | none => 0
  | some y => a + y.2.2
/- What the document's word answers: the place behind, and the word where there is one. -/
def RW (a : Nat) (x : Fo) (e : Ending) : Prop := ∃ (K : Int) (S : ByteArray) (A : Int), e = .returned (.tuple #[.agg #[.int .i64 K, .string S, .int .i64 A], .int .i64 (rE a x : Int)]) ∧ ∀ k t n, x = some (k, t, n) → K = (k : Int) ∧ S = ⟨t.toArray⟩ ∧ A = (a : Int)
theorem RW.none (a : Nat) (K : Int) (S : ByteArray) (A : Int) : RW a none (.returned (.tuple #[.agg #[.int .i64 K, .string S, .int .i64 A], .int .i64 0])) := ⟨K, S, A, rfl, fun _ _ _ h => by cases h⟩
theorem RW.some {a k n : Nat} {t : List UInt8} {S : ByteArray} {E : Int} (hS : S = ⟨t.toArray⟩) (hE : E = ((a + n : Nat) : Int)) : RW a (some (k, t, n)) (.returned (.tuple #[.agg #[.int .i64 (k : Int), .string S, .int .i64 (a : Int)], .int .i64 E])) := by
  refine ⟨k, S, a, by rw [hE]; rfl, fun k' t' n' h => ?_⟩
  injection h with h
  injection h with h1 h
  injection h with h2 h3
  subst h1 h2 h3
  exact ⟨rfl, hS, rfl⟩
theorem fst_at {s : ByteArray} {a : Nat} {c : UInt8} (hc : s.data.toList[a]? = some c) : fstA (s.data.toList.drop a) = if [120, 39].isPrefixOf (s.data.toList.drop a) = true then hexA (s.data.toList.drop a) else if (inNameB (c.toNat : Int) && !digitB (c.toNat : Int)) = true then nameA (s.data.toList.drop a) else if digitB (c.toNat : Int) = true then numA (s.data.toList.drop a) else if c = 39 then strA (s.data.toList.drop a) else signA (s.data.toList.drop a) := by
  have h := fstA_eq (s := s.extract a s.size) (c := c) (by rw [ext_drop, List.getElem?_drop]; exact hc)
  rw [ext_drop] at h
  exact h
theorem pre2_at {l : List UInt8} {a : Nat} {c : UInt8} (x y : UInt8) (hc : l[a]? = some c) : [x, y].isPrefixOf (l.drop a) = true ↔ c = x ∧ l[a + 1]? = some y := by
  rw [drop_at hc]
  cases hd : l[a + 1]? with
  | none =>
    rw [List.drop_eq_nil_of_le (by simpa using hd)]
    simp [List.isPrefixOf]
  | some d =>
    rw [drop_at hd]
    simp [List.isPrefixOf]
    exact ⟨fun h => ⟨h.1.symm, h.2.symm⟩, fun h => ⟨h.1.symm, h.2.symm⟩⟩
set_option maxRecDepth 20000 in
set_option maxHeartbeats 8000000 in
theorem rword_str (s : ByteArray) (hs : s.size ≤ 10000) (a : Nat) (hlt : a < s.size) (hc : s.data.toList[a]? = some 39) (w : World) :
    Calls Tryd.prog 18 #[.string s, .int .i64 (a : Int)] w fun e w' => RW a (strA (s.data.toList.drop a)) e ∧ Below w.heap.size w w' := by
  have hlt' : (a : Int) < (s.size : Int) := by omega
  have hce : ((s[a].toNat : Nat) : Int) = 39 := by rw [chr_eq s a hlt, chr_at hc]; rfl
  have hq := rquoted_any s hs a (by omega)
  have hV : RW a (strA (s.data.toList.drop a)) (.returned (.tuple #[.agg #[.int .i64 4, .string (rT (a + 1) (qL (s.data.toList.drop (a + 1)))).1, .int .i64 (a : Int)], .int .i64 ((rT (a + 1) (qL (s.data.toList.drop (a + 1)))).2 : Int)])) := by
    unfold strA
    rw [List.drop_drop]
    cases qL (s.data.toList.drop (a + 1)) with
    | none => exact RW.none a 4 _ _
    | some x => exact RW.some (k := 4) rfl (by simp [rT]; omega)
  obtain ⟨⟨t, n⟩, hF⟩ : ∃ F, rT (a + 1) (qL (s.data.toList.drop (a + 1))) = F := ⟨_, rfl⟩
  rw [hF] at hV hq
  simp only at hV hq
  clear hF
  obtain ⟨PO, hPO⟩ : ∃ PO, PO = fun e => RW a (strA (s.data.toList.drop a)) e := ⟨_, rfl⟩
  have HPO : Hid (PO (.returned (.tuple #[.agg #[.int .i64 4, .string t, .int .i64 (a : Int)], .int .i64 (n : Int)]))) := by
    rw [hPO]
    exact hV
  have hPe : ∀ e, RW a (strA (s.data.toList.drop a)) e = PO e := fun e => by rw [hPO]
  simp only [hPe]
  clear hV hPO hPe
  go_enter Tryd.func18, Tryd.ntmps18
  go_wp2_with fail
  refine (hq _).mono ?_
  rintro e w2 ⟨rfl, rfl⟩
  obtain ⟨w1, hw1⟩ : ∃ w1, w1 = w.alloc (.cells #[.int .i64 0, .string ⟨#[]⟩, .int .i64 0] 32) := ⟨_, rfl⟩
  have hz : Z3 w1 w.heap.size 32 := by rw [hw1]; exact Z3.new w 32
  have hB : Below w.heap.size w w1 := by rw [hw1]; exact (Below.refl _ w).alloc (Nat.le_refl _) _
  rw [← hw1]
  clear hw1
  have f0 := frozen_of_row w1 _ 0 _ _ hz
  have f1 := frozen_of_row w1 _ 1 _ _ hz
  have f2 := frozen_of_row w1 _ 2 _ _ hz
  have c0 := cell_of_row w1 _ 0 _ _ _ hz
  have c1 := cell_of_row w1 _ 1 _ _ _ hz
  have c2 := cell_of_row w1 _ 2 _ _ _ hz
  go_wp2
  exact bodyPost_ret (results_row_tmp Tryd.results18 _ _ w.heap.size 32 _ (0, 0) _ rfl (set3_row hz _ _ _) Tryd.underlying32 rfl (by kernel_rfl)) rfl ⟨HPO.out, set3_below hB _ (Nat.le_refl _) _ _ _⟩
set_option maxRecDepth 20000 in
set_option maxHeartbeats 8000000 in
theorem rword_hex (s : ByteArray) (hs : s.size ≤ 10000) (a : Nat) (hlt : a < s.size) (hc : s.data.toList[a]? = some 120) (hlt1 : a + 1 < s.size) (hd : s.data.toList[a + 1]? = some 39) (w : World) :
    Calls Tryd.prog 18 #[.string s, .int .i64 (a : Int)] w fun e w' => RW a (hexA (s.data.toList.drop a)) e ∧ Below w.heap.size w w' := by
  have hlt' : (a : Int) < (s.size : Int) := by omega
  have hlt1' : (a : Int) + 1 < (s.size : Int) := by omega
  have hce : ((s[a].toNat : Nat) : Int) = 120 := by rw [chr_eq s a hlt, chr_at hc]; rfl
  have hde : ((s[a + 1].toNat : Nat) : Int) = 39 := by rw [chr_eq s (a + 1) hlt1, chr_at hd]; rfl
  have hq := rquoted_any s hs (a + 1) (by omega)
  have hls := Lib.size_eq s
  have hsz : (rT (a + 1 + 1) (qL (s.data.toList.drop (a + 1 + 1)))).1.size ≤ 10000 ∧ (rT (a + 1 + 1) (qL (s.data.toList.drop (a + 1 + 1)))).2 ≤ 20000 := by
    cases h : qL (s.data.toList.drop (a + 1 + 1)) with
    | none => exact ⟨Nat.zero_le _, Nat.zero_le _⟩
    | some x =>
      obtain ⟨t, n⟩ := x
      have hx := qL_le _ t n h
      rw [List.length_drop] at hx
      show t.toArray.size ≤ _ ∧ a + 1 + 1 + n ≤ _
      simp
      omega
  have hV : RW a (hexA (s.data.toList.drop a)) (.returned (if (rT (a + 1 + 1) (qL (s.data.toList.drop (a + 1 + 1)))).2 = 0 ∨ (hT (hexL (rT (a + 1 + 1) (qL (s.data.toList.drop (a + 1 + 1)))).1.data.toList)).2 = false then .tuple #[.agg #[.int .i64 0, .string ⟨#[]⟩, .int .i64 0], .int .i64 0] else .tuple #[.agg #[.int .i64 5, .string (hT (hexL (rT (a + 1 + 1) (qL (s.data.toList.drop (a + 1 + 1)))).1.data.toList)).1, .int .i64 (a : Int)], .int .i64 ((rT (a + 1 + 1) (qL (s.data.toList.drop (a + 1 + 1)))).2 : Int)])) := by
    unfold hexA
    rw [List.drop_drop]
    cases qL (s.data.toList.drop (a + 1 + 1)) with
    | none =>
      rw [if_pos (Or.inl (show (rT (a + 1 + 1) none).2 = 0 from rfl))]
      exact RW.none a 0 _ 0
    | some x =>
      obtain ⟨t, n⟩ := x
      show RW a ((hexL t).map (fun u => (5, u, n + 2))) _
      have ht : (rT (a + 1 + 1) (some (t, n))).1.data.toList = t := rfl
      rw [ht]
      cases hexL t with
      | none =>
        rw [if_pos (Or.inr (show (hT none).2 = false from rfl))]
        exact RW.none a 0 _ 0
      | some u =>
        rw [if_neg (by simp [rT, hT])]
        exact RW.some (k := 5) rfl (by simp [rT]; omega)
  obtain ⟨⟨t, n⟩, hF⟩ : ∃ F, rT (a + 1 + 1) (qL (s.data.toList.drop (a + 1 + 1))) = F := ⟨_, rfl⟩
  rw [hF] at hV hq hsz
  simp only at hV hq hsz
  have hb := rbytes_any t hsz.1
  obtain ⟨⟨u, ok⟩, hG⟩ : ∃ G, hT (hexL t.data.toList) = G := ⟨_, rfl⟩
  rw [hG] at hV hb
  simp only at hV hb
  obtain ⟨PO, hPO⟩ : ∃ PO, PO = fun e => RW a (hexA (s.data.toList.drop a)) e := ⟨_, rfl⟩
  have hPe : ∀ e, RW a (hexA (s.data.toList.drop a)) e = PO e := fun e => by rw [hPO]
  rw [hPe] at hV
  have HV : Hid (PO _) := hV
  simp only [hPe]
  have hq' : ∀ w, Calls Tryd.prog 27 #[.string s, .int .i64 ((a : Int) + 1)] w fun e w' => e = .returned (.tuple #[.string t, .int .i64 (n : Int)]) ∧ w' = w := hq
  clear hF hG hPO hPe hV hq hls
  go_enter Tryd.func18, Tryd.ntmps18
  go_wp2_with fail
  refine (hq' _).mono ?_
  rintro e w2 ⟨rfl, rfl⟩
  obtain ⟨w0, hw0⟩ : ∃ w0, w0 = w.alloc (.cells #[.int .i64 0, .string ⟨#[]⟩, .int .i64 0] 32) := ⟨_, rfl⟩
  have hz0 : Z3 w0 w.heap.size 32 := by rw [hw0]; exact Z3.new w 32
  have hB0 : Below w.heap.size w w0 := by rw [hw0]; exact (Below.refl _ w).alloc (Nat.le_refl _) _
  rw [← hw0]
  clear hw0
  go_wp2_with fail
  refine (hb _).mono ?_
  rintro e w1 ⟨rfl, hb1⟩
  have hz : Z3 w1 w.heap.size 32 := hz0.later hb1
  have hB : Below w.heap.size w w1 := hB0.trans (hb1.mono hB0.size)
  clear hz0 hB0 hb1 hb hq'
  have f0 := frozen_of_row w1 _ 0 _ _ hz
  have f1 := frozen_of_row w1 _ 1 _ _ hz
  have f2 := frozen_of_row w1 _ 2 _ _ hz
  have c0 := cell_of_row w1 _ 0 _ _ _ hz
  have c1 := cell_of_row w1 _ 1 _ _ _ hz
  have c2 := cell_of_row w1 _ 2 _ _ _ hz
  by_cases hn0 : n = 0
  · rw [if_pos (Or.inl hn0)] at HV
    subst hn0
    go_wp2
    exact bodyPost_ret (results_row_tmp Tryd.results18 _ _ w.heap.size 32 _ (0, 0) _ rfl (set3_row hz _ _ _) Tryd.underlying32 rfl (by kernel_rfl)) rfl ⟨HV.out, set3_below hB _ (Nat.le_refl _) _ _ _⟩
  · have hn0' : ¬ (n : Int) = 0 := by omega
    cases ok with
    | false =>
      rw [if_pos (Or.inr rfl)] at HV
      go_wp2
      exact bodyPost_ret (results_row_tmp Tryd.results18 _ _ w.heap.size 32 _ (0, 0) _ rfl (set3_row hz _ _ _) Tryd.underlying32 rfl (by kernel_rfl)) rfl ⟨HV.out, set3_below hB _ (Nat.le_refl _) _ _ _⟩
    | true =>
      rw [if_neg (by simp [hn0])] at HV
      go_wp2
      exact bodyPost_ret (results_row_tmp Tryd.results18 _ _ w.heap.size 32 _ (0, 0) _ rfl (set3_row hz _ _ _) Tryd.underlying32 rfl (by kernel_rfl)) rfl ⟨HV.out, set3_below hB _ (Nat.le_refl _) _ _ _⟩
end Go.Proofs.YticmoapmolmcjaaDoor
