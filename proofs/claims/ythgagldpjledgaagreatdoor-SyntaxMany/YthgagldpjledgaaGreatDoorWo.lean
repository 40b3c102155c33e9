/- The words of a text (Words): in memory a list of rows of three cells. -/
import Derived.Test.YthgagldpjledgaaGreatDoorWi
import Derived.Deep.AppendLies
import Derived.OwnWalk
namespace Go.Proofs.YthgagldpjledgaaGreatDoor
open Go.RowKit Go.Shelf
def wd1 (x : Wd) : List Value := [.int .i64 (x.k : Int), .string ⟨x.s.toArray⟩, .int .i64 (x.a : Int)]
def wdC (ws : List Wd) : List Value := ws.flatMap wd1
theorem wdC_app (a b : List Wd) : wdC (a ++ b) = wdC a ++ wdC b := by simp [wdC]
theorem wdC_one (x : Wd) : wdC [x] = wd1 x := by simp [wdC]
theorem wdC_len : ∀ ws : List Wd, (wdC ws).length = ws.length * 3
  | [] => rfl
  | x :: ws => by
    show (wd1 x ++ wdC ws).length = _
    rw [List.length_append, wdC_len ws, List.length_cons]
    show 3 + _ = _
    omega
theorem wdC_ones (ws : List Wd) : ∀ u ∈ wdC ws, u.oneCell' = true := by
  intro u hu
  simp only [wdC, List.mem_flatMap] at hu
  obtain ⟨x, -, hx⟩ := hu
  simp only [wd1, List.mem_cons, List.not_mem_nil, or_false] at hx
  rcases hx with rfl | rfl | rfl <;> rfl
/- A slice of n parts of three cells each, whose cells are L. -/
structure Sl (w : World) (p : Option Addr) (n c : Nat) (L : List Value) : Prop where
  cap : n ≤ c ∧ c ≤ maxLen
  len : L.length = n * 3
  lies : 0 < n → ∃ b, p = some ⟨b, 0, none⟩ ∧ b < w.heap.size ∧ ∀ j u, L[j]? = some u → w.cell? ⟨b, j, none⟩ = some u
theorem cell_later {w w' : World} {b o : Nat} (hb : Below w.heap.size w w') (h : b < w.heap.size) : w'.cell? ⟨b, o, none⟩ = w.cell? ⟨b, o, none⟩ :=
  World.cell?_of_block (a := ⟨b, o, none⟩) (hb.block b h)
theorem Sl.later {w w' : World} {p : Option Addr} {n c : Nat} {L : List Value} (h : Sl w p n c L) (hb : Below w.heap.size w w') : Sl w' p n c L := by
  refine ⟨h.cap, h.len, fun h0 => ?_⟩
  obtain ⟨b, h1, h2, h3⟩ := h.lies h0
  exact ⟨b, h1, Nat.lt_of_lt_of_le h2 hb.size, fun j u hu => (cell_later hb h2).trans (h3 j u hu)⟩
theorem Sl.nil (w : World) : Sl w none 0 0 [] := ⟨⟨Nat.le_refl _, Nat.zero_le _⟩, rfl, fun h => absurd h (by omega)⟩
theorem Sl.of_own {w : World} {base T n : Nat} {v : Value} {L : List Value} (h : w.ownsRow base T 3 v n L) : ∃ p c, v = .slice p n c ∧ Sl w p n c L := by
  have hl := h.1
  rcases h.2 with ⟨rfl, rfl⟩ | ⟨g, cap, cur, rfl, _, hg, hc, hm, hs, ht⟩
  · refine ⟨none, 0, rfl, ⟨⟨Nat.le_refl _, Nat.zero_le _⟩, hl, fun h => absurd h (by omega)⟩⟩
  · refine ⟨some ⟨g, 0, none⟩, cap, rfl, ⟨⟨hc, hm⟩, hl, fun _ => ⟨g, rfl, lt_of_row hg, fun j u hu => ?_⟩⟩⟩
    rw [cell_of_row w g _ _ _ _ hg]
    rw [← ht, List.getElem?_take] at hu
    split at hu
    · simpa using hu
    · cases hu
theorem own_laterN {w w' : World} {base : Nat} {e : TypeId} {z : Nat} {v : Value} {n : Nat} {xs : List Value} (h : w.ownsRow base e z v n xs) (hb : Below w.heap.size w w') : w'.ownsRow base e z v n xs := by
  refine ⟨h.1, ?_⟩
  rcases h.2 with h1 | ⟨g, cap, cur, h1, h2, h3, h4⟩
  · exact Or.inl h1
  · exact Or.inr ⟨g, cap, cur, h1, h2, (hb.block _ (lt_of_row h3)).trans h3, h4⟩
theorem two_new (w : World) (o p : Obj) : ((w.alloc o).alloc p).heap[w.heap.size + 1]? = some p := by
  have := heap_alloc_new (w.alloc o) p
  rw [World.size_alloc] at this
  exact this
theorem info46 : (Tryz.prog.info? 46).map (fun i => (i.zero, i.size, i.bytes)) = some (some (.agg #[.int .i64 0, .string ⟨#[]⟩, .int .i64 0]), 3, 32) := by kernel_rfl
/- What is known in the round. -/
structure WI (s : ByteArray) (a : Nat) (ws : List Wd) : Prop where
  le : ws.length ≤ a
  all : wdsL s.data.toList 0 = (ws ++ (wdsL (s.data.toList.drop a) a).1, (wdsL (s.data.toList.drop a) a).2)
theorem WI.start (s : ByteArray) : WI s (runL blankB s.data.toList) [] := by
  refine ⟨Nat.zero_le _, ?_⟩
  rw [wdsL_run s.data.toList 0, Nat.zero_add]
  rfl
theorem WI.bad {s : ByteArray} {a : Nat} {ws : List Wd} {c : UInt8} (h : WI s a ws) (hs : s.data.toList.length ≤ 2000) (hc : s.data.toList[a]? = some c) (hb : blankB (c.toNat : Int) = false) (hf : fstA (s.data.toList.drop a) = none) : wordsR s.data.toList = ([], a, 110) := by
  have hd := drop_at hc
  rw [hd] at hf
  have h1 := h.all
  rw [hd, wdsL_none a hb hf] at h1
  unfold wordsR
  rw [if_neg (by omega), h1]
theorem WI.step {s : ByteArray} {a k n : Nat} {t : List UInt8} {ws : List Wd} {c : UInt8} (h : WI s a ws) (hc : s.data.toList[a]? = some c) (hb : blankB (c.toNat : Int) = false) (hf : fstA (s.data.toList.drop a) = some (k, t, n)) : WI s (a + n) (ws ++ [⟨k, t, a⟩]) := by
  have hd := drop_at hc
  have hle := fstA_le hf
  refine ⟨by have := h.le; simp; omega, ?_⟩
  rw [hd] at hf
  have h1 := h.all
  rw [hd, wdsL_some a hb hf, ← hd, List.drop_drop] at h1
  rw [h1]
  simp
theorem WI.run {s : ByteArray} {a : Nat} {ws : List Wd} (h : WI s a ws) : WI s (a + runL blankB (s.data.toList.drop a)) ws := by
  refine ⟨by have := h.le; omega, ?_⟩
  have h1 := h.all
  rw [wdsL_run (s.data.toList.drop a) a, List.drop_drop] at h1
  exact h1
theorem WI.done {s : ByteArray} {a : Nat} {ws : List Wd} (h : WI s a ws) (hs : s.data.toList.length ≤ 2000) (ha : s.data.toList.length ≤ a) : wordsR s.data.toList = (ws ++ [⟨0, [], s.data.toList.length⟩], 0, 0) := by
  have h1 := h.all
  rw [List.drop_eq_nil_of_le ha, wdsL_nil] at h1
  unfold wordsR
  rw [if_neg (by omega), h1]
  simp
theorem not_blank (l : List UInt8) (c : UInt8) (h : l[runL blankB l]? = some c) : blankB (c.toNat : Int) = false := by
  induction l with
  | nil => simp at h
  | cons d r ih =>
    cases hd : blankB (d.toNat : Int) with
    | true => rw [runL_pos _ _ hd, List.getElem?_cons_succ] at h; exact ih h
    | false =>
      rw [runL_no _ _ hd] at h
      injection h with h
      rw [← h]; exact hd
theorem long_words {l : List UInt8} (h : 2000 < l.length) : wordsR l = ([], 2000, 3) := by unfold wordsR; rw [if_pos h]
set_option maxRecDepth 20000 in
set_option maxHeartbeats 8000000 in
theorem words_any (s : ByteArray) (hs : s.size ≤ 10000) (w : World) (he : Er w) :
    Calls Tryz.prog 16 #[.string s] w fun e w' => ∃ p c, e = .returned (.tuple #[.slice p (wordsR s.data.toList).1.length c, .int .i64 ((wordsR s.data.toList).2.1 : Int), .int .i64 ((wordsR s.data.toList).2.2 : Int)]) ∧ Sl w' p (wordsR s.data.toList).1.length c (wdC (wordsR s.data.toList).1) ∧ Below w.heap.size w w' := by
  have hl := Lib.size_eq s
  by_cases h2000 : 2000 < s.size
  · rw [long_words (by omega)]
    have h' : (2000 : Int) < (s.size : Int) := by omega
    clear hl
    go_enter Tryz.func16, Tryz.ntmps16
    go_wp2
    go_ret3
    exact ⟨none, 0, rfl, Sl.nil _, Below.refl _ _⟩
  · have h' : ¬ (2000 : Int) < (s.size : Int) := by omega
    obtain ⟨R, hR⟩ : ∃ R, wordsR s.data.toList = R := ⟨_, rfl⟩
    rw [hR]
    have HR : Hid (wordsR s.data.toList = R) := hR
    have HL : Hid (s.size = s.data.toList.length) := hl
    have hr0 := run_any 29 blankB en15 blank_any s (by omega)
    have hle0 := runL_le blankB s.data.toList
    have hnb0 := not_blank s.data.toList
    have hst := WI.start s
    obtain ⟨r0, hr0e⟩ : ∃ r, runL blankB s.data.toList = r := ⟨_, rfl⟩
    rw [hr0e] at hr0 hle0 hnb0 hst
    have HN0 : Hid (∀ c, s.data.toList[r0]? = some c → blankB (c.toNat : Int) = false) := hnb0
    have HS0 : Hid (WI s r0 []) := hst
    have hle0' : r0 ≤ s.size := by omega
    clear hr0e hR hl hle0 hnb0 hst
    go_enter Tryz.func16, Tryz.ntmps16
    go_wp2_with (go_at_call 28; refine (hr0 _).mono ?_; rintro e w2 ⟨rfl, hw2⟩; have hw2' := hw2.symm; subst hw2')
    obtain ⟨i0, hi, hz0, hz1, hz2⟩ := info_parts info46
    go_loopw [5, 6] (fun c5 c6 wr => ∃ (a : Nat) (ws : List Wd), a ≤ s.size ∧ c6 = .int .i64 (a : Int) ∧ Hid (WI s a ws) ∧ Hid (∀ c, s.data.toList[a]? = some c → blankB (c.toNat : Int) = false) ∧ wr.ownsRow w.heap.size 46 3 c5 ws.length (wdC ws) ∧ Below w.heap.size w wr) (fun _ c6 _ => s.size - (intOf c6).toNat)
    case atStart => exact ⟨r0, [], hle0', rfl, HS0, HN0, World.ownsRow_nil _ _ _ _, Below.refl _ _⟩
    case round =>
      obtain ⟨a, ws, ha, rfl, hwi, hnb, hown, hB⟩ := hrel
      have hwl : ws.length ≤ a := hwi.out.le
      have her : Er wr := he.later hB
      by_cases hlt : a < s.size
      · have hlt' : (a : Int) < (s.size : Int) := by omega
        have hle' : (a : Int) ≤ (s.size : Int) := by omega
        have hsx : (s.extract a s.size).size = s.size - a := by rw [ByteArray.size_extract]; omega
        have hf := first_any (s.extract a s.size) (by omega) (by omega) wr her
        rw [ext_drop] at hf
        obtain ⟨c, hc, _⟩ := at_chr hlt
        have HC : Hid (s.data.toList[a]? = some c) := hc
        have hb := hnb.out c hc
        have HB : Hid (blankB (c.toNat : Int) = false) := hb
        clear hc hb
        cases hfa : fstA (s.data.toList.drop a) with
        | none =>
          rw [hfa] at hf
          have HBAD : Hid (wordsR s.data.toList = ([], a, 110)) := hwi.out.bad (by have := HL.out; omega) HC.out HB.out hfa
          clear hfa
          go_wp2_with fail
          refine hf.mono ?_
          rintro e w1 ⟨rfl, hb1⟩
          simp only [wV, wK, wS, wN]
          go_wp2
          go_ret3
          rw [← HR.out, HBAD.out]
          exact ⟨none, 0, rfl, Sl.nil _, (hB.trans (hb1.mono hB.size)).alloc (Nat.le_trans hB.size hb1.size) _⟩
        | some x =>
          obtain ⟨k, t, n⟩ := x
          rw [hfa] at hf
          have hfl := fstA_le hfa
          rw [List.length_drop, ← HL.out] at hfl
          have HST : Hid (WI s (a + n) (ws ++ [⟨k, t, a⟩])) := hwi.out.step HC.out HB.out hfa
          have hsx2 : (s.extract (a + n) s.size).size ≤ 4611686018427387904 := by rw [ByteArray.size_extract]; omega
          have hrn := run_any 29 blankB en15 blank_any (s.extract (a + n) s.size) hsx2
          have hrl := runL_le blankB (s.data.toList.drop (a + n))
          have HNB := not_blank (s.data.toList.drop (a + n))
          have HRN : Hid (WI s (a + n + runL blankB (s.data.toList.drop (a + n))) (ws ++ [⟨k, t, a⟩])) := HST.out.run
          rw [ext_drop] at hrn
          rw [List.length_drop, ← HL.out] at hrl
          obtain ⟨r1, hr1⟩ : ∃ r, runL blankB (s.data.toList.drop (a + n)) = r := ⟨_, rfl⟩
          rw [hr1] at hrn hrl HNB HRN
          have HN2 : Hid (∀ c, s.data.toList[a + n + r1]? = some c → blankB (c.toNat : Int) = false) := by
            have : ∀ c, s.data.toList[a + n + r1]? = some c → blankB (c.toNat : Int) = false := fun c hc => HNB c (by rw [List.getElem?_drop]; exact hc)
            exact this
          have hnz : ¬ (n : Int) = 0 := by omega
          have han : (a : Int) + (n : Int) ≤ (s.size : Int) := by omega
          have hcast : ((a + n : Nat) : Int) = (a : Int) + (n : Int) := by omega
          clear hr1 HNB hfa HST
          go_wp2_with fail
          refine hf.mono ?_
          rintro e w1 ⟨rfl, hb1⟩
          simp only [wV, wK, wS, wN]
          have hB1 : Below w.heap.size w w1 := hB.trans (hb1.mono hB.size)
          have hown1 := own_laterN hown hb1
          have hws : w.heap.size ≤ w1.heap.size := hB1.size
          clear hf hb1 hown hB hwi hnb
          have HST : Hid True := trivial
          go_wp2_with (at_builtin; refine wpList_append_own _ rfl _ _ 49 rfl w.heap.size 46 i0 (.agg #[.int .i64 0, .string ⟨#[]⟩, .int .i64 0]) 3 32 Tryz.underlying49 hi hz0 hz1 hz2 rfl (by decide) _ _ _ rfl ((hown1.alloc _).alloc _) ⟨w1.heap.size + 1, 0, none⟩ 1 1 (wd1 ⟨k, t, a⟩) rfl rfl ?c1 ?c2 ?c3 ?c4 ?c5 ?_)
          case c1 => exact World.news_of_block (two_new w1 _ _)
          case c2 => exact fun u hu => wdC_ones [⟨k, t, a⟩] u (by rw [wdC_one]; exact hu)
          case c3 => unfold maxLen; omega
          case c4 => omega
          case c5 => simp; omega
          intro v' w2 hown2 hgr2 _
          have hB2 : Below w.heap.size w w2 := ((hB1.alloc hws _).alloc (by simp; omega) _).grown hgr2 (by simp; omega) (fun j hj => (hown1.lt j hj).1)
          have hown3 : w2.ownsRow w.heap.size 46 3 v' (ws ++ [(⟨k, t, a⟩ : Wd)]).length (wdC (ws ++ [⟨k, t, a⟩])) := by
            rw [wdC_app, wdC_one, List.length_append]
            exact hown2
          clear hown1 hown2 hgr2
          go_wp2_with (go_at_call 28; refine (hrn _).mono ?_; rintro e w3 ⟨rfl, hw3⟩; have hw3' := hw3.symm; subst hw3')
          go_roundw
          case rel => exact ⟨a + n + r1, ws ++ [⟨k, t, a⟩], by omega, by go_num, HRN, HN2, hown3, hB2⟩
          case measure => simp [intOf]; omega
      · have hlt' : ¬ (a : Int) < (s.size : Int) := by omega
        have HD : Hid (wordsR s.data.toList = (ws ++ [⟨0, [], s.data.toList.length⟩], 0, 0)) := hwi.out.done (by have := HL.out; omega) (by have := HL.out; omega)
        have hws : w.heap.size ≤ wr.heap.size := hB.size
        clear hwi hnb
        go_wp2_with (at_builtin; refine wpList_append_own _ rfl _ _ 49 rfl w.heap.size 46 i0 (.agg #[.int .i64 0, .string ⟨#[]⟩, .int .i64 0]) 3 32 Tryz.underlying49 hi hz0 hz1 hz2 rfl (by decide) _ _ _ rfl (hown.alloc _) ⟨wr.heap.size, 0, none⟩ 1 1 (wd1 ⟨0, [], s.size⟩) rfl rfl ?c1 ?c2 ?c3 ?c4 ?c5 ?_)
        case c1 => exact fun j u hu => hu
        case c2 => exact fun u hu => wdC_ones [⟨0, [], s.size⟩] u (by rw [wdC_one]; exact hu)
        case c3 => unfold maxLen; omega
        case c4 => omega
        case c5 => omega
        intro v' w2 hown2 hgr2 _
        have hB2 : Below w.heap.size w w2 := (hB.alloc hws _).grown hgr2 (by simp; omega) (fun j hj => (hown.lt j hj).1)
        have hown3 : w2.ownsRow w.heap.size 46 3 v' (ws ++ [(⟨0, [], s.size⟩ : Wd)]).length (wdC (ws ++ [⟨0, [], s.size⟩])) := by
          rw [wdC_app, wdC_one, List.length_append]
          exact hown2
        clear hown hown2 hgr2
        obtain ⟨p, c, rfl, hsl⟩ := Sl.of_own hown3
        go_wp2
        go_ret3
        rw [← HR.out, HD.out, ← HL.out]
        exact ⟨p, c, rfl, hsl, hB2⟩
end Go.Proofs.YthgagldpjledgaaGreatDoor
