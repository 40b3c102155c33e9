/- Lists of keys put together: slices.Grow of nothing, slices.Concat, replaced. replaced: a list with others in the place of some of its parts. Nodes with all below them, as deep as a number says (Nd), how they lie in memory (Lies), which may be gone down (Ok); get, last. -/
import Derived.Test.YtniljoojoafiaaaGreatDoorXaa
import Derived.Lib.AppendZeros
import Derived.Deep.AppendLies
import Derived.OwnWalk
import Derived.Deep.RegionLaw
namespace Go.Proofs.YtniljoojoafiaaaGreatDoor.B
open Go.RowKit Go.Shelf
set_option maxRecDepth 100000 in
theorem info66 : (Tryz.prog.info? 119).map (fun i => (i.zero, i.size, i.bytes)) = some (some (.agg #[.string ⟨#[]⟩, .string ⟨#[]⟩]), 2, 32) := by kernel_rfl
set_option maxRecDepth 100000 in
theorem append_empty66 (W : World) {base n : Nat} {xs : List Value} {v : Value} (h : W.ownsRow base 119 2 v n xs) (p : Option Addr) (c : Nat) : (Builtin.append_ #[105, 105] 105 #[v, .slice p 0 c]).run Tryz.prog W = .ok v W := by
  rcases h.2 with ⟨rfl, rfl⟩ | ⟨g, cap, cur, rfl, _, _, hc, _, _, _⟩
  · cases p <;> simp [Builtin.append_, go_sem, Builtin.lenOf, Builtin.firstCells]
  · cases p <;> simp [Builtin.append_, go_sem, Builtin.lenOf, Builtin.firstCells, hc]
set_option maxRecDepth 100000 in
set_option maxHeartbeats 2000000 in
theorem grow66 (n : Nat) (hn : n ≤ 100000) (w : World) : Calls Tryz.prog 142 #[.slice none 0 0, .int .i64 (n : Int)] w fun e w' => ∃ v, e = .returned v ∧ w'.ownsRow w.heap.size 119 2 v 0 [] ∧ Below w.heap.size w w' := by
  by_cases h0 : n = 0
  · subst h0
    go_enter Tryz.func142, Tryz.ntmps142
    go_wp2
    go_ret
    exact ⟨_, rfl, World.ownsRow_nil _ _ _ _, Below.refl _ _⟩
  · obtain ⟨i0, hi, hz0, hz1, hz2⟩ := info_parts info66
    have hr := fun ty => Lib.run_append_nil_zeros (P := Tryz.prog) w 105 3 ty 119 i0 _ .i64 .i64 Tryz.underlying105 Tryz.underlying3 hi hz0 n (by omega) (by omega) (by omega) (by rw [hz2]; omega)
    have hge := grownCap_ge w n 0 119
    have hle := grownCap_le_maxLen w n 0 119 (by unfold maxLen; omega)
    obtain ⟨cp, hcp⟩ : ∃ cp, grownCap w n 0 119 = cp := ⟨_, rfl⟩
    have hr56 := hr 56
    rw [hcp] at hr56 hge hle
    obtain ⟨cs, hcs⟩ : ∃ cs, Builtin.zeroCells (Value.cells (.agg #[.string ⟨#[]⟩, .string ⟨#[]⟩])) n ++ Builtin.zeroCells (Value.cells (.agg #[.string ⟨#[]⟩, .string ⟨#[]⟩])) (cp - n) = cs := ⟨_, rfl⟩
    have hsz : cs.size = cp * 2 := by
      rw [← hcs, Array.size_append, size_zeroCells, size_zeroCells]
      simp only [Value.cells]
      simp
      omega
    rw [hcs] at hr56
    have hm : (w.drew.alloc (.cells cs 119)).ownsRow w.heap.size 119 2 (.slice (some ⟨w.heap.size, 0, none⟩) 0 cp) 0 [] := World.ownsRow_made w.drew cs cp (Nat.le_refl _) hle hsz
    have hmx : maxLen = 9223372036854775807 := rfl
    have HH : Hid (n ≤ cp ∧ cp ≤ maxLen) := ⟨hge, hle⟩
    clear hr hcs hsz hcp
    go_enter Tryz.func142, Tryz.ntmps142
    go_wp2_with (at_builtin; refine Lib.wpList_append_run _ rfl _ _ _ _ rfl _ _ rfl rfl _ _ hr56 ?_)
    go_ret
    exact ⟨_, rfl, hm, ((Below.refl _ w).alloc (Nat.le_refl _) _).drew⟩
/- Lists that are put together. -/
structure Sq where
  p : Option Addr
  n : Nat
  c : Nat
  L : List Value
def catL (F : Nat → Sq) : Nat → List Value
  | 0 => []
  | i + 1 => catL F i ++ (F i).L
def catN (F : Nat → Sq) : Nat → Nat
  | 0 => 0
  | i + 1 => catN F i + (F i).n
set_option maxRecDepth 100000 in
theorem catN_le {F : Nat → Sq} {k : Nat} (h : ∀ i, i < k → (F i).n ≤ 100) : ∀ i, i ≤ k → catN F i ≤ 100 * i
  | 0, _ => Nat.le_refl _
  | i + 1, hi => by
    have h1 := catN_le h i (by omega)
    have h2 := h i (by omega)
    unfold catN
    omega
set_option maxRecDepth 100000 in
theorem lt_of_row {W : World} {g : Nat} {o : Obj} (h1 : W.heap[g]? = some o) : g < W.heap.size := by
  rcases Nat.lt_or_ge g W.heap.size with h | h
  · exact h
  · rw [Array.getElem?_eq_none h] at h1; cases h1
set_option maxRecDepth 100000 in
theorem Sl.of_own {w : World} {base T n : Nat} {v : Value} {L : List Value} (h : w.ownsRow base T 2 v n L) (h1 : ∀ u ∈ L, u.oneCell' = true) : ∃ p c, v = .slice p n c ∧ Sl w p n c L := by
  have hl := h.1
  rcases h.2 with ⟨rfl, rfl⟩ | ⟨g, cap, cur, rfl, _, hg, hc, hm, hs, ht⟩
  · refine ⟨none, 0, rfl, ⟨⟨Nat.le_refl _, Nat.zero_le _⟩, hl, h1, fun h => absurd h (by omega)⟩⟩
  · refine ⟨some ⟨g, 0, none⟩, cap, rfl, ⟨⟨hc, hm⟩, hl, h1, fun _ => ⟨g, 0, rfl, lt_of_row hg, fun j u hu => ?_⟩⟩⟩
    rw [cell_of_row w g _ _ _ _ hg, Nat.zero_add]
    rw [← ht, List.getElem?_take] at hu
    split at hu
    · simpa using hu
    · cases hu
set_option maxRecDepth 100000 in
set_option maxHeartbeats 4000000 in
theorem concat66 (F : Nat → Sq) (k : Nat) (hk : k ≤ 3) (hn : ∀ i, i < k → (F i).n ≤ 100) (B c : Nat) (hc : k ≤ c) (w : World) (hB : B < w.heap.size)
    (hF : ∀ i, i < k → w.cell? ⟨B, i, none⟩ = some (.slice (F i).p (F i).n (F i).c) ∧ Sl w (F i).p (F i).n (F i).c (F i).L) :
    Calls Tryz.prog 110 #[.slice (some ⟨B, 0, none⟩) k c] w fun e w' => ∃ p c, e = .returned (.slice p (catN F k) c) ∧ Sl w' p (catN F k) c (catL F k) ∧ Below w.heap.size w w' := by
  have hN : Hid (∀ i, i ≤ k → catN F i ≤ 100 * i) := catN_le hn
  have hmx : maxLen = 9223372036854775807 := rfl
  obtain ⟨i0, hi0, hz0, hz1, hz2⟩ := info_parts info66
  have HN : Hid (∀ i, i < k → (F i).n ≤ 100) := hn
  have HF : Hid (∀ i, i < k → w.cell? ⟨B, i, none⟩ = some (.slice (F i).p (F i).n (F i).c) ∧ Sl w (F i).p (F i).n (F i).c (F i).L) := hF
  clear hn hF
  go_enter Tryz.func110, Tryz.ntmps110
  go_wp2
  go_loopw [3, 5, 11] (fun v3 _ vi wr => ∃ i : Nat, i ≤ k ∧ vi = .int .i64 (i : Int) ∧ v3 = .int .i64 (catN F i : Int) ∧ wr = w) (fun _ _ vi _ => k - (intOf vi).toNat)
  case atStart => exact ⟨0, Nat.zero_le _, rfl, rfl, rfl⟩
  case round =>
    obtain ⟨i, hik, rfl, rfl, hw⟩ := hrel
    have hw' := hw.symm
    subst hw'
    have hNi := hN.out i hik
    by_cases hlt : i < k
    · have hlt' : (i : Int) < (k : Int) := by omega
      have hc1 := (HF.out i hlt).1
      have hNs := hN.out (i + 1) hlt
      have hu : catN F (i + 1) = catN F i + (F i).n := rfl
      have hni := HN.out i hlt
      obtain ⟨a, ha⟩ : ∃ a, catN F i = a := ⟨_, rfl⟩
      obtain ⟨b, hb⟩ : ∃ b, F i = b := ⟨_, rfl⟩
      have HA : Hid (catN F (i + 1) = a + b.n) := by rw [← ha, ← hb]; exact hu
      rw [ha] at hNi ⊢
      rw [hb] at hc1 hni
      clear hu ha hb
      go_wp2
      go_roundw
      case rel => exact ⟨i + 1, hlt, by simp, by rw [HA.out]; simp, trivial⟩
      case measure => simp [intOf]; omega
    · obtain rfl : i = k := by omega
      have hG := grow66 (catN F i) (by omega) w
      obtain ⟨a, ha⟩ : ∃ a, catN F i = a := ⟨_, rfl⟩
      have HA : Hid (catN F i = a) := ha
      rw [ha] at hG hNi ⊢
      clear ha
      go_wp2_with fail
      refine hG.mono ?_
      rintro e w1 ⟨v, rfl, hown, hb1⟩
      go_wp2
      go_loopw [6, 8, 27] (fun v6 _ vi W => ∃ j : Nat, j ≤ i ∧ vi = .int .i64 (j : Int) ∧ W.ownsRow w.heap.size 119 2 v6 (catN F j) (catL F j) ∧ Below w.heap.size w W) (fun _ _ vi _ => i - (intOf vi).toNat)
      case atStart => exact ⟨0, Nat.zero_le _, rfl, hown, hb1⟩
      case round =>
        obtain ⟨j, hj, rfl, hown2, hB2⟩ := hrel
        by_cases hlt2 : j < i
        · have hlt' : (j : Int) < (i : Int) := by omega
          have hc1 := (cell_later hB2 hB).trans (HF.out j hlt2).1
          have hS := (HF.out j hlt2).2.later hB2
          have hNj := hN.out j hj
          have hni := HN.out j hlt2
          have hlj : catL F (j + 1) = catL F j ++ (F j).L := rfl
          have hnj : catN F (j + 1) = catN F j + (F j).n := rfl
          obtain ⟨⟨bp, bn, bc, bL⟩, hb⟩ : ∃ b, F j = b := ⟨_, rfl⟩
          obtain ⟨x, hx⟩ : ∃ x, catN F j = x := ⟨_, rfl⟩
          obtain ⟨y, hy⟩ : ∃ y, catL F j = y := ⟨_, rfl⟩
          rw [hb] at hc1 hS hni hlj hnj
          rw [hx] at hown2 hnj hNj
          rw [hy] at hown2 hlj
          simp only at hc1 hS hni hlj hnj
          have HL : Hid (catL F (j + 1) = y ++ bL) := hlj
          have HM : Hid (catN F (j + 1) = x + bn) := hnj
          clear hb hx hy hlj hnj
          by_cases h0 : bn = 0
          · subst h0
            have hap := append_empty66 wr hown2 bp bc
            go_wp2_with (at_builtin; refine Lib.wpList_append_run _ rfl _ _ _ _ rfl _ _ rfl rfl _ _ hap ?_)
            have hbL : bL = [] := List.eq_nil_of_length_eq_zero (by simpa using hS.len)
            go_roundw
            case rel => exact ⟨j + 1, hlt2, by simp, by rw [HL.out, HM.out, hbL, List.append_nil]; exact hown2, hB2⟩
            case measure => simp [intOf]; omega
          · obtain ⟨b, o, rfl, hb, hcs⟩ := hS.lies (by omega)
            have hnews : ∀ (t : Nat) (u : Value), bL[t]? = some u → wr.cell? ((⟨b, o, none⟩ : Addr).add t) = some u := fun t u hu => by
              have hadd : (⟨b, o, none⟩ : Addr).add t = ⟨b, o + t, none⟩ := by unfold Addr.add; split <;> simp_all
              rw [hadd]
              exact hcs t u hu
            have hlen := hS.len
            have hone := hS.one
            go_wp2_with (at_builtin; refine wpList_append_lies _ (by rfl) (.tmp 31) (.tmp 32) 105 (by rfl) w.heap.size 119 i0 _ 2 32 Tryz.underlying105 hi0 hz0 hz1 hz2 (by rfl) (by decide) _ x y (by rfl) hown2 ⟨b, o, none⟩ bn bc bL (by rfl) hlen hnews hone (by omega) (by omega) (by omega) hB2.size _ rfl ?_; intro g6 cap6 w6 hown6 hgr6 hat6 hlt6)
            go_roundw
            case rel => exact ⟨j + 1, hlt2, by simp, by rw [HL.out, HM.out]; exact hown6, hB2.grown hgr6 hB2.size (fun k hk => (hown2.lt k hk).1)⟩
            case measure => simp [intOf]; omega
        · obtain rfl : j = i := by omega
          have h1 : ∀ u ∈ catL F j, u.oneCell' = true := by
            have : ∀ t, t ≤ j → ∀ u ∈ catL F t, u.oneCell' = true := by
              intro t
              induction t with
              | zero => intro _ u hu; cases hu
              | succ t ih =>
                intro ht u hu
                rcases List.mem_append.1 hu with h | h
                · exact ih (by omega) u h
                · exact (HF.out t (by omega)).2.one u h
            exact this j (Nat.le_refl _)
          obtain ⟨p, cc, rfl, hS⟩ := Sl.of_own hown2 h1
          go_wp2
          go_ret
          exact ⟨p, cc, rfl, hS, hB2⟩
end Go.Proofs.YtniljoojoafiaaaGreatDoor.B
namespace Go.Proofs.YtniljoojoafiaaaGreatDoor.B
open Go.RowKit Go.Shelf
def three (a b c : Sq) : Nat → Sq
  | 0 => a
  | 1 => b
  | _ => c
set_option maxRecDepth 100000 in
theorem Sl.first {w : World} {p : Option Addr} {n c : Nat} {L : List Value} (h : Sl w p n c L) {i : Nat} (hi : i ≤ n) : Sl w p i c (L.take (i * 2)) := by
  have hc := h.cap
  have hl := h.len
  refine ⟨⟨by omega, hc.2⟩, by rw [List.length_take]; omega, fun u hu => h.one u (List.mem_of_mem_take hu), fun h0 => ?_⟩
  obtain ⟨b, o, h1, h2, h3⟩ := h.lies (by omega)
  refine ⟨b, o, h1, h2, fun j u hu => h3 j u ?_⟩
  rw [List.getElem?_take] at hu
  split at hu
  · exact hu
  · cases hu
set_option maxRecDepth 100000 in
theorem Sl.last {w : World} {p : Option Addr} {n c : Nat} {L : List Value} (h : Sl w p n c L) {j : Nat} (hj : j ≤ n) : Sl w (if c = j then p else Option.map (fun x => x.add (j * 2)) p) (n - j) (c - j) (L.drop (j * 2)) := by
  have hc := h.cap
  have hl := h.len
  refine ⟨⟨by omega, by omega⟩, by rw [List.length_drop]; omega, fun u hu => h.one u (List.mem_of_mem_drop hu), fun h0 => ?_⟩
  obtain ⟨b, o, rfl, h2, h3⟩ := h.lies (by omega)
  rw [if_neg (by omega)]
  have hadd : (⟨b, o, none⟩ : Addr).add (j * 2) = ⟨b, o + j * 2, none⟩ := by unfold Addr.add; split <;> simp_all
  refine ⟨b, o + j * 2, by rw [Option.map_some, hadd], h2, fun k u hu => ?_⟩
  rw [List.getElem?_drop] at hu
  have := h3 _ u hu
  rw [show o + (j * 2 + k) = o + j * 2 + k by omega] at this
  exact this
set_option maxRecDepth 100000 in
set_option maxHeartbeats 4000000 in
theorem repl66 (L : List Value) (p : Option Addr) (n c : Nat) (M : List Value) (q : Option Addr) (m d : Nat) (i j : Nat) (hij : i ≤ j) (hjn : j ≤ n) (hn : n ≤ 60) (hm : m ≤ 60) (w : World) (hL : Sl w p n c L) (hM : Sl w q m d M) :
    Calls Tryz.prog 78 #[.slice p n c, .int .i64 (i : Int), .int .i64 (j : Int), .slice q m d] w fun e w' => ∃ p' c', e = .returned (.slice p' (i + m + (n - j)) c') ∧ Sl w' p' (i + m + (n - j)) c' (L.take (i * 2) ++ M ++ L.drop (j * 2)) ∧ Below w.heap.size w w' := by
  have hcap := hL.cap
  have hmx : maxLen = 9223372036854775807 := rfl
  have hic : i ≤ c := by omega
  have hT := (hL.last hjn)
  obtain ⟨p2, hp2⟩ : ∃ p2, (if c = j then p else Option.map (fun x => x.add (j * 2)) p) = p2 := ⟨_, rfl⟩
  rw [hp2] at hT
  have hF := hL.first (i := i) (by omega)
  have hG := concat66 (three ⟨p, i, c, L.take (i * 2)⟩ ⟨q, m, d, M⟩ ⟨p2, n - j, c - j, L.drop (j * 2)⟩) 3 (by omega) (fun k hk => by
    obtain rfl | rfl | rfl : k = 0 ∨ k = 1 ∨ k = 2 := by omega
    · show i ≤ 100; omega
    · show m ≤ 100; omega
    · show n - j ≤ 100; omega) w.heap.size 3 (by omega) (w.drew.alloc (.cells #[.slice p i c, .slice q m d, .slice p2 (n - j) (c - j)] 105)) (by simp) (fun k hk => by
    have hb : Below w.heap.size w (w.drew.alloc (.cells #[.slice p i c, .slice q m d, .slice p2 (n - j) (c - j)] 105)) := ((Below.refl _ w).drew).alloc (Nat.le_refl _) _
    have hr := heap_alloc_new w.drew (.cells #[.slice p i c, .slice q m d, .slice p2 (n - j) (c - j)] 105)
    obtain rfl | rfl | rfl : k = 0 ∨ k = 1 ∨ k = 2 := by omega
    · exact ⟨cell_of_row _ _ 0 _ _ _ hr, hF.later hb⟩
    · exact ⟨cell_of_row _ _ 1 _ _ _ hr, hM.later hb⟩
    · exact ⟨cell_of_row _ _ 2 _ _ _ hr, hT.later hb⟩)
  have eN : catN (three ⟨p, i, c, L.take (i * 2)⟩ ⟨q, m, d, M⟩ ⟨p2, n - j, c - j, L.drop (j * 2)⟩) 3 = i + m + (n - j) := by simp [catN, three]
  have eL : catL (three ⟨p, i, c, L.take (i * 2)⟩ ⟨q, m, d, M⟩ ⟨p2, n - j, c - j, L.drop (j * 2)⟩) 3 = L.take (i * 2) ++ M ++ L.drop (j * 2) := by simp [catL, three]
  rw [eN, eL] at hG
  clear eN eL hF hT
  go_enter Tryz.func78, Tryz.ntmps78
  go_wp2
  go_region_law (go_simp; go_at_call 110; refine hG.mono ?_; rintro e w1 ⟨p', c', rfl, hS, hb1⟩; dsimp only)
  go_wp2
  go_ret
  exact ⟨p', c', rfl, hS, (((Below.refl _ w).drew).alloc (Nat.le_refl _) _).trans (hb1.mono (by simp))⟩
end Go.Proofs.YtniljoojoafiaaaGreatDoor.B
namespace Go.Proofs.YtniljoojoafiaaaGreatDoor.B
open Go.RowKit Go.Shelf
def Nd : Nat → Type
  | 0 => List Im
  | h + 1 => List Im × List (Nd h)
def dflt : (h : Nat) → Nd h
  | 0 => ([] : List Im)
  | _ + 1 => (([], []) : List Im × List _)
def its : (h : Nat) → Nd h → List Im
  | 0, t => t
  | _ + 1, t => t.1
def kdn : (h : Nat) → Nd h → Nat
  | 0, _ => 0
  | _ + 1, t => t.2.length
def Lies (w : World) : (h : Nat) → Nd h → Value → Prop
  | 0, t, v => ∃ p c q d, v = .agg #[.slice p (its 0 t).length c, .slice q 0 d] ∧ Sl w p (its 0 t).length c (itC (its 0 t)) ∧ Sl w q 0 d []
  | h + 1, t, v => ∃ p c q d L, v = .agg #[.slice p t.1.length c, .slice q t.2.length d] ∧ Sl w p t.1.length c (itC t.1) ∧ Sl w q t.2.length d L ∧
      ∀ i, i < t.2.length → Lies w h (t.2.getD i (dflt h)) (.agg #[L.getD (2 * i) undef, L.getD (2 * i + 1) undef])
set_option maxRecDepth 100000 in
theorem Lies.later {w w' : World} (hb : Below w.heap.size w w') : ∀ {h : Nat} {t : Nd h} {v : Value}, Lies w h t v → Lies w' h t v
  | 0, _, _, ⟨p, c, q, d, h1, h2, h3⟩ => ⟨p, c, q, d, h1, h2.later hb, h3.later hb⟩
  | _ + 1, _, _, ⟨p, c, q, d, L, h1, h2, h3, h4⟩ => ⟨p, c, q, d, L, h1, h2.later hb, h3.later hb, fun i hi => (h4 i hi).later hb⟩
set_option maxRecDepth 100000 in
theorem Lies.form {w : World} : ∀ {h : Nat} {t : Nd h} {v : Value}, Lies w h t v → ∃ p c q d L, v = .agg #[.slice p (its h t).length c, .slice q (kdn h t) d] ∧ Sl w p (its h t).length c (itC (its h t)) ∧ Sl w q (kdn h t) d L
  | 0, _, _, ⟨p, c, q, d, h1, h2, h3⟩ => ⟨p, c, q, d, [], h1, h2, h3⟩
  | _ + 1, _, _, ⟨p, c, q, d, L, h1, h2, h3, _⟩ => ⟨p, c, q, d, L, h1, h2, h3⟩
def Ok : (h : Nat) → Nd h → Prop
  | 0, t => Ris (its 0 t) ∧ (its 0 t).length ≤ 50
  | h + 1, t => Ris t.1 ∧ t.1.length ≤ 50 ∧ t.2.length = t.1.length + 1 ∧ ∀ i, i < t.2.length → Ok h (t.2.getD i (dflt h)) ∧ 0 < (its h (t.2.getD i (dflt h))).length
set_option maxRecDepth 100000 in
theorem Ok.ris : ∀ {h : Nat} {t : Nd h}, Ok h t → Ris (its h t) ∧ (its h t).length ≤ 50
  | 0, _, h => h
  | _ + 1, _, h => ⟨h.1, h.2.1⟩
def getT : (h : Nat) → Nd h → ByteArray → ByteArray × Bool
  | 0, t, key => if isK (its 0 t) key then (((its 0 t)[posK (its 0 t) key]!).2, true) else (⟨#[]⟩, false)
  | h + 1, t, key => if isK t.1 key then ((t.1[posK t.1 key]!).2, true) else getT h (t.2.getD (posK t.1 key) (dflt h)) key
set_option maxRecDepth 100000 in
theorem isK_lt {xs : List Im} {key : ByteArray} (h : isK xs key = true) : posK xs key < xs.length := by
  unfold isK at h
  simp only [Bool.and_eq_true, decide_eq_true_eq] at h
  exact h.1
set_option maxRecDepth 100000 in
theorem Sl.get {w : World} {b o : Nat} {xs : List Im} (hc : ∀ j u, (itC xs)[j]? = some u → w.cell? ⟨b, o + j, none⟩ = some u) {i : Nat} (hi : i < xs.length) :
    w.cell? ⟨b, o + i * 2, none⟩ = some (.string (xs[i]!).1) ∧ w.cell? ⟨b, o + i * 2 + 1, none⟩ = some (.string (xs[i]!).2) := by
  obtain ⟨c1, c2⟩ := itC_at xs i hi
  have z1 := hc _ _ c1
  have z2 := hc _ _ c2
  rw [show o + 2 * i = o + i * 2 by omega] at z1
  rw [show o + (2 * i + 1) = o + i * 2 + 1 by omega] at z2
  exact ⟨z1, z2⟩
/- What lies somewhere lies there when a block was written that holds none of its first cells. -/
set_option maxRecDepth 100000 in
theorem Sl.kept {w w' : World} {p : Option Addr} {n c : Nat} {L : List Value} (h : Sl w p n c L) {X : Nat} {cs : Array Value} {T : TypeId} {fr : Nat × Nat} (hX : w.heap[X]? = some (.cells cs T fr)) (hs : w.heap.size ≤ w'.heap.size) (ho : ∀ k, k ≠ X → w'.heap[k]? = w.heap[k]?)
    (hne : ∀ u, L[0]? = some u → u ∉ cs) : Sl w' p n c L := by
  refine ⟨h.cap, h.len, h.one, fun h0 => ?_⟩
  obtain ⟨b, o, h1, h2, h3⟩ := h.lies h0
  have hl := h.len
  have hb : b ≠ X := by
    rintro rfl
    have hu : L[0]? = some L[0] := List.getElem?_eq_getElem (by omega)
    have h4 := h3 0 _ hu
    rw [cell_of_row w b _ _ _ _ hX] at h4
    exact hne _ hu (Array.mem_of_getElem? h4)
  exact ⟨b, o, h1, by omega, fun j u hu => (World.cell?_of_block (a := ⟨b, o + j, none⟩) (ho b hb)).trans (h3 j u hu)⟩
set_option maxRecDepth 100000 in
theorem itC_head {xs : List Im} {u : Value} (h : (itC xs)[0]? = some u) : ∃ s, u = .string s := by
  cases xs with
  | nil => cases h
  | cons x xs => exact ⟨x.1, (Option.some.inj h).symm⟩
set_option maxRecDepth 100000 in
theorem agg2 {a b c d : Value} (h : Value.agg #[a, b] = .agg #[c, d]) : a = c ∧ b = d := by
  injection h with h
  have h1 := congrArg (fun (x : Array Value) => x.toList) h
  simpa using h1
def zrow : Array Value := #[.slice none 0 0, .slice none 0 0]
set_option maxRecDepth 100000 in
theorem Lies.kept {w w' : World} {X : Nat} {T : TypeId} {fr : Nat × Nat} (hX : w.heap[X]? = some (.cells zrow T fr)) (hs : w.heap.size ≤ w'.heap.size) (ho : ∀ k, k ≠ X → w'.heap[k]? = w.heap[k]?) : ∀ {h : Nat} {t : Nd h} {v : Value}, Ok h t → Lies w h t v → Lies w' h t v
  | 0, t, _, _, ⟨p, c, q, d, h1, h2, h3⟩ => ⟨p, c, q, d, h1, h2.kept hX hs ho (fun u hu hm => by
      obtain ⟨s, rfl⟩ := itC_head hu
      simp [zrow] at hm), h3.kept hX hs ho (fun u hu => by cases hu)⟩
  | h + 1, t, _, ok, ⟨p, c, q, d, L, h1, h2, h3, h4⟩ => by
    obtain ⟨_, _, o3, o4⟩ := ok
    refine ⟨p, c, q, d, L, h1, h2.kept hX hs ho (fun u hu hm => by
      obtain ⟨s, rfl⟩ := itC_head hu
      simp [zrow] at hm), h3.kept hX hs ho (fun u hu hm => ?_), fun i hi => Lies.kept hX hs ho (o4 i hi).1 (h4 i hi)⟩
    have hl : 0 < t.2.length := by omega
    obtain ⟨p', c', q', d', L', e, -, -⟩ := (h4 0 hl).form
    have hn := (o4 0 hl).2
    obtain ⟨m, hm2⟩ : ∃ m, (its h (t.2.getD 0 (dflt h))).length = m := ⟨_, rfl⟩
    rw [hm2] at e hn
    have e2 := agg2 e
    rw [List.getD_eq_getElem?_getD, Nat.mul_zero, hu, Option.getD_some] at e2
    rw [e2.1] at hm
    simp [zrow] at hm
    omega
end Go.Proofs.YtniljoojoafiaaaGreatDoor.B
