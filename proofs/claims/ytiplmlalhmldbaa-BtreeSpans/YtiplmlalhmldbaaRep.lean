/- replaced: a list with others in the place of some of its parts. -/
import Derived.Test.YtiplmlalhmldbaaCat
import Derived.Deep.RegionLaw
namespace Go.Proofs.Ytiplmlalhmldbaa
open Go.RowKit Go.Shelf
def three (a b c : Sq) : Nat → Sq
  | 0 => a
  | 1 => b
  | _ => c
theorem Sl.first {w : World} {p : Option Addr} {n c : Nat} {L : List Value} (h : Sl w p n c L) {i : Nat} (hi : i ≤ n) : Sl w p i c (L.take (i * 2)) := by
  have hc := h.cap
  have hl := h.len
  refine ⟨⟨by omega, hc.2⟩, by rw [List.length_take]; omega, fun u hu => h.one u (List.mem_of_mem_take hu), fun h0 => ?_⟩
  obtain ⟨b, o, h1, h2, h3⟩ := h.lies (by omega)
  refine ⟨b, o, h1, h2, fun j u hu => h3 j u ?_⟩
  rw [List.getElem?_take] at hu
  split at hu
  · exact hu
  · cases hu
theorem Sl.last {w : World} {p : Option Addr} {n c : Nat} {L : List Value} (h : Sl w p n c L) {j : Nat} (hj : j ≤ n) : Sl w (if c = j then p else Option.map (fun x => x.add (j * 2)) p) (n - j) (c - j) (L.drop (j * 2)) := by
  have hc := h.cap
  have hl := h.len
  refine ⟨⟨by omega, by omega⟩, by rw [List.length_drop]; omega, fun u hu => h.one u (List.mem_of_mem_drop hu), fun h0 => ?_⟩
  obtain ⟨b, o, rfl, h2, h3⟩ := h.lies (by omega)
  rw [if_neg (by omega)]
  have hadd : (⟨b, o, none⟩ : Addr).add (j * 2) = ⟨b, o + j * 2, none⟩ := by unfold Addr.add; split <;> simp_all
  refine ⟨b, o + j * 2, by rw [Option.map_some, hadd], h2, fun k u hu => ?_⟩
  rw [List.getElem?_drop] at hu
  have := h3 _ u hu
  rw [show o + (j * 2 + k) = o + j * 2 + k by omega] at this
  exact this
set_option maxRecDepth 100000 in
set_option maxHeartbeats 4000000 in
theorem repl66 (L : List Value) (p : Option Addr) (n c : Nat) (M : List Value) (q : Option Addr) (m d : Nat) (i j : Nat) (hij : i ≤ j) (hjn : j ≤ n) (hn : n ≤ 60) (hm : m ≤ 60) (w : World) (hL : Sl w p n c L) (hM : Sl w q m d M) :
    Calls Try.prog 34 #[.slice p n c, .int .i64 (i : Int), .int .i64 (j : Int), .slice q m d] w fun e w' => ∃ p' c', e = .returned (.slice p' (i + m + (n - j)) c') ∧ Sl w' p' (i + m + (n - j)) c' (L.take (i * 2) ++ M ++ L.drop (j * 2)) ∧ Below w.heap.size w w' := by
  have hcap := hL.cap
  have hmx : maxLen = 9223372036854775807 := rfl
  have hic : i ≤ c := by omega
  have hT := (hL.last hjn)
  obtain ⟨p2, hp2⟩ : ∃ p2, (if c = j then p else Option.map (fun x => x.add (j * 2)) p) = p2 := ⟨_, rfl⟩
  rw [hp2] at hT
  have hF := hL.first (i := i) (by omega)
  have hG := concat66 (three ⟨p, i, c, L.take (i * 2)⟩ ⟨q, m, d, M⟩ ⟨p2, n - j, c - j, L.drop (j * 2)⟩) 3 (by omega) (fun k hk => by
    obtain rfl | rfl | rfl : k = 0 ∨ k = 1 ∨ k = 2 := by omega
    · show i ≤ 100; omega
    · show m ≤ 100; omega
    · show n - j ≤ 100; omega) w.heap.size 3 (by omega) (w.drew.alloc (.cells #[.slice p i c, .slice q m d, .slice p2 (n - j) (c - j)] 56)) (by simp) (fun k hk => by
    have hb : Below w.heap.size w (w.drew.alloc (.cells #[.slice p i c, .slice q m d, .slice p2 (n - j) (c - j)] 56)) := ((Below.refl _ w).drew).alloc (Nat.le_refl _) _
    have hr := heap_alloc_new w.drew (.cells #[.slice p i c, .slice q m d, .slice p2 (n - j) (c - j)] 56)
    obtain rfl | rfl | rfl : k = 0 ∨ k = 1 ∨ k = 2 := by omega
    · exact ⟨cell_of_row _ _ 0 _ _ _ hr, hF.later hb⟩
    · exact ⟨cell_of_row _ _ 1 _ _ _ hr, hM.later hb⟩
    · exact ⟨cell_of_row _ _ 2 _ _ _ hr, hT.later hb⟩)
  have eN : catN (three ⟨p, i, c, L.take (i * 2)⟩ ⟨q, m, d, M⟩ ⟨p2, n - j, c - j, L.drop (j * 2)⟩) 3 = i + m + (n - j) := by simp [catN, three]
  have eL : catL (three ⟨p, i, c, L.take (i * 2)⟩ ⟨q, m, d, M⟩ ⟨p2, n - j, c - j, L.drop (j * 2)⟩) 3 = L.take (i * 2) ++ M ++ L.drop (j * 2) := by simp [catL, three]
  rw [eN, eL] at hG
  clear eN eL hF hT
  go_enter Try.func34, Try.ntmps34
  go_wp2
  go_region_law (go_simp; go_at_call 43; refine hG.mono ?_; rintro e w1 ⟨p', c', rfl, hS, hb1⟩; dsimp only)
  go_wp2
  go_ret
  exact ⟨p', c', rfl, hS, (((Below.refl _ w).drew).alloc (Nat.le_refl _) _).trans (hb1.mono (by simp))⟩
end Go.Proofs.Ytiplmlalhmldbaa
