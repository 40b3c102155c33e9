/- replaced, of nodes. -/
import Derived.Test.YtiplmlalhmldbaaCan
import Derived.Test.YtiplmlalhmldbaaRep
namespace Go.Proofs.Ytiplmlalhmldbaa
open Go.RowKit Go.Shelf
set_option maxRecDepth 100000 in
set_option maxHeartbeats 4000000 in
theorem repl59 (L : List Value) (p : Option Addr) (n c : Nat) (M : List Value) (q : Option Addr) (m d : Nat) (i j : Nat) (hij : i ≤ j) (hjn : j ≤ n) (hn : n ≤ 60) (hm : m ≤ 60) (w : World) (hL : Sl w p n c L) (hM : Sl w q m d M) :
    Calls Try.prog 45 #[.slice p n c, .int .i64 (i : Int), .int .i64 (j : Int), .slice q m d] w fun e w' => ∃ p' c', e = .returned (.slice p' (i + m + (n - j)) c') ∧ Sl w' p' (i + m + (n - j)) c' (L.take (i * 2) ++ M ++ L.drop (j * 2)) ∧ Below w.heap.size w w' := by
  have hcap := hL.cap
  have hmx : maxLen = 9223372036854775807 := rfl
  have hic : i ≤ c := by omega
  have hT := (hL.last hjn)
  obtain ⟨p2, hp2⟩ : ∃ p2, (if c = j then p else Option.map (fun x => x.add (j * 2)) p) = p2 := ⟨_, rfl⟩
  rw [hp2] at hT
  have hF := hL.first (i := i) (by omega)
  have hG := concat59 (three ⟨p, i, c, L.take (i * 2)⟩ ⟨q, m, d, M⟩ ⟨p2, n - j, c - j, L.drop (j * 2)⟩) 3 (by omega) (fun k hk => by
    obtain rfl | rfl | rfl : k = 0 ∨ k = 1 ∨ k = 2 := by omega
    · show i ≤ 100; omega
    · show m ≤ 100; omega
    · show n - j ≤ 100; omega) w.heap.size 3 (by omega) (w.drew.alloc (.cells #[.slice p i c, .slice q m d, .slice p2 (n - j) (c - j)] 57)) (by simp) (fun k hk => by
    have hb : Below w.heap.size w (w.drew.alloc (.cells #[.slice p i c, .slice q m d, .slice p2 (n - j) (c - j)] 57)) := ((Below.refl _ w).drew).alloc (Nat.le_refl _) _
    have hr := heap_alloc_new w.drew (.cells #[.slice p i c, .slice q m d, .slice p2 (n - j) (c - j)] 57)
    obtain rfl | rfl | rfl : k = 0 ∨ k = 1 ∨ k = 2 := by omega
    · exact ⟨cell_of_row _ _ 0 _ _ _ hr, hF.later hb⟩
    · exact ⟨cell_of_row _ _ 1 _ _ _ hr, hM.later hb⟩
    · exact ⟨cell_of_row _ _ 2 _ _ _ hr, hT.later hb⟩)
  have eN : catN (three ⟨p, i, c, L.take (i * 2)⟩ ⟨q, m, d, M⟩ ⟨p2, n - j, c - j, L.drop (j * 2)⟩) 3 = i + m + (n - j) := by simp [catN, three]
  have eL : catL (three ⟨p, i, c, L.take (i * 2)⟩ ⟨q, m, d, M⟩ ⟨p2, n - j, c - j, L.drop (j * 2)⟩) 3 = L.take (i * 2) ++ M ++ L.drop (j * 2) := by simp [catL, three]
  rw [eN, eL] at hG
  clear eN eL hF hT
  go_enter Try.func45, Try.ntmps45
  go_wp2
  go_region_law (go_simp; go_at_call 49; refine hG.mono ?_; rintro e w1 ⟨p', c', rfl, hS, hb1⟩; dsimp only)
  go_wp2
  go_ret
  exact ⟨p', c', rfl, hS, (((Below.refl _ w).drew).alloc (Nat.le_refl _) _).trans (hb1.mono (by simp))⟩
end Go.Proofs.Ytiplmlalhmldbaa
