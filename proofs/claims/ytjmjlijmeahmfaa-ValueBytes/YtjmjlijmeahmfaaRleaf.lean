/- The document's shape of a formed value that has no parts and no names by its kind: none. -/
import Derived.Test.YtjmjlijmeahmfaaRshape
namespace Go.Proofs.Ytjmjlijmeahmfaa
open Go.RowKit
set_option maxRecDepth 20000 in
set_option maxHeartbeats 2000000 in
theorem rshape_leaf (k : Int) (b : Bool) (n : Int) (s : ByteArray) (m q : Nat) (pa na : Option Addr) (pc nc : Nat) (d : Int) (h : ¬ 8 < d) (hf : formedB k b n s m q = true) (h4 : k ≤ 4) (w : World) :
    Calls Try.prog 36 #[.agg #[.int .i64 k, .bool b, .int .i64 n, .string s, .slice pa m pc, .slice na q nc], .int .i64 d] w fun e w' => e = .returned (.int .i64 0) ∧ Below w.heap.size w w' := by
  obtain ⟨rfl, rfl⟩ : m = 0 ∧ q = 0 := by
    unfold formedB at hf
    simp only [Bool.and_eq_true, Bool.or_eq_true, decide_eq_true_eq] at hf
    omega
  have HF : Hid (formedB k b n s 0 0 = true) := hf
  clear hf
  go_enter Try.func36, Try.ntmps36
  go_wp2_with fail
  all_goals first
    | (exfalso; have hf := HF.out; unfold formedB at hf; simp_all; done)
    | (exfalso; have hf := HF.out; unfold formedB at hf; simp_all; omega)
    | (go_loopw [7] (fun c7 wr => c7 = .int .i64 0 ∧ wr.cell? ⟨w.heap.size, 4, none⟩ = some (.slice pa 0 pc) ∧ Below w.heap.size w wr) (fun _ _ => 0)
       case atStart => exact ⟨rfl, cell_of_row _ _ 4 _ _ _ (heap_alloc_new _ _), (Below.refl _ _).alloc (Nat.le_refl _) _⟩
       case round =>
         obtain ⟨rfl, hc4, hbr⟩ := hrel
         go_wp2
         go_ret
         exact ⟨rfl, hbr⟩)
end Go.Proofs.Ytjmjlijmeahmfaa
