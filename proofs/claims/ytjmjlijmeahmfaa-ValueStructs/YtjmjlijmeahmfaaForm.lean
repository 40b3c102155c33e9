/- Whether a value is formed, its kind and what it has (formed). -/
import Derived.Test.YtjmjlijmeahmfaaFst
import Derived.BigGuardPart
namespace Go.Proofs.Ytjmjlijmeahmfaa
open Go.RowKit
def formedB (k : Int) (b : Bool) (n : Int) (s : ByteArray) (m q : Nat) : Bool :=
  decide (0 ≤ k) && decide (k ≤ 6) && (decide (k = 1) || !b) && (decide (k = 2) || decide (n = 0)) && (decide (k = 3) || decide (k = 4) || s.toList.isEmpty) && (decide (k = 5) || decide (k = 6) || decide ((m : Int) = 0)) && (decide (k = 6) || decide ((q : Int) = 0))
def Tr.formed (t : Tr) : Bool := formedB t.k t.b t.n t.s t.m t.q
set_option maxHeartbeats 4000000 in
theorem formed_any (t : Tr) (x : Ad) (w : World) :
  Calls Try.prog 64 #[t.val x] w fun e w' => e = .returned (.bool t.formed) ∧ Below w.heap.size w w' := by
  obtain ⟨pa, pc, na, nc⟩ := x
  show Calls Try.prog 64 #[.agg #[.int .i64 t.k, .bool t.b, .int .i64 t.n, .string t.s, .slice pa t.m pc, .slice na t.q nc]] w fun e w' => e = .returned (.bool (formedB t.k t.b t.n t.s t.m t.q)) ∧ Below w.heap.size w w'
  generalize t.k = k
  generalize t.b = b
  generalize t.n = n
  generalize t.s = s
  generalize t.m = m
  generalize t.q = q
  obtain ⟨F, hF⟩ : ∃ F, formedB k b n s m q = F := ⟨_, rfl⟩
  rw [hF]
  have HF : Hid (formedB k b n s m q = F) := hF
  clear hF
  go_enter Try.func64, Try.ntmps64
  go_step
  simp only [List.append_eq, List.cons_append, List.nil_append]
  go_wp2
  all_goals
    go_ret
    refine ⟨?_, (Below.refl _ _).alloc (Nat.le_refl _) _⟩
    have := HF.out
    unfold formedB at this
    subst this
    simp_all
  all_goals (rw [Bool.eq_iff_iff]; simp; try (intros; omega))
end Go.Proofs.Ytjmjlijmeahmfaa
