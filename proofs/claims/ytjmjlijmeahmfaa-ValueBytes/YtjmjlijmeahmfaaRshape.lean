/- The first error of a value that stands within so many, as the document has it (its shape): where it stands too deep, and where it is not formed. -/
import Derived.Test.YtjmjlijmeahmfaaRname
import Derived.Test.YtjmjlijmeahmfaaSound
import Derived.Deep.DeepCutAuto
import Derived.Deep.CutRange
namespace Go.Proofs.Ytjmjlijmeahmfaa
open Go.RowKit
set_option maxHeartbeats 1000000 in
theorem rshape_deep (k : Int) (b : Bool) (n : Int) (s : ByteArray) (m q : Nat) (pa na : Option Addr) (pc nc : Nat) (d : Int) (h : 8 < d) (w : World) :
    Calls Try.prog 36 #[.agg #[.int .i64 k, .bool b, .int .i64 n, .string s, .slice pa m pc, .slice na q nc], .int .i64 d] w fun e w' => e = .returned (.int .i64 30) ∧ Below w.heap.size w w' := by
  go_enter Try.func36, Try.ntmps36
  go_wp2
  go_ret
  exact ⟨rfl, (Below.refl _ _).alloc (Nat.le_refl _) _⟩
set_option maxRecDepth 20000 in
set_option maxHeartbeats 2000000 in
theorem rshape_form (k : Int) (b : Bool) (n : Int) (s : ByteArray) (m q : Nat) (pa na : Option Addr) (pc nc : Nat) (d : Int) (h : ¬ 8 < d) (hf : formedB k b n s m q = false) (w : World) :
    Calls Try.prog 36 #[.agg #[.int .i64 k, .bool b, .int .i64 n, .string s, .slice pa m pc, .slice na q nc], .int .i64 d] w fun e w' => e = .returned (.int .i64 6) ∧ Below w.heap.size w w' := by
  have HF : Hid (formedB k b n s m q = false) := hf
  clear hf
  go_enter Try.func36, Try.ntmps36
  go_wp2_with fail
  all_goals first
    | (go_ret; exact ⟨rfl, (Below.refl _ _).alloc (Nat.le_refl _) _⟩)
    | (exfalso; have hf := HF.out; unfold formedB at hf; simp_all; done)
    | (exfalso; have hf := HF.out; unfold formedB at hf; simp_all; omega)
set_option maxRecDepth 20000 in
set_option maxHeartbeats 2000000 in
theorem rshape_many (k : Int) (b : Bool) (n : Int) (s : ByteArray) (m q : Nat) (pa na : Option Addr) (pc nc : Nat) (d : Int) (h : ¬ 8 < d) (hf : formedB k b n s m q = true) (h32 : 32 < m) (w : World) :
    Calls Try.prog 36 #[.agg #[.int .i64 k, .bool b, .int .i64 n, .string s, .slice pa m pc, .slice na q nc], .int .i64 d] w fun e w' => e = .returned (.int .i64 3) ∧ Below w.heap.size w w' := by
  have HF : Hid (formedB k b n s m q = true) := hf
  have h33 : (32 : Int) < (m : Int) := by omega
  clear hf
  go_enter Try.func36, Try.ntmps36
  go_wp2_with fail
  all_goals first
    | (exfalso; have hf := HF.out; unfold formedB at hf; simp_all; done)
    | (exfalso; have hf := HF.out; unfold formedB at hf; simp_all; omega)
    | (go_ret; exact ⟨rfl, (Below.refl _ _).alloc (Nat.le_refl _) _⟩)
end Go.Proofs.Ytjmjlijmeahmfaa
