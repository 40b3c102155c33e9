/- Small laws for drawn regions of calls (classes of one's own). -/
import Derived.Test.YtaocbkloafhmeaaDoorMixr
import Derived.Test.YtaocbkloafhmeaaDoorDgx
import Derived.WalkKit
import Derived.WalkSpells
import Derived.WalkLawsBesides
import Derived.Deep.QuietTactic
import Derived.BigQuiet
import Derived.Deep.RegionWith
import Derived.Deep.RegionHeld3
import Derived.Deep.DrawnRows
namespace Go.Proofs.YtaocbkloafhmeaaDoor
open Go.RowKit
attribute [local go_sem] eq24
def strLen : Value → Nat
  | .string b => b.size
  | _ => 0
structure HInv (w W : World) (h : St) : Prop where
  hh : W.heap[w.heap.size]? = some (.cells (stA h) 102 (0, 0))
  hg : GL W
  hb : Below w.heap.size w W
theorem HInv.later {w W W' : World} {h : St} (H : HInv w W h) (hb : Below W.heap.size W W') : HInv w W' h := by
  have hl := lt_of_row H.hh
  exact ⟨(below_heap hb _ hl).trans H.hh, H.hg.later hb, H.hb.trans (hb.mono (by omega))⟩
theorem HInv.drewN {w W : World} {h : St} (H : HInv w W h) (n : Nat) : HInv w (W.drewN n) h := ⟨H.hh, H.hg, below_drewN H.hb n⟩
def HS (w : World) (h : St) (W : World) : Prop :=
  W.cell? ⟨w.heap.size, 0, none⟩ = some (.int .u32 (n32 h.a)) ∧ W.cell? ⟨w.heap.size, 1, none⟩ = some (.int .u32 (n32 h.b)) ∧ W.cell? ⟨w.heap.size, 2, none⟩ = some (.int .u32 (n32 h.c)) ∧ W.cell? ⟨w.heap.size, 3, none⟩ = some (.int .u32 (n32 h.d)) ∧ W.cell? ⟨w.heap.size, 4, none⟩ = some (.int .u32 (n32 h.e)) ∧ W.cell? ⟨w.heap.size, 5, none⟩ = some (.int .u32 (n32 h.f)) ∧ W.cell? ⟨w.heap.size, 6, none⟩ = some (.int .u32 (n32 h.g)) ∧ W.cell? ⟨w.heap.size, 7, none⟩ = some (.int .u32 (n32 h.k)) ∧ HInv w W h
theorem HS_of {w W : World} {h : St} (H : HInv w W h) : HS w h W := by
  obtain ⟨⟨c0, c1, c2, c3, c4, c5, c6, c7⟩, _⟩ := eight H.hh
  exact ⟨c0, c1, c2, c3, c4, c5, c6, c7, H⟩
theorem HS_later {w W W' : World} {h : St} (H : HInv w W h) (hb : Below W.heap.size W W') : HS w h W' := HS_of (H.later hb)
theorem q_pure {P : Program} {o : Oper} {a : Act} {C : World → Prop} {K : Act → Prop} {v : Value} (hrun : ∀ W, (execOp a.eval o).run P W = .ok (.value v) W) (hk : K (a.put o.dst v)) : o.quiet P a C K :=
  ⟨v, fun W _ => by unfold Oper.quietAt; rw [hrun W]; exact ⟨rfl, rfl⟩, hk⟩
theorem q_call {P : Program} {o : Oper} {a : Act} {C : World → Prop} {K : Act → Prop} {v : Value} {f : FuncId} {args : Array Value} (hrun : ∀ W, (execOp a.eval o).run P W = .ok (.enter f args) W)
    (hc : ∀ W, C W → Calls P f args W fun e w' => e = .returned v ∧ C w') (hk : K (a.put o.dst v)) : o.quiet P a C K :=
  ⟨v, fun W hW => by unfold Oper.quietAt; rw [hrun W]; exact ⟨rfl, hc W hW⟩, hk⟩
theorem q_load {P : Program} {o : Oper} {a : Act} {C : World → Prop} {K : Act → Prop} (ty : TypeId) (x : Operand) (ho : o.op = .load ty x) (g : Nat) (hx : a.eval x = .pointer (some ⟨g, 0, none⟩)) (t : TypeId) (cs : Array Value) (fr : Nat × Nat) (d : TypeDesc)
    (hg : ∀ W, C W → W.heap[g]? = some (.cells cs t fr)) (hu : P.underlying ty = some d) (hd : (match d with | .struct _ | .array _ _ => true | _ => false) = true) (hi : (P.info? ty).map (·.size) = some cs.size) (hk : K (a.put o.dst (.agg cs))) : o.quiet P a C K :=
  ⟨.agg cs, fun W hW => by
    unfold Oper.quietAt execOp
    simp only [ho, hx, Instr.loadAt, Instr.sureAddr, Sem.run_bind, Sem.run_pure, Result.andThen_ok, run_loadVar_row W g t ty cs fr d (hg W hW) hu hd hi]
    exact ⟨rfl, rfl⟩, hk⟩
theorem size_snoc0 (b : ByteArray) : (b ++ ⟨#[0]⟩ : ByteArray).size = b.size + 1 := by
  rw [ByteArray.size_append]; rfl
end Go.Proofs.YtaocbkloafhmeaaDoor
