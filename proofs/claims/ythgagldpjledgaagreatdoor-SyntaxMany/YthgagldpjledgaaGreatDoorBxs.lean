/- A variable that holds an expression (x), and the result's box (z), while a function of the parser goes on. -/
import Derived.Test.YthgagldpjledgaaGreatDoorIsn
namespace Go.Proofs.YthgagldpjledgaaGreatDoor
open Go.RowKit Go.Shelf
/- The ten cells of an expression. -/
structure XR where
  k : Int
  s : ByteArray
  vk : Int
  vb : Bool
  vn : Int
  vs : ByteArray
  kp : Option Addr
  n : Nat
  kc : Nat
  np : Option Addr
  m : Nat
  nc : Nat
def arrX (R : XR) : Array Value := #[.int .i64 R.k, .string R.s, .int .i64 R.vk, .bool R.vb, .int .i64 R.vn, .string R.vs, .slice none 0 0, .slice none 0 0, .slice R.kp R.n R.kc, .slice R.np R.m R.nc]
def rowX (R : XR) : Value := .agg #[.int .i64 R.k, .string R.s, .int .i64 R.vk, .bool R.vb, .int .i64 R.vn, .string R.vs, .slice none 0 0, .slice none 0 0, .slice R.kp R.n R.kc, .slice R.np R.m R.nc]
theorem LiesE.row {w : World} {S : Nat → Prop} {d : Nat} {t : Et} {v : Value} (h : LiesE w S d t v) : ∃ R, v = rowX R := by
  obtain ⟨kp, kc, np, nc, rfl⟩ := h.form
  exact ⟨⟨((t []).k : Int), (t []).s, ((t []).vk : Int), (t []).vb, (t []).vn, (t []).vs, kp, (t []).n, kc, np, (t []).m, nc⟩, rfl⟩
def setR (w : World) (z : Nat) (R : XR) : World := set10 w z (.int .i64 R.k) (.string R.s) (.int .i64 R.vk) (.bool R.vb) (.int .i64 R.vn) (.string R.vs) (.slice none 0 0) (.slice none 0 0) (.slice R.kp R.n R.kc) (.slice R.np R.m R.nc)
structure Bx (w0 W : World) (b : Nat) (p : Option Addr) (c : Nat) (ws : List Wd) (z x : Nat) (S : Nat → Prop) (P : PS) (T : Et) (R : XR) : Prop where
  rx : W.heap[x]? = some (.cells (arrX R) 28 (0, 0))
  rz : W.heap[z]? = some (.cells zero10 28 (0, 0))
  onl : Onl b w0 W
  ps : Ps W b p c ws P
  lies : ∃ d, LiesE W S d T (rowX R)
  new : b < w0.heap.size ∧ w0.heap.size ≤ x ∧ w0.heap.size ≤ z ∧ x ≠ z
  old : ∀ g, p = some ⟨g, 0, none⟩ → g < w0.heap.size
  no : ¬ S x ∧ ¬ S z ∧ ¬ S b
theorem Bx.calls {w0 W W2 : World} {b : Nat} {p : Option Addr} {c : Nat} {ws : List Wd} {z x : Nat} {S : Nat → Prop} {P P2 : PS} {T : Et} {R : XR} (h : Bx w0 W b p c ws z x S P T R) (hO : Onl b W W2) (hP : Ps W2 b p c ws P2) : Bx w0 W2 b p c ws z x S P2 T R := by
  obtain ⟨n1, n2, n3, n4⟩ := h.new
  obtain ⟨d, hd⟩ := h.lies
  exact ⟨(hO.block x (lt_of_row h.rx) (by omega)).trans h.rx, (hO.block z (lt_of_row h.rz) (by omega)).trans h.rz, h.onl.trans hO, hP, ⟨d, hd.since (Since.onl hO h.no.2.2)⟩, h.new, h.old, h.no⟩
theorem Bx.quiet {w0 W W2 : World} {b : Nat} {p : Option Addr} {c : Nat} {ws : List Wd} {z x : Nat} {S : Nat → Prop} {P : PS} {T : Et} {R : XR} (h : Bx w0 W b p c ws z x S P T R) (hb : Below W.heap.size W W2) : Bx w0 W2 b p c ws z x S P T R := h.calls (Onl.of hb) (h.ps.later hb)
theorem setR_row {w : World} {z : Nat} {t : TypeId} {cs : Array Value} (h : w.heap[z]? = some (.cells cs t (0, 0))) (hs : cs.size = 10) (R : XR) : (setR w z R).heap[z]? = some (.cells (arrX R) t (0, 0)) := by
  obtain ⟨l⟩ := cs
  match l, hs with
  | [a0, a1, a2, a3, a4, a5, a6, a7, a8, a9], _ => exact set10_row h _ _ _ _ _ _ _ _ _ _
/- What a call made of x is stored in x. -/
theorem Bx.store {w0 W W2 : World} {b : Nat} {p : Option Addr} {c : Nat} {ws : List Wd} {z x : Nat} {S : Nat → Prop} {P P2 : PS} {T T2 : Et} {R R2 : XR} (h : Bx w0 W b p c ws z x S P T R) (hO : Onl b W W2) (hP : Ps W2 b p c ws P2) {d : Nat} (hL : LiesE W2 S d T2 (rowX R2)) : Bx w0 (setR W2 x R2) b p c ws z x S P2 T2 R2 := by
  have h2 := h.calls hO hP
  obtain ⟨n1, n2, n3, n4⟩ := h.new
  refine ⟨setR_row h2.rx rfl R2, ?_, ?_, ?_, ⟨d, hL.since (Since.set10 h.no.1 W2 _ _ _ _ _ _ _ _ _ _)⟩, h.new, h.old, h.no⟩
  · unfold setR; rw [set10_other (by omega)]; exact h2.rz
  · exact h2.onl.set10 _ n2 _ _ _ _ _ _ _ _ _ _
  · exact hP.kept (z := x) (by omega) (fun g hg => by have := h.old g hg; omega) (fun j hj => set10_other hj _ _ _ _ _ _ _ _ _ _) (Nat.le_of_eq (set10_size _ _ _ _ _ _ _ _ _ _ _ _).symm)
/- x is the result. -/
theorem Bx.done {w0 W : World} {b : Nat} {p : Option Addr} {c : Nat} {ws : List Wd} {z x : Nat} {S S0 : Nat → Prop} {P : PS} {T : Et} {R : XR} (h : Bx w0 W b p c ws z x S P T R) (hS : ∀ k, S k → S0 k) : Gives ws S0 w0 b p c (T, P) (.returned (rowX R)) (setR W z R) := by
  obtain ⟨n1, n2, n3, n4⟩ := h.new
  obtain ⟨d, hd⟩ := h.lies
  refine ⟨d, _, rfl, (hd.since (Since.set10 h.no.2.1 W _ _ _ _ _ _ _ _ _ _)).imp fun k hk _ => hS k hk, ?_, h.onl.set10 _ n3 _ _ _ _ _ _ _ _ _ _⟩
  exact h.ps.kept (z := z) (by omega) (fun g hg => by have := h.old g hg; omega) (fun j hj => set10_other hj _ _ _ _ _ _ _ _ _ _) (Nat.le_of_eq (set10_size _ _ _ _ _ _ _ _ _ _ _ _).symm)
end Go.Proofs.YthgagldpjledgaaGreatDoor
