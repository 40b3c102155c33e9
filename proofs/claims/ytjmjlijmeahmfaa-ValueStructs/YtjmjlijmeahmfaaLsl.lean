/- A list that lies in memory, as cells (SlT); how it is cut, and appended to a list of one's own. -/
import Derived.Test.YtjmjlijmeahmfaaTwin
import Derived.Test.YtjmjlijmeahmfaaXat
import Derived.Laws.OwnMore
import Derived.Maps.AppendAt
namespace Go.Proofs.Ytjmjlijmeahmfaa
open Go.RowKit
structure SlT (S : Nat → Prop) (w : World) (sz : Nat) (p : Option Addr) (n c : Nat) (L : List Value) : Prop where
  cap : n ≤ c ∧ c ≤ maxLen
  len : L.length = n * sz
  one : ∀ u ∈ L, u.oneCell' = true
  lies : 0 < n → ∃ b o, p = some ⟨b, o, none⟩ ∧ S b ∧ ∀ j u, L[j]? = some u → w.cell? ⟨b, o + j, none⟩ = some u
theorem SlT.kept {S : Nat → Prop} {w w' : World} {sz : Nat} {p : Option Addr} {n c : Nat} {L : List Value} (h : SlT S w sz p n c L) (hk : ∀ k, S k → w'.heap[k]? = w.heap[k]?) : SlT S w' sz p n c L := by
  refine ⟨h.cap, h.len, h.one, fun h0 => ?_⟩
  obtain ⟨b, o, h1, h2, h3⟩ := h.lies h0
  exact ⟨b, o, h1, h2, fun j u hu => cell_kept (h3 j u hu) (hk b h2)⟩
theorem SlT.up {S S' : Nat → Prop} {w : World} {sz : Nat} {p : Option Addr} {n c : Nat} {L : List Value} (h : SlT S w sz p n c L) (hS : ∀ k, S k → S' k) : SlT S' w sz p n c L := by
  refine ⟨h.cap, h.len, h.one, fun h0 => ?_⟩
  obtain ⟨b, o, h1, h2, h3⟩ := h.lies h0
  exact ⟨b, o, h1, hS b h2, h3⟩
theorem SlT.nil (S : Nat → Prop) (w : World) (sz : Nat) : SlT S w sz none 0 0 [] := ⟨⟨Nat.le_refl _, Nat.zero_le _⟩, by simp, fun _ h => (by cases h), fun h => absurd h (by omega)⟩
theorem SlT.first {S : Nat → Prop} {w : World} {sz : Nat} {p : Option Addr} {n c : Nat} {L : List Value} (h : SlT S w sz p n c L) {i : Nat} (hi : i ≤ n) : SlT S w sz p i c (L.take (i * sz)) := by
  have hc := h.cap
  have hl := h.len
  have hm : i * sz ≤ n * sz := Nat.mul_le_mul_right _ hi
  refine ⟨⟨by omega, hc.2⟩, by rw [List.length_take]; omega, fun u hu => h.one u (List.mem_of_mem_take hu), fun h0 => ?_⟩
  obtain ⟨b, o, h1, h2, h3⟩ := h.lies (by omega)
  refine ⟨b, o, h1, h2, fun j u hu => h3 j u ?_⟩
  rw [List.getElem?_take] at hu
  split at hu
  · exact hu
  · cases hu
theorem addr_at (b o n : Nat) : (⟨b, o, none⟩ : Addr).add n = ⟨b, o + n, none⟩ := by unfold Addr.add; split <;> simp_all
theorem SlT.last {S : Nat → Prop} {w : World} {sz : Nat} {p : Option Addr} {n c : Nat} {L : List Value} (h : SlT S w sz p n c L) {j : Nat} (hj : j ≤ n) : SlT S w sz (if c = j then p else Option.map (fun x => x.add (j * sz)) p) (n - j) (c - j) (L.drop (j * sz)) := by
  have hc := h.cap
  have hl := h.len
  have hm : j * sz ≤ n * sz := Nat.mul_le_mul_right _ hj
  refine ⟨⟨by omega, by omega⟩, by rw [List.length_drop, hl, Nat.sub_mul], fun u hu => h.one u (List.mem_of_mem_drop hu), fun h0 => ?_⟩
  obtain ⟨b, o, rfl, h2, h3⟩ := h.lies (by omega)
  rw [if_neg (by omega)]
  refine ⟨b, o + j * sz, by rw [Option.map_some, addr_at], h2, fun k u hu => ?_⟩
  rw [List.getElem?_drop] at hu
  have := h3 _ u hu
  rw [show o + (j * sz + k) = o + j * sz + k by omega] at this
  exact this
theorem SlT.of_own {S : Nat → Prop} {w : World} {sz base T n : Nat} {v : Value} {L : List Value} (h : w.ownsRow base T sz v n L) (h1 : ∀ u ∈ L, u.oneCell' = true) (hS : ∀ k, v.ownBlock = some k → S k) : ∃ p c, v = .slice p n c ∧ SlT S w sz p n c L := by
  have hl := h.1
  rcases h.2 with ⟨rfl, rfl⟩ | ⟨g, cap, cur, rfl, _, hg, hc, hm, hs, ht⟩
  · refine ⟨none, 0, rfl, ⟨⟨Nat.le_refl _, Nat.zero_le _⟩, hl, h1, fun h => absurd h (by omega)⟩⟩
  · refine ⟨some ⟨g, 0, none⟩, cap, rfl, ⟨⟨hc, hm⟩, hl, h1, fun _ => ⟨g, 0, rfl, hS g rfl, fun j u hu => ?_⟩⟩⟩
    rw [cell_of_row w g _ _ _ _ hg, Nat.zero_add]
    rw [← ht, List.getElem?_take] at hu
    split at hu
    · simpa using hu
    · cases hu
theorem wp_app {T : Nat} {o : Oper} {a : Act} {W : World} {K : Act → World → Prop} {Q : Exit → Act → World → Prop} (s x : Operand) (ho : o.op = .call { callee := .builtin .append, args := #[s, x], argTypes := #[T, T] }) (hot : o.type = T)
    {v : Value} {p : Option Addr} {m c : Nat} (hs : a.eval s = v) (hx : a.eval x = .slice p m c) {v' : Value} {W' : World} (hr : (Builtin.append_ #[T, T] T #[v, .slice p m c]).run Try.prog W = .ok v' W')
    (h : K (a.put o.dst v') W') : o.wp Try.prog a W K Q := by
  unfold Oper.wp execOp
  simp only [ho, hot, resolve, invoke, builtin, Sem.run_bind, Sem.run_pure, Result.andThen_ok, List.map_toArray, List.map_cons, List.map_nil, hs, hx, hr]
  exact h
theorem append_none23 (W : World) {base n : Nat} {xs : List Value} {v : Value} (h : W.ownsRow base 9 1 v n xs) (p : Option Addr) (c : Nat) : (Builtin.append_ #[23, 23] 23 #[v, .slice p 0 c]).run Try.prog W = .ok v W := by
  rcases h.2 with ⟨rfl, rfl⟩ | ⟨g, cap, cur, rfl, _, _, hc, _, _, _⟩
  · cases p <;> simp [Builtin.append_, go_sem, Builtin.lenOf, Builtin.firstCells]
  · cases p <;> simp [Builtin.append_, go_sem, Builtin.lenOf, Builtin.firstCells, hc]
theorem app23 {S : Nat → Prop} {W : World} {base n : Nat} {xs : List Value} {v : Value} (h : W.ownsRow base 9 1 v n xs) (hB : base ≤ W.heap.size) {p : Option Addr} {m c : Nat} {L : List Value} (hS : SlT S W 1 p m c L) (hn : n + m ≤ 100000) :
    ∃ v' W', (Builtin.append_ #[23, 23] 23 #[v, .slice p m c]).run Try.prog W = .ok v' W' ∧ W'.ownsRow base 9 1 v' (n + m) (xs ++ L) ∧ W.grownBy W' v.ownBlock ∧ (v'.ownBlock = v.ownBlock ∨ v'.ownBlock = some W.heap.size) := by
  by_cases h0 : m = 0
  · subst h0
    have hl := hS.len
    have hL : L = [] := List.eq_nil_of_length_eq_zero (by omega)
    subst hL
    exact ⟨v, W, append_none23 W h p c, by simpa using h, World.grownBy.refl _ _, Or.inl rfl⟩
  · obtain ⟨b, o, rfl, hb, hc⟩ := hS.lies (by omega)
    obtain ⟨i0, hi, hz0, hz1, hz2⟩ := info_parts info9
    obtain ⟨v', W', h1, h2, h3, _, h5⟩ := run_append_own_at (P := Try.prog) W base 23 23 9 i0 _ 1 16 Try.underlying23 hi hz0 hz1 hz2 rfl (by decide) v n xs h ⟨b, o, none⟩ m c L hS.len (fun j u hu => (congrArg W.cell? (addr_at b o j)).trans (hc j u hu)) hS.one (by unfold maxLen; omega) (by omega) hB
    exact ⟨v', W', h1, h2, h3, h5⟩
theorem append_none31 (W : World) {base n : Nat} {xs : List Value} {v : Value} (h : W.ownsRow base 33 6 v n xs) (p : Option Addr) (c : Nat) : (Builtin.append_ #[31, 31] 31 #[v, .slice p 0 c]).run Try.prog W = .ok v W := by
  rcases h.2 with ⟨rfl, rfl⟩ | ⟨g, cap, cur, rfl, _, _, hc, _, _, _⟩
  · cases p <;> simp [Builtin.append_, go_sem, Builtin.lenOf, Builtin.firstCells]
  · cases p <;> simp [Builtin.append_, go_sem, Builtin.lenOf, Builtin.firstCells, hc]
theorem app31 {S : Nat → Prop} {W : World} {base n : Nat} {xs : List Value} {v : Value} (h : W.ownsRow base 33 6 v n xs) (hB : base ≤ W.heap.size) {p : Option Addr} {m c : Nat} {L : List Value} (hS : SlT S W 6 p m c L) (hn : n + m ≤ 100000) :
    ∃ v' W', (Builtin.append_ #[31, 31] 31 #[v, .slice p m c]).run Try.prog W = .ok v' W' ∧ W'.ownsRow base 33 6 v' (n + m) (xs ++ L) ∧ W.grownBy W' v.ownBlock ∧ (v'.ownBlock = v.ownBlock ∨ v'.ownBlock = some W.heap.size) := by
  by_cases h0 : m = 0
  · subst h0
    have hl := hS.len
    have hL : L = [] := List.eq_nil_of_length_eq_zero (by omega)
    subst hL
    exact ⟨v, W, append_none31 W h p c, by simpa using h, World.grownBy.refl _ _, Or.inl rfl⟩
  · obtain ⟨b, o, rfl, hb, hc⟩ := hS.lies (by omega)
    obtain ⟨i0, hi, hz0, hz1, hz2⟩ := info_parts info33
    obtain ⟨v', W', h1, h2, h3, _, h5⟩ := run_append_own_at (P := Try.prog) W base 31 31 33 i0 _ 6 88 Try.underlying31 hi hz0 hz1 hz2 rfl (by decide) v n xs h ⟨b, o, none⟩ m c L hS.len (fun j u hu => (congrArg W.cell? (addr_at b o j)).trans (hc j u hu)) hS.one (by unfold maxLen; omega) (by omega) hB
    exact ⟨v', W', h1, h2, h3, h5⟩
theorem append_none22 (W : World) {base n : Nat} {xs : List Value} {v : Value} (h : W.ownsRow base 25 6 v n xs) (p : Option Addr) (c : Nat) : (Builtin.append_ #[22, 22] 22 #[v, .slice p 0 c]).run Try.prog W = .ok v W := by
  rcases h.2 with ⟨rfl, rfl⟩ | ⟨g, cap, cur, rfl, _, _, hc, _, _, _⟩
  · cases p <;> simp [Builtin.append_, go_sem, Builtin.lenOf, Builtin.firstCells]
  · cases p <;> simp [Builtin.append_, go_sem, Builtin.lenOf, Builtin.firstCells, hc]
theorem app22 {S : Nat → Prop} {W : World} {base n : Nat} {xs : List Value} {v : Value} (h : W.ownsRow base 25 6 v n xs) (hB : base ≤ W.heap.size) {p : Option Addr} {m c : Nat} {L : List Value} (hS : SlT S W 6 p m c L) (hn : n + m ≤ 100000) :
    ∃ v' W', (Builtin.append_ #[22, 22] 22 #[v, .slice p m c]).run Try.prog W = .ok v' W' ∧ W'.ownsRow base 25 6 v' (n + m) (xs ++ L) ∧ W.grownBy W' v.ownBlock ∧ (v'.ownBlock = v.ownBlock ∨ v'.ownBlock = some W.heap.size) := by
  by_cases h0 : m = 0
  · subst h0
    have hl := hS.len
    have hL : L = [] := List.eq_nil_of_length_eq_zero (by omega)
    subst hL
    exact ⟨v, W, append_none22 W h p c, by simpa using h, World.grownBy.refl _ _, Or.inl rfl⟩
  · obtain ⟨b, o, rfl, hb, hc⟩ := hS.lies (by omega)
    obtain ⟨i0, hi, hz0, hz1, hz2⟩ := info_parts info25
    obtain ⟨v', W', h1, h2, h3, _, h5⟩ := run_append_own_at (P := Try.prog) W base 22 22 25 i0 _ 6 88 Try.underlying22 hi hz0 hz1 hz2 rfl (by decide) v n xs h ⟨b, o, none⟩ m c L hS.len (fun j u hu => (congrArg W.cell? (addr_at b o j)).trans (hc j u hu)) hS.one (by unfold maxLen; omega) (by omega) hB
    exact ⟨v', W', h1, h2, h3, h5⟩
/- Lists as cells, of a list of places. -/
theorem fm_take {sz : Nat} {F : Nat → List Value} (hF : ∀ a, (F a).length = sz) : ∀ (D : List Nat) (k : Nat), (D.flatMap F).take (k * sz) = (D.take k).flatMap F
  | [], k => by simp
  | a :: D, 0 => by simp
  | a :: D, k + 1 => by
    have e : (k + 1) * sz = (F a).length + k * sz := by rw [hF a, Nat.add_mul, Nat.one_mul, Nat.add_comm]
    have h2 := fm_take hF D k
    rw [List.flatMap_cons, e, List.take_append, List.take_of_length_le (by omega), Nat.add_sub_cancel_left, h2, List.take_succ_cons, List.flatMap_cons]
theorem fm_len {sz : Nat} {F : Nat → List Value} (hF : ∀ a, (F a).length = sz) : ∀ (D : List Nat), (D.flatMap F).length = D.length * sz
  | [] => by simp
  | a :: D => by rw [List.flatMap_cons, List.length_append, hF, fm_len hF D, List.length_cons, Nat.add_mul, Nat.one_mul, Nat.add_comm]
theorem fm_drop {sz : Nat} {F : Nat → List Value} (hF : ∀ a, (F a).length = sz) : ∀ (D : List Nat) (k : Nat), (D.flatMap F).drop (k * sz) = (D.drop k).flatMap F
  | [], k => by simp
  | a :: D, 0 => by simp
  | a :: D, k + 1 => by
    have e : (k + 1) * sz = (F a).length + k * sz := by rw [hF a, Nat.add_mul, Nat.one_mul, Nat.add_comm]
    rw [List.flatMap_cons, e, List.drop_append, ← List.drop_drop]
    have := fm_drop hF D k
    simp [List.drop_of_length_le, this]
theorem fm_at {sz : Nat} {F : Nat → List Value} (hF : ∀ a, (F a).length = sz) : ∀ (D : List Nat) (k c : Nat), k < D.length → c < sz → (D.flatMap F)[k * sz + c]? = (F (D.getD k 0))[c]?
  | [], k, c, hk, _ => by simp at hk
  | a :: D, 0, c, _, hc => by
    rw [List.flatMap_cons, List.getElem?_append_left (by rw [hF]; omega)]
    simp
  | a :: D, k + 1, c, hk, hc => by
    have e : (k + 1) * sz + c = (F a).length + (k * sz + c) := by rw [hF a, Nat.add_mul, Nat.one_mul]; omega
    rw [List.flatMap_cons, e, List.getElem?_append_right (by omega), Nat.add_sub_cancel_left, fm_at hF D k c (by simpa using hk) hc, List.getD_cons_succ]
end Go.Proofs.Ytjmjlijmeahmfaa
