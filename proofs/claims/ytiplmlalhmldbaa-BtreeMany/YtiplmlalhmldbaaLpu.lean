/- The laws' put: a list of pairs with a key. -/
import Derived.Test.YtiplmlalhmldbaaLfd
import Derived.Test.YtiplmlalhmldbaaCax
import Derived.Test.YtiplmlalhmldbaaLea
import Derived.Test.YtiplmlalhmldbaaAtt
import Derived.Test.YtiplmlalhmldbaaMat
import Derived.Maps.AppendAt
import Derived.Laws.OwnMore
namespace Go.Proofs.Ytiplmlalhmldbaa
open Go.RowKit Go.Shelf
attribute [local go_sem] Oper.semAt_some
theorem info39 : (Try.prog.info? 39).map (fun i => (i.zero, i.size, i.bytes)) = some (some (.agg #[.string ⟨#[]⟩, .string ⟨#[]⟩]), 2, 32) := by kernel_rfl
theorem append_empty39 (W : World) {base n : Nat} {xs : List Value} {v : Value} (h : W.ownsRow base 39 2 v n xs) (p : Option Addr) (c : Nat) : (Builtin.append_ #[27, 27] 27 #[v, .slice p 0 c]).run Try.prog W = .ok v W := by
  rcases h.2 with ⟨rfl, rfl⟩ | ⟨g, cap, cur, rfl, _, _, hc, _, _, _⟩
  · cases p <;> simp [Builtin.append_, go_sem, Builtin.lenOf, Builtin.firstCells]
  · cases p <;> simp [Builtin.append_, go_sem, Builtin.lenOf, Builtin.firstCells, hc]
theorem addr_add (b o j : Nat) : (⟨b, o, none⟩ : Addr).add j = ⟨b, o + j, none⟩ := by
  unfold Addr.add
  split
  · rename_i h; subst h; rfl
  · rfl
theorem app27 {W : World} {base n : Nat} {xs : List Value} {v : Value} (h : W.ownsRow base 39 2 v n xs) (hB : base ≤ W.heap.size) {p : Option Addr} {m c : Nat} {L : List Value} (hS : Sl W p m c L) (hn : n + m ≤ 100000) :
    ∃ v' W', (Builtin.append_ #[27, 27] 27 #[v, .slice p m c]).run Try.prog W = .ok v' W' ∧ W'.ownsRow base 39 2 v' (n + m) (xs ++ L) ∧ W.grownBy W' v.ownBlock ∧ (v'.ownBlock = v.ownBlock ∨ v'.ownBlock = some W.heap.size) := by
  by_cases h0 : m = 0
  · subst h0
    have hl := hS.len
    have hL : L = [] := List.eq_nil_of_length_eq_zero (by omega)
    subst hL
    exact ⟨v, W, append_empty39 W h p c, by simpa using h, World.grownBy.refl _ _, Or.inl rfl⟩
  · obtain ⟨b, o, rfl, hb, hc⟩ := hS.lies (by omega)
    obtain ⟨i0, hi, hz0, hz1, hz2⟩ := info_parts info39
    obtain ⟨v', W', h1, h2, h3, _, h5⟩ := run_append_own_at (P := Try.prog) W base 27 27 39 i0 _ 2 32 Try.underlying27 hi hz0 hz1 hz2 rfl (by decide) v n xs h ⟨b, o, none⟩ m c L hS.len (fun j u hu => (congrArg W.cell? (addr_add b o j)).trans (hc j u hu)) hS.one (by unfold maxLen; omega) (by omega) hB
    exact ⟨v', W', h1, h2, h3, h5⟩
theorem wp_app27 {o : Oper} {a : Act} {W : World} {K : Act → World → Prop} {Q : Exit → Act → World → Prop} (s x : Operand) (ho : o.op = .call { callee := .builtin .append, args := #[s, x], argTypes := #[27, 27] }) (hot : o.type = 27)
    {v : Value} {p : Option Addr} {m c : Nat} (hs : a.eval s = v) (hx : a.eval x = .slice p m c) {v' : Value} {W' : World} (hr : (Builtin.append_ #[27, 27] 27 #[v, .slice p m c]).run Try.prog W = .ok v' W')
    (h : K (a.put o.dst v') W') : o.wp Try.prog a W K Q := by
  unfold Oper.wp execOp
  simp only [ho, hot, resolve, invoke, builtin, Sem.run_bind, Sem.run_pure, Result.andThen_ok, List.map_toArray, List.map_cons, List.map_nil, hs, hx, hr]
  exact h
/- What slots hold while rows are made: a row of one's own, or a known value. -/
theorem itC_set : ∀ (xs : List Im) (i : Nat), i < xs.length → ∀ (key x : ByteArray), (xs[i]!).1 = key → itC (xs.take i ++ [(key, x)] ++ xs.drop (i + 1)) = ([] ++ itC xs).set (i * 2 + 1) (.string x)
  | [], i, h, _, _, _ => by simp at h
  | y :: xs, 0, _, key, x, hk => by
    have : y.1 = key := by simpa using hk
    subst this
    simp [itC]
  | y :: xs, i + 1, h, key, x, hk => by
    have h2 := itC_set xs i (by simpa using h) key x (by simpa using hk)
    rw [List.nil_append] at h2 ⊢
    rw [List.take_succ_cons, List.cons_append, List.cons_append, itC_cons, List.drop_succ_cons, h2, itC_cons, show (i + 1) * 2 + 1 = (i * 2 + 1) + 1 + 1 by omega, List.set_cons_succ, List.set_cons_succ]
def pickO (S : List (Nat × Nat × List Value)) (i : Nat) : Option (Nat × List Value) := S.lookup i
def RO (B : Nat) (S : List (Nat × Nat × List Value)) (vals : List Value) (i : Nat) (v : Value) (W : World) : Prop := match pickO S i with | some (n, L) => W.ownsRow B 39 2 v n L | none => v = vals.getD i undef
def bxO (S : List (Nat × Nat × List Value)) (i : Nat) : Bool := (pickO S i).isSome
theorem RO.r0 {B : Nat} {S : List (Nat × Nat × List Value)} {vals : List Value} : ∀ i u W W' (row : Option Nat), bxO S i = false → RO B S vals i u W → World.grownBy W W' row → RO B S vals i u W' := by
  intro i u W W' row hb h _
  unfold bxO at hb
  unfold RO at h ⊢
  cases e : pickO S i with
  | none => rw [e] at h; exact h
  | some x => rw [e] at hb; cases hb
theorem RO.r1 {B : Nat} {S : List (Nat × Nat × List Value)} {vals : List Value} : ∀ i u W W' (row : Option Nat), bxO S i = true → RO B S vals i u W → World.grownBy W W' row → (∀ g, row = some g → u.ownBlock ≠ some g) → RO B S vals i u W' := by
  intro i u W W' row hb h hg hne
  unfold bxO at hb
  unfold RO at h ⊢
  cases e : pickO S i with
  | none => rw [e] at hb; cases hb
  | some x =>
    rw [e] at h
    refine h.kept hg ?_
    cases hu : u.ownBlock with
    | none => exact Or.inl rfl
    | some g => exact Or.inr (fun e2 => hne g e2.symm hu)
theorem own_blk {W : World} {B n : Nat} {L : List Value} {v : Value} (h : W.ownsRow B 39 2 v n L) : ∀ g, v.ownBlock = some g → g < W.heap.size := fun g hg => (h.lt g hg).2
set_option maxRecDepth 100000 in
set_option maxHeartbeats 4000000 in
theorem lput_new (xs : List Im) (hr : Ris xs) (hn : xs.length ≤ 900) (key x : ByteArray) (hno : isK xs key = false) (p : Option Addr) (c : Nat) (w : World) (hS : Sl w p xs.length c (itC xs)) :
    Calls Try.prog 13 #[.slice p xs.length c, .string key, .string x] w fun e w' => ∃ q d, e = .returned (.tuple #[.slice q (0 + posK xs key + 1 + (xs.length - posK xs key)) d, .bool true]) ∧
      Sl w' q (0 + posK xs key + 1 + (xs.length - posK xs key)) d (itC (insK xs (key, x))) ∧ Below w.heap.size w w' := by
  have hfi := lfind_any xs hr (by omega) key p c w hS
  have hle := posK_le xs key
  have hin : itC (insK xs (key, x)) = [] ++ (itC xs).take (posK xs key * 2) ++ [.string key, .string x] ++ (itC xs).drop (posK xs key * 2) := by
    unfold insK
    rw [if_neg (by rw [hno]; exact Bool.false_ne_true), itC_app, itC_app, itC_take, itC_drop, List.nil_append]
    rfl
  rw [hno] at hfi
  rw [hin]
  generalize posK xs key = i0 at hfi hle ⊢
  obtain ⟨LL, hLL⟩ : ∃ LL, [] ++ (itC xs).take (i0 * 2) ++ [.string key, .string x] ++ (itC xs).drop (i0 * 2) = LL := ⟨_, rfl⟩
  obtain ⟨NN, hNN⟩ : ∃ NN, 0 + i0 + 1 + (xs.length - i0) = NN := ⟨_, rfl⟩
  rw [hLL, hNN]
  have HL : Hid ([] ++ (itC xs).take (i0 * 2) ++ [.string key, .string x] ++ (itC xs).drop (i0 * 2) = LL) := hLL
  have HN : Hid (0 + i0 + 1 + (xs.length - i0) = NN) := hNN
  clear hLL hNN
  have hcap := hS.cap
  have hcm : (c : Int) ≤ 9223372036854775807 := by have := hcap.2; unfold maxLen at this; omega
  have hic : (i0 : Int) ≤ (c : Int) := by omega
  have hmx : maxLen = 9223372036854775807 := rfl
  clear hno hin hr
  go_enter Try.func13, Try.ntmps13
  go_wp2_with fail
  refine hfi.mono ?_
  rintro e w1 ⟨rfl, hb1⟩
  have hS1 := hS.later hb1
  go_wp2_with fail
  obtain ⟨B, hBd⟩ : ∃ B, B = w1.heap.size := ⟨_, rfl⟩
  refine any_tail3 (by kernel_rfl) 14 (by exact Nat.le_of_ble_eq_true rfl) (fun i => i + 27) (RO B [(0, 0, []), (4, 0 + i0, [] ++ (itC xs).take (i0 * 2)), (8, 1, [.string key, .string x]), (9, 0 + i0 + 1, [] ++ (itC xs).take (i0 * 2) ++ [.string key, .string x]), (13, 0 + i0 + 1 + (xs.length - i0), [] ++ (itC xs).take (i0 * 2) ++ [.string key, .string x] ++ (itC xs).drop (i0 * 2))] [undef, .slice p xs.length c, .int .i64 (i0 : Int), .slice p i0 c, undef, .string key, .string x, .agg #[.string key, .string x], undef, undef, .slice p xs.length c, .int .i64 (i0 : Int), .slice (if c = i0 then p else Option.map (fun x => x.add (i0 * 2)) p) (xs.length - i0) (c - i0), undef]) (bxO [(0, 0, []), (4, 0 + i0, [] ++ (itC xs).take (i0 * 2)), (8, 1, [.string key, .string x]), (9, 0 + i0 + 1, [] ++ (itC xs).take (i0 * 2) ++ [.string key, .string x]), (13, 0 + i0 + 1 + (xs.length - i0), [] ++ (itC xs).take (i0 * 2) ++ [.string key, .string x] ++ (itC xs).drop (i0 * 2))]) (fun j => if j = 4 then some 0 else if j = 9 then some 4 else if j = 13 then some 9 else none) (by kernel_rfl) (by kernel_rfl) (by kernel_rfl) (by kernel_rfl) (by kernel_rfl) (fun i u W W' row h1 h2 h3 _ _ => RO.r0 i u W W' row h1 h2 h3) (fun i u W W' row h1 h2 h3 h4 => RO.r1 i u W W' row h1 h2 h3 h4) ?step ?post
  case step =>
    intro iq hiq a W hrest hb hk
    have hp0 : a.eval (.tmp 0) = .slice p xs.length c := (hrest 0 (by intro iq2 hiq2; (repeat' split) <;> omega)).trans rfl
    have fp0 := ev hp0
    have hp1 : a.eval (.tmp 1) = .string key := (hrest 1 (by intro iq2 hiq2; (repeat' split) <;> omega)).trans rfl
    have fp1 := ev hp1
    have hp2 : a.eval (.tmp 2) = .string x := (hrest 2 (by intro iq2 hiq2; (repeat' split) <;> omega)).trans rfl
    have fp2 := ev hp2
    have hp8 : a.eval (.tmp 8) = .int .i64 (i0 : Int) := (hrest 8 (by intro iq2 hiq2; (repeat' split) <;> omega)).trans rfl
    have fp8 := ev hp8
    clear hrest
    have hBW : B ≤ W.heap.size := by have := hb.size; omega
    obtain rfl | rfl | rfl | rfl | rfl | rfl | rfl | rfl | rfl | rfl | rfl | rfl | rfl | rfl : iq = 0 ∨ iq = 1 ∨ iq = 2 ∨ iq = 3 ∨ iq = 4 ∨ iq = 5 ∨ iq = 6 ∨ iq = 7 ∨ iq = 8 ∨ iq = 9 ∨ iq = 10 ∨ iq = 11 ∨ iq = 12 ∨ iq = 13 := by omega
    · clear hiq
      clear hk
      refine ⟨_, rfl, rfl, rfl, wp_value (v := .slice (some ⟨W.heap.size, 0, none⟩) 0 0) (w' := W.alloc (.cells #[] 39)) ?_ ⟨_, none, rfl, World.grownBy_alloc _ _ _, (fun _ h => by cases h), (World.ownsRow_lit W #[] 0 hBW (by decide) rfl : (W.alloc (.cells #[] 39)).ownsRow B 39 2 (.slice (some ⟨W.heap.size, 0, none⟩) 0 0) 0 []), fun _ g hg => ?_⟩⟩
      · go_simp
      · have : g = W.heap.size := by simpa [Value.ownBlock] using hg.symm
        subst this
        exact ⟨lt_of_row (heap_alloc_new W _), Or.inl (Nat.le_refl _)⟩
    · clear hiq
      clear hk
      refine ⟨_, rfl, rfl, rfl, wp_value (v := .slice p xs.length c) (w' := W) ?_ ⟨_, none, rfl, World.grownBy.refl _ _, (fun _ h => by cases h), rfl, fun h => nomatch (show false = true from h)⟩⟩
      go_simp
    · clear hiq
      clear hk
      refine ⟨_, rfl, rfl, rfl, wp_value (v := .int .i64 (i0 : Int)) (w' := W) ?_ ⟨_, none, rfl, World.grownBy.refl _ _, (fun _ h => by cases h), rfl, fun h => nomatch (show false = true from h)⟩⟩
      go_simp
    · clear hiq
      have e1 : a.eval (.tmp 28) = .slice p xs.length c := hk 1 (mem_of (by kernel_rfl))
      have f1 := ev e1
      have e2 : a.eval (.tmp 29) = .int .i64 (i0 : Int) := hk 2 (mem_of (by kernel_rfl))
      have f2 := ev e2
      clear hk
      refine ⟨_, rfl, rfl, rfl, wp_value (v := .slice p i0 c) (w' := W) ?_ ⟨_, none, rfl, World.grownBy.refl _ _, (fun _ h => by cases h), rfl, fun h => nomatch (show false = true from h)⟩⟩
      go_simp
    · clear hiq
      have e0 : W.ownsRow B 39 2 (a.eval (.tmp 27)) 0 [] := hk 0 (mem_of (by kernel_rfl))
      have e3 : a.eval (.tmp 30) = .slice p i0 c := hk 3 (mem_of (by kernel_rfl))
      have f3 := ev e3
      clear hk
      obtain ⟨v', W', hr, ho, hg, hbk⟩ := app27 e0 hBW ((hS1.later hb).first (by omega : i0 ≤ xs.length)) (by omega)
      refine ⟨_, rfl, rfl, rfl, wp_app27 (.tmp 27) (.tmp 30) rfl rfl rfl e3 hr ⟨_, _, rfl, hg, fun g h => ⟨0, rfl, h⟩, ho, fun _ g h => ⟨own_blk ho g h, ?_⟩⟩⟩
      rcases hbk with hbk | hbk
      · exact Or.inr ⟨0, rfl, hbk.symm.trans h⟩
      · exact Or.inl (by rw [hbk] at h; cases h; exact Nat.le_refl _)
    · clear hiq
      clear hk
      refine ⟨_, rfl, rfl, rfl, wp_value (v := .string key) (w' := W) ?_ ⟨_, none, rfl, World.grownBy.refl _ _, (fun _ h => by cases h), rfl, fun h => nomatch (show false = true from h)⟩⟩
      go_simp
    · clear hiq
      clear hk
      refine ⟨_, rfl, rfl, rfl, wp_value (v := .string x) (w' := W) ?_ ⟨_, none, rfl, World.grownBy.refl _ _, (fun _ h => by cases h), rfl, fun h => nomatch (show false = true from h)⟩⟩
      go_simp
    · clear hiq
      have e5 : a.eval (.tmp 32) = .string key := hk 5 (mem_of (by kernel_rfl))
      have f5 := ev e5
      have e6 : a.eval (.tmp 33) = .string x := hk 6 (mem_of (by kernel_rfl))
      have f6 := ev e6
      clear hk
      refine ⟨_, rfl, rfl, rfl, wp_value (v := .agg #[.string key, .string x]) (w' := W) ?_ ⟨_, none, rfl, World.grownBy.refl _ _, (fun _ h => by cases h), rfl, fun h => nomatch (show false = true from h)⟩⟩
      go_simp
    · clear hiq
      have e7 : a.eval (.tmp 34) = .agg #[.string key, .string x] := hk 7 (mem_of (by kernel_rfl))
      have f7 := ev e7
      clear hk
      refine ⟨_, rfl, rfl, rfl, wp_value (v := .slice (some ⟨W.heap.size, 0, none⟩) 1 1) (w' := W.alloc (.cells #[.string key, .string x] 39)) ?_ ⟨_, none, rfl, World.grownBy_alloc _ _ _, (fun _ h => by cases h), (World.ownsRow_lit W #[.string key, .string x] 1 hBW (by decide) rfl : (W.alloc (.cells #[.string key, .string x] 39)).ownsRow B 39 2 (.slice (some ⟨W.heap.size, 0, none⟩) 1 1) 1 [.string key, .string x]), fun _ g hg => ?_⟩⟩
      · go_simp
      · have : g = W.heap.size := by simpa [Value.ownBlock] using hg.symm
        subst this
        exact ⟨lt_of_row (heap_alloc_new W _), Or.inl (Nat.le_refl _)⟩
    · clear hiq
      have e4 : W.ownsRow B 39 2 (a.eval (.tmp 31)) (0 + i0) ([] ++ (itC xs).take (i0 * 2)) := hk 4 (mem_of (by kernel_rfl))
      have e8 : W.ownsRow B 39 2 (a.eval (.tmp 35)) 1 [.string key, .string x] := hk 8 (mem_of (by kernel_rfl))
      clear hk
      obtain ⟨q8, d8, hq8, s8⟩ := Sl.of_own e8 (by intro u hu; simp only [List.mem_cons, List.not_mem_nil, or_false] at hu; rcases hu with rfl | rfl <;> rfl)
      obtain ⟨v', W', hr, ho, hg, hbk⟩ := app27 e4 hBW s8 (by omega)
      refine ⟨_, rfl, rfl, rfl, wp_app27 (.tmp 31) (.tmp 35) rfl rfl rfl hq8 hr ⟨_, _, rfl, hg, fun g h => ⟨4, rfl, h⟩, ho, fun _ g h => ⟨own_blk ho g h, ?_⟩⟩⟩
      rcases hbk with hbk | hbk
      · exact Or.inr ⟨4, rfl, hbk.symm.trans h⟩
      · exact Or.inl (by rw [hbk] at h; cases h; exact Nat.le_refl _)
    · clear hiq
      clear hk
      refine ⟨_, rfl, rfl, rfl, wp_value (v := .slice p xs.length c) (w' := W) ?_ ⟨_, none, rfl, World.grownBy.refl _ _, (fun _ h => by cases h), rfl, fun h => nomatch (show false = true from h)⟩⟩
      go_simp
    · clear hiq
      clear hk
      refine ⟨_, rfl, rfl, rfl, wp_value (v := .int .i64 (i0 : Int)) (w' := W) ?_ ⟨_, none, rfl, World.grownBy.refl _ _, (fun _ h => by cases h), rfl, fun h => nomatch (show false = true from h)⟩⟩
      go_simp
    · clear hiq
      have e10 : a.eval (.tmp 37) = .slice p xs.length c := hk 10 (mem_of (by kernel_rfl))
      have f10 := ev e10
      have e11 : a.eval (.tmp 38) = .int .i64 (i0 : Int) := hk 11 (mem_of (by kernel_rfl))
      have f11 := ev e11
      clear hk
      refine ⟨_, rfl, rfl, rfl, wp_value (v := .slice (if c = i0 then p else Option.map (fun x => x.add (i0 * 2)) p) (xs.length - i0) (c - i0)) (w' := W) ?_ ⟨_, none, rfl, World.grownBy.refl _ _, (fun _ h => by cases h), rfl, fun h => nomatch (show false = true from h)⟩⟩
      go_simp
    · clear hiq
      have e9 : W.ownsRow B 39 2 (a.eval (.tmp 36)) (0 + i0 + 1) ([] ++ (itC xs).take (i0 * 2) ++ [.string key, .string x]) := hk 9 (mem_of (by kernel_rfl))
      have e12 : a.eval (.tmp 39) = .slice (if c = i0 then p else Option.map (fun x => x.add (i0 * 2)) p) (xs.length - i0) (c - i0) := hk 12 (mem_of (by kernel_rfl))
      have f12 := ev e12
      clear hk
      obtain ⟨v', W', hr, ho, hg, hbk⟩ := app27 e9 hBW ((hS1.later hb).last (by omega : i0 ≤ xs.length)) (by omega)
      refine ⟨_, rfl, rfl, rfl, wp_app27 (.tmp 36) (.tmp 39) rfl rfl rfl e12 hr ⟨_, _, rfl, hg, fun g h => ⟨9, rfl, h⟩, ho, fun _ g h => ⟨own_blk ho g h, ?_⟩⟩⟩
      rcases hbk with hbk | hbk
      · exact Or.inr ⟨9, rfl, hbk.symm.trans h⟩
      · exact Or.inl (by rw [hbk] at h; cases h; exact Nat.le_refl _)
  case post =>
    intro V W hb hV
    have h13 : W.ownsRow B 39 2 (V 13) (0 + i0 + 1 + (xs.length - i0)) ([] ++ (itC xs).take (i0 * 2) ++ [.string key, .string x] ++ (itC xs).drop (i0 * 2)) := hV 13 (by decide) (by decide)
    have hone : ∀ u ∈ ([] ++ (itC xs).take (i0 * 2) ++ [.string key, .string x] ++ (itC xs).drop (i0 * 2) : List Value), u.oneCell' = true := by
      intro u hu
      simp only [List.nil_append, List.mem_append, List.mem_cons, List.not_mem_nil, or_false] at hu
      rcases hu with (hu | rfl | rfl) | hu
      · exact hS.one u (List.mem_of_mem_take hu)
      · rfl
      · rfl
      · exact hS.one u (List.mem_of_mem_drop hu)
    obtain ⟨q, d, hq, hSq⟩ := Sl.of_own h13 hone
    rw [HL.out, HN.out] at hSq
    rw [HN.out] at hq
    have hbz : Below w.heap.size w W := hb1.trans (hb.mono hb1.size)
    clear h13 hone hV hb
    simp only [putAll, hq]
    go_wp2
    exact bodyPost_ret (results_tmp2 rfl _ _ _) rfl ⟨_, _, rfl, hSq, hbz⟩
set_option maxRecDepth 100000 in
set_option maxHeartbeats 4000000 in
theorem lput_old (xs : List Im) (hr : Ris xs) (hn : xs.length ≤ 900) (key x : ByteArray) (hno : isK xs key = true) (p : Option Addr) (c : Nat) (w : World) (hS : Sl w p xs.length c (itC xs)) :
    Calls Try.prog 13 #[.slice p xs.length c, .string key, .string x] w fun e w' => ∃ q d, e = .returned (.tuple #[.slice q (0 + xs.length) d, .bool false]) ∧
      Sl w' q (0 + xs.length) d (itC (insK xs (key, x))) ∧ Below w.heap.size w w' := by
  have hfi := lfind_any xs hr (by omega) key p c w hS
  obtain ⟨hlt, hat⟩ := isK_at hno
  rw [hno] at hfi
  have hin : itC (insK xs (key, x)) = ([] ++ itC xs).set (posK xs key * 2 + 1) (.string x) := by
    unfold insK
    rw [if_pos hno]
    exact itC_set xs (posK xs key) hlt key x hat
  rw [hin]
  generalize posK xs key = i0 at hfi hlt ⊢
  obtain ⟨LL, hLL⟩ : ∃ LL, ([] ++ itC xs).set (i0 * 2 + 1) (.string x) = LL := ⟨_, rfl⟩
  obtain ⟨NN, hNN⟩ : ∃ NN, 0 + xs.length = NN := ⟨_, rfl⟩
  rw [hLL, hNN]
  have HL : Hid (([] ++ itC xs).set (i0 * 2 + 1) (.string x) = LL) := hLL
  have HN : Hid (0 + xs.length = NN) := hNN
  clear hLL hNN
  have hcap := hS.cap
  have hmx : maxLen = 9223372036854775807 := rfl
  clear hno hin hr hat
  go_enter Try.func13, Try.ntmps13
  go_wp2_with fail
  refine hfi.mono ?_
  rintro e w1 ⟨rfl, hb1⟩
  have hS1 := hS.later hb1
  have e0 : (w1.alloc (.cells #[] 39)).ownsRow w1.heap.size 39 2 (.slice (some ⟨w1.heap.size, 0, none⟩) 0 0) 0 [] := World.ownsRow_lit w1 #[] 0 (Nat.le_refl _) (by decide) rfl
  have b0 : Below w1.heap.size w1 (w1.alloc (.cells #[] 39)) := (Below.refl _ w1).alloc (Nat.le_refl _) _
  obtain ⟨v', W', hrun, ho, hg, hbk⟩ := app27 e0 b0.size (hS1.later b0) (by omega)
  obtain ⟨g, cp, rfl, hgB, hgl⟩ := ho.form (by omega)
  have hone : ∀ u ∈ ([] ++ itC xs : List Value), u.oneCell' = true := by rw [List.nil_append]; exact itC_one xs
  have hbW : Below w1.heap.size w1 W' := b0.grown hg b0.size (fun k hk => (e0.lt k hk).1)
  have hst := ho.stored (i0 * 2 + 1) (.string x)
  have hcl : W'.cell? ⟨g, i0 * 2 + 1, none⟩ = some (.string (xs[i0]!).2) := by
    rw [ho.cellAt (i0 * 2 + 1) (by omega), List.nil_append, show i0 * 2 + 1 = 2 * i0 + 1 by omega]
    exact (itC_at xs i0 hlt).2
  obtain ⟨y, hy⟩ : ∃ y, (xs[i0]!).2 = y := ⟨_, rfl⟩
  rw [hy] at hcl
  clear hy
  have hfz := ho.frozenAt (i0 * 2 + 1)
  clear e0 hg hbk
  have hlt2 : (i0 : Int) < ((0 + xs.length : Nat) : Int) := by omega
  go_wp2_with (at_builtin; refine Lib.wpList_append_run _ rfl _ _ _ _ rfl _ _ rfl rfl _ _ hrun ?_)
  obtain ⟨h1, h2⟩ := hst
  rw [HL.out] at h1
  have hLo : ∀ u ∈ LL, u.oneCell' = true := by
    intro u hu
    rw [← HL.out] at hu
    rcases List.mem_or_eq_of_mem_set hu with h | h
    · exact hone u h
    · rw [h]; rfl
  obtain ⟨q, d, e1, e2⟩ := Sl.of_own h1 hLo
  rw [HN.out] at e1 e2
  have hNx : xs.length = NN := by have := HN.out; omega
  refine bodyPost_ret (results_tmp2 rfl _ _ _) rfl ⟨q, d, ?_, e2, hb1.trans ((hbW.grown h2 hbW.size (fun k hk => by cases hk; exact hgB)).mono hb1.size)⟩
  rw [← e1, hNx]
  rfl
theorem lput_any (xs : List Im) (hr : Ris xs) (hn : xs.length ≤ 900) (key x : ByteArray) (p : Option Addr) (c : Nat) (w : World) (hS : Sl w p xs.length c (itC xs)) :
    Calls Try.prog 13 #[.slice p xs.length c, .string key, .string x] w fun e w' => ∃ q d b, e = .returned (.tuple #[.slice q (insK xs (key, x)).length d, .bool b]) ∧
      Sl w' q (insK xs (key, x)).length d (itC (insK xs (key, x))) ∧ Below w.heap.size w w' := by
  cases h : isK xs key with
  | true =>
    refine (lput_old xs hr hn key x h p c w hS).mono ?_
    rintro e w1 ⟨q, d, rfl, h1, h2⟩
    have hh := h1.it
    rw [hh] at h1
    rw [hh]
    exact ⟨q, d, _, rfl, h1, h2⟩
  | false =>
    refine (lput_new xs hr hn key x h p c w hS).mono ?_
    rintro e w1 ⟨q, d, rfl, h1, h2⟩
    have hh := h1.it
    rw [hh] at h1
    rw [hh]
    exact ⟨q, d, _, rfl, h1, h2⟩
end Go.Proofs.Ytiplmlalhmldbaa
