/- Statements (selection, statement). -/
import Derived.Test.YtfemippjaokcmaaGreatDoorNum
namespace Go.Proofs.YtfemippjaokcmaaGreatDoor
open Go.RowKit Go.Shelf
attribute [local go_sem] Oper.semAt_some fw0 fw1 fw2
/- SELECT: up to its columns, its source, WHERE, ORDER. -/
def slC (ws : List Wd) (M : Sm) (s : PS) : Sm × PS := colF ws { M with k := 6 } s
def slO (ws : List Wd) (M : Sm) (s : PS) : Sm × PS := srcF ws (slC ws M s).1 (mustQ ws (slC ws M s).2 2 [70, 82, 79, 77])
def slW (ws : List Wd) (M : Sm) (s : PS) : Sm × PS := whrF ws (slO ws M s).1 (slO ws M s).2
def slD (ws : List Wd) (M : Sm) (s : PS) : Sm × PS := ordF ws (slW ws M s).1 (slW ws M s).2
def selF (ws : List Wd) (M : Sm) (s : PS) : Sm × PS :=
  if isP (wAt ws (slD ws M s).2.at') 2 [76, 73, 77, 73, 84] then ({ (slD ws M s).1 with li := (numF ws (takeP (slD ws M s).2)).1 }, (numF ws (takeP (slD ws M s).2)).2) else slD ws M s
set_option maxRecDepth 100000 in
set_option maxHeartbeats 8000000 in
theorem selection_any {S : Nat → Prop} {b : Nat} {p : Option Addr} {c : Nat} {ws : List Wd} {x : Nat} {w : World} {M : Sm} {s : PS} (H : Sb S b p c ws x w w M s) (hz : Wz ws) (hl : Wl ws) (g : Gd ws s) (ha : Wa ws) (he : Ev w) (hb2 : 2 < b) :
    Calls Tryz.prog 85 #[.pointer (some ⟨b, 0, none⟩), .pointer (some ⟨x, 0, none⟩)] w (Gst S b p c ws x w (selF ws M s)) := by
  have hlt := H.ps.lt
  unfold selF
  by_cases hy : isP (wAt ws (slD ws M s).2.at') 2 [76, 73, 77, 73, 84] = true
  · rw [if_pos hy]
    have HB0 : Hid (Sb S b p c ws x w w M s) := H
    have hbx := H.bx
    clear H
    go_enter Tryz.func85, Tryz.ntmps85
    obtain ⟨R0, hr0, hx0⟩ := HB0.out.row
    have x0 : w.cell? ⟨x, 0, none⟩ = some (.int .i64 R0.k) := cell_of_row w x 0 _ _ _ hr0
    have f0 := frozen_of_row w x 0 _ _ hr0
    obtain ⟨w1, hw1⟩ : ∃ wq, w.setCell ⟨x, 0, none⟩ (.int .i64 6) = wq := ⟨_, rfl⟩
    have HB1 : Hid (Sb S b p c ws x w w1 { M with k := 6 } s) := by
      rw [← hw1]
      exact HB0.out.cell (N := { M with k := 6 }) hr0 0 (.int .i64 6) (R2 := { R0 with k := 6 }) rfl { hx0 with k := rfl }
    clear hr0 hx0 HB0
    have k1 := columns_any HB1.out.self hz hl g
    go_wp2_with fail
    refine k1.mono ?_
    rintro q w2 ⟨rfl, hB2, hG2⟩
    have HB2 : Hid (Sb S b p c ws x w w2 (slC ws M s).1 (slC ws M s).2) := HB1.out.trans hB2
    clear k1 hB2 HB1
    clear hw1 x0 f0
    have g1 := hG2.must hz HB2.out.ps.lt (k := 2) (by decide) [70, 82, 79, 77]
    have k2 := pkey_q HB2.out.ps hz [70, 82, 79, 77]
    go_wp2_with fail
    refine k2.mono ?_
    rintro q w3 ⟨rfl, hP3, hO3⟩
    have HB3 : Hid (Sb S b p c ws x w w3 (slC ws M s).1 (mustQ ws (slC ws M s).2 2 [70, 82, 79, 77])) := HB2.out.calls hO3 hP3
    clear k2 hP3 hO3 HB2
    have k3 := source_any HB3.out.self hz hl g1
    go_wp2_with fail
    refine k3.mono ?_
    rintro q w4 ⟨rfl, hB4, hG4⟩
    have HB4 : Hid (Sb S b p c ws x w w4 (slO ws M s).1 (slO ws M s).2) := HB3.out.trans hB4
    clear k3 hB4 HB3
    have k4 := where_any HB4.out.self hz hl hG4
    go_wp2_with fail
    refine k4.mono ?_
    rintro q w5 ⟨rfl, hB5, hG5⟩
    have HB5 : Hid (Sb S b p c ws x w w5 (slW ws M s).1 (slW ws M s).2) := HB4.out.trans hB5
    clear k4 hB5 HB4
    have k5 := order_any HB5.out.self hz hl hG5
    go_wp2_with fail
    refine k5.mono ?_
    rintro q w6 ⟨rfl, hB6, hG6⟩
    have HB6 : Hid (Sb S b p c ws x w w6 (slD ws M s).1 (slD ws M s).2) := HB5.out.trans hB6
    clear k5 hB6 HB5
    have l1 := HB6.out.ps.lt
    have g2 := hG6.take hz l1 hy (by decide)
    have l2 : (takeP (slD ws M s).2).at' < ws.length := hz.next l1 (by rw [isP_kind hy]; decide)
    have g3 := g2.pk (num_pk hz l2)
    have k6 := tookKey_yes HB6.out.ps hz [76, 73, 77, 73, 84] hy
    go_wp2_with fail
    refine k6.mono ?_
    rintro q w7 ⟨rfl, hP7, hO7⟩
    have HB7 : Hid (Sb S b p c ws x w w7 (slD ws M s).1 (takeP (slD ws M s).2)) := HB6.out.calls hO7 hP7
    clear k6 hP7 hO7 HB6
    have hev := he.sb hb2 HB7.out
    have k7 := number_any HB7.out.ps hz hl ha hev
    go_wp2_with fail
    refine k7.mono ?_
    rintro q w8 ⟨rfl, hP8, hO8⟩
    have HB8 : Hid (Sb S b p c ws x w w8 (slD ws M s).1 (numF ws (takeP (slD ws M s).2)).2) := HB7.out.calls hO8 hP8
    clear k7 hP8 hO8 HB7
    obtain ⟨R8, hr8, hx8⟩ := HB8.out.row
    have x8 : w8.cell? ⟨x, 30, none⟩ = some (.int .i64 R8.li) := cell_of_row w8 x 30 _ _ _ hr8
    have f8 := frozen_of_row w8 x 30 _ _ hr8
    obtain ⟨w9, hw9⟩ : ∃ wq, w8.setCell ⟨x, 30, none⟩ (.int .i64 (numF ws (takeP (slD ws M s).2)).1) = wq := ⟨_, rfl⟩
    have HB9 : Hid (Sb S b p c ws x w w9 { (slD ws M s).1 with li := (numF ws (takeP (slD ws M s).2)).1 } (numF ws (takeP (slD ws M s).2)).2) := by
      rw [← hw9]
      exact HB8.out.cell (N := { (slD ws M s).1 with li := (numF ws (takeP (slD ws M s).2)).1 }) hr8 30 (.int .i64 (numF ws (takeP (slD ws M s).2)).1) (R2 := { R8 with li := (numF ws (takeP (slD ws M s).2)).1 }) rfl { hx8 with li := rfl }
    clear hr8 hx8 HB8
    go_wp2
    go_end0
    exact ⟨rfl, HB9.out, g3⟩
  · rw [if_neg hy]
    have hyf : isP (wAt ws (slD ws M s).2.at') 2 [76, 73, 77, 73, 84] = false := by simpa using hy
    have HB0 : Hid (Sb S b p c ws x w w M s) := H
    have hbx := H.bx
    clear H
    go_enter Tryz.func85, Tryz.ntmps85
    obtain ⟨R0, hr0, hx0⟩ := HB0.out.row
    have x0 : w.cell? ⟨x, 0, none⟩ = some (.int .i64 R0.k) := cell_of_row w x 0 _ _ _ hr0
    have f0 := frozen_of_row w x 0 _ _ hr0
    obtain ⟨w1, hw1⟩ : ∃ wq, w.setCell ⟨x, 0, none⟩ (.int .i64 6) = wq := ⟨_, rfl⟩
    have HB1 : Hid (Sb S b p c ws x w w1 { M with k := 6 } s) := by
      rw [← hw1]
      exact HB0.out.cell (N := { M with k := 6 }) hr0 0 (.int .i64 6) (R2 := { R0 with k := 6 }) rfl { hx0 with k := rfl }
    clear hr0 hx0 HB0
    have k1 := columns_any HB1.out.self hz hl g
    go_wp2_with fail
    refine k1.mono ?_
    rintro q w2 ⟨rfl, hB2, hG2⟩
    have HB2 : Hid (Sb S b p c ws x w w2 (slC ws M s).1 (slC ws M s).2) := HB1.out.trans hB2
    clear k1 hB2 HB1
    clear hw1 x0 f0
    have g1 := hG2.must hz HB2.out.ps.lt (k := 2) (by decide) [70, 82, 79, 77]
    have k2 := pkey_q HB2.out.ps hz [70, 82, 79, 77]
    go_wp2_with fail
    refine k2.mono ?_
    rintro q w3 ⟨rfl, hP3, hO3⟩
    have HB3 : Hid (Sb S b p c ws x w w3 (slC ws M s).1 (mustQ ws (slC ws M s).2 2 [70, 82, 79, 77])) := HB2.out.calls hO3 hP3
    clear k2 hP3 hO3 HB2
    have k3 := source_any HB3.out.self hz hl g1
    go_wp2_with fail
    refine k3.mono ?_
    rintro q w4 ⟨rfl, hB4, hG4⟩
    have HB4 : Hid (Sb S b p c ws x w w4 (slO ws M s).1 (slO ws M s).2) := HB3.out.trans hB4
    clear k3 hB4 HB3
    have k4 := where_any HB4.out.self hz hl hG4
    go_wp2_with fail
    refine k4.mono ?_
    rintro q w5 ⟨rfl, hB5, hG5⟩
    have HB5 : Hid (Sb S b p c ws x w w5 (slW ws M s).1 (slW ws M s).2) := HB4.out.trans hB5
    clear k4 hB5 HB4
    have k5 := order_any HB5.out.self hz hl hG5
    go_wp2_with fail
    refine k5.mono ?_
    rintro q w6 ⟨rfl, hB6, hG6⟩
    have HB6 : Hid (Sb S b p c ws x w w6 (slD ws M s).1 (slD ws M s).2) := HB5.out.trans hB6
    clear k5 hB6 HB5
    have k6 := tookKey_no HB6.out.ps hz [76, 73, 77, 73, 84] hyf
    go_wp2_with fail
    refine k6.mono ?_
    rintro q w7 ⟨rfl, hP7, hO7⟩
    have HB7 : Hid (Sb S b p c ws x w w7 (slD ws M s).1 (slD ws M s).2) := HB6.out.calls hO7 hP7
    clear k6 hP7 hO7 HB6
    go_wp2
    go_end0
    exact ⟨rfl, HB7.out, hG6⟩

/- A statement. -/
def stmF (ws : List Wd) (s : PS) : Sm × PS :=
  if isP (wAt ws s.at') 2 [67, 82, 69, 65, 84, 69] then creF ws Sm.new (takeP s)
  else if isP (wAt ws s.at') 2 [73, 78, 83, 69, 82, 84] then insF ws Sm.new (takeP s)
  else if isP (wAt ws s.at') 2 [85, 80, 68, 65, 84, 69] then updF ws Sm.new (takeP s)
  else if isP (wAt ws s.at') 2 [68, 69, 76, 69, 84, 69] then delF ws Sm.new (takeP s)
  else if isP (wAt ws s.at') 2 [83, 69, 76, 69, 67, 84] then selF ws Sm.new (takeP s)
  else (Sm.new, failP ws s 120)
theorem Sx.ones {w : World} {S : Nat → Prop} {R : SR} {M : Sm} (h : Sx w S R M) : (stA R).all (·.oneCell') = true := by
  obtain ⟨p1, c1, e1, _⟩ := h.nm
  obtain ⟨p2, c2, K, d, e2, _⟩ := h.ex
  obtain ⟨p3, c3, e3, _⟩ := h.cl
  simp [stA, e1, e2, e3, Value.oneCell']
/- What statement answers. -/
def GivesS (ws : List Wd) (w : World) (b : Nat) (p : Option Addr) (c : Nat) (X : Sm × PS) (r : Ending) (w' : World) : Prop :=
  ∃ R, r = .returned (.agg (stA R)) ∧ Sx w' (fun k => w.heap.size ≤ k) R X.1 ∧ Ps w' b p c ws X.2 ∧ Onl b w w' ∧ Gd ws X.2
set_option maxRecDepth 100000 in
set_option maxHeartbeats 8000000 in
theorem statement_create {w : World} {b : Nat} {p : Option Addr} {c : Nat} {ws : List Wd} {s : PS} (H : Ps w b p c ws s) (hz : Wz ws) (hl : Wl ws) (g : Gd ws s) (_ha : Wa ws) (he : Ev w) (_hb2 : 2 < b)  (hy : isP (wAt ws s.at') 2 [67, 82, 69, 65, 84, 69] = true) :
    Calls Tryz.prog 54 #[.pointer (some ⟨b, 0, none⟩)] w (GivesS ws w b p c (creF ws Sm.new (takeP s))) := by
  have hold := H.old
  have lb := lt_of_row H.row
  have hlt := H.lt
  obtain ⟨w0, hw0⟩ : ∃ w0, put ((w.alloc (.cells #[.int .i64 0, .string ⟨#[]⟩, .string ⟨#[]⟩, .int .i64 0, .string ⟨#[]⟩, .int .i64 0, .bool false, .int .i64 0, .string ⟨#[]⟩, .slice none 0 0, .slice none 0 0, .slice none 0 0, .slice none 0 0, .slice none 0 0, .slice none 0 0, .int .i64 0, .string ⟨#[]⟩, .int .i64 0, .bool false, .int .i64 0, .string ⟨#[]⟩, .slice none 0 0, .slice none 0 0, .slice none 0 0, .slice none 0 0, .slice none 0 0, .bool false, .bool false, .string ⟨#[]⟩, .bool false, .int .i64 (0)] 62)).alloc (.cells #[.int .i64 0, .string ⟨#[]⟩, .string ⟨#[]⟩, .int .i64 0, .string ⟨#[]⟩, .int .i64 0, .bool false, .int .i64 0, .string ⟨#[]⟩, .slice none 0 0, .slice none 0 0, .slice none 0 0, .slice none 0 0, .slice none 0 0, .slice none 0 0, .int .i64 0, .string ⟨#[]⟩, .int .i64 0, .bool false, .int .i64 0, .string ⟨#[]⟩, .slice none 0 0, .slice none 0 0, .slice none 0 0, .slice none 0 0, .slice none 0 0, .bool false, .bool false, .string ⟨#[]⟩, .bool false, .int .i64 (0)] 62)) (w.heap.size + 1) #[.int .i64 0, .string ⟨#[]⟩, .string ⟨#[]⟩, .int .i64 0, .string ⟨#[]⟩, .int .i64 0, .bool false, .int .i64 0, .string ⟨#[]⟩, .slice none 0 0, .slice none 0 0, .slice none 0 0, .slice none 0 0, .slice none 0 0, .slice none 0 0, .int .i64 0, .string ⟨#[]⟩, .int .i64 0, .bool false, .int .i64 0, .string ⟨#[]⟩, .slice none 0 0, .slice none 0 0, .slice none 0 0, .slice none 0 0, .slice none 0 0, .bool false, .bool false, .string ⟨#[]⟩, .bool false, .int .i64 (-1)] = w0 := ⟨_, rfl⟩
  have ra : ((w.alloc (.cells #[.int .i64 0, .string ⟨#[]⟩, .string ⟨#[]⟩, .int .i64 0, .string ⟨#[]⟩, .int .i64 0, .bool false, .int .i64 0, .string ⟨#[]⟩, .slice none 0 0, .slice none 0 0, .slice none 0 0, .slice none 0 0, .slice none 0 0, .slice none 0 0, .int .i64 0, .string ⟨#[]⟩, .int .i64 0, .bool false, .int .i64 0, .string ⟨#[]⟩, .slice none 0 0, .slice none 0 0, .slice none 0 0, .slice none 0 0, .slice none 0 0, .bool false, .bool false, .string ⟨#[]⟩, .bool false, .int .i64 (0)] 62)).alloc (.cells #[.int .i64 0, .string ⟨#[]⟩, .string ⟨#[]⟩, .int .i64 0, .string ⟨#[]⟩, .int .i64 0, .bool false, .int .i64 0, .string ⟨#[]⟩, .slice none 0 0, .slice none 0 0, .slice none 0 0, .slice none 0 0, .slice none 0 0, .slice none 0 0, .int .i64 0, .string ⟨#[]⟩, .int .i64 0, .bool false, .int .i64 0, .string ⟨#[]⟩, .slice none 0 0, .slice none 0 0, .slice none 0 0, .slice none 0 0, .slice none 0 0, .bool false, .bool false, .string ⟨#[]⟩, .bool false, .int .i64 (0)] 62)).heap[w.heap.size + 1]? = some (.cells #[.int .i64 0, .string ⟨#[]⟩, .string ⟨#[]⟩, .int .i64 0, .string ⟨#[]⟩, .int .i64 0, .bool false, .int .i64 0, .string ⟨#[]⟩, .slice none 0 0, .slice none 0 0, .slice none 0 0, .slice none 0 0, .slice none 0 0, .slice none 0 0, .int .i64 0, .string ⟨#[]⟩, .int .i64 0, .bool false, .int .i64 0, .string ⟨#[]⟩, .slice none 0 0, .slice none 0 0, .slice none 0 0, .slice none 0 0, .slice none 0 0, .bool false, .bool false, .string ⟨#[]⟩, .bool false, .int .i64 (0)] 62 (0, 0)) := two_new _ _ _
  have hb0 : Below w.heap.size w w0 := by rw [← hw0]; exact put_below (((Below.refl _ w).alloc (Nat.le_refl _) _).alloc (by simp) _) _ (Nat.le_succ _) _
  have hs0 : w0.heap.size = w.heap.size + 1 + 1 := by rw [← hw0, put_size]; simp
  have rx0 : w0.heap[w.heap.size + 1]? = some (.cells (stA (⟨0, ⟨#[]⟩, ⟨#[]⟩, ⟨0, ⟨#[]⟩, 0, false, 0, ⟨#[]⟩, none, 0, 0, none, 0, 0⟩, .slice none 0 0, .slice none 0 0, ⟨0, ⟨#[]⟩, 0, false, 0, ⟨#[]⟩, none, 0, 0, none, 0, 0⟩, .slice none 0 0, false, false, ⟨#[]⟩, false, -1⟩ : SR)) 62 (0, 0)) := by rw [← hw0]; exact put_row _ ra rfl
  have rz0 : w0.heap[w.heap.size]? = some (.cells #[.int .i64 0, .string ⟨#[]⟩, .string ⟨#[]⟩, .int .i64 0, .string ⟨#[]⟩, .int .i64 0, .bool false, .int .i64 0, .string ⟨#[]⟩, .slice none 0 0, .slice none 0 0, .slice none 0 0, .slice none 0 0, .slice none 0 0, .slice none 0 0, .int .i64 0, .string ⟨#[]⟩, .int .i64 0, .bool false, .int .i64 0, .string ⟨#[]⟩, .slice none 0 0, .slice none 0 0, .slice none 0 0, .slice none 0 0, .slice none 0 0, .bool false, .bool false, .string ⟨#[]⟩, .bool false, .int .i64 (0)] 62 (0, 0)) := by rw [← hw0, put_other (by omega), Below.heap_alloc _ _ _ (by simp)]; exact heap_alloc_new _ _
  obtain ⟨S, hS⟩ : ∃ S : Nat → Prop, S = fun k => w.heap.size + 1 + 1 ≤ k := ⟨_, rfl⟩
  have B0 : Sb S b p c ws (w.heap.size + 1) w0 w0 Sm.new s := by
    refine ⟨⟨_, rx0, zero_sx w0 S (-1)⟩, H.later hb0, rfl, rfl, rfl, Nat.le_refl _, fun _ _ _ _ => rfl, ⟨by omega, by omega⟩, fun g hg => by have := hold g hg; omega, ?_, ?_⟩
    · rw [hS]; constructor <;> omega
    · rw [hS]; intro k hk; omega
  have HB0 : Hid (Sb S b p c ws (w.heap.size + 1) w0 w0 Sm.new s ∧ Below w.heap.size w w0 ∧ ((w.alloc (.cells #[.int .i64 0, .string ⟨#[]⟩, .string ⟨#[]⟩, .int .i64 0, .string ⟨#[]⟩, .int .i64 0, .bool false, .int .i64 0, .string ⟨#[]⟩, .slice none 0 0, .slice none 0 0, .slice none 0 0, .slice none 0 0, .slice none 0 0, .slice none 0 0, .int .i64 0, .string ⟨#[]⟩, .int .i64 0, .bool false, .int .i64 0, .string ⟨#[]⟩, .slice none 0 0, .slice none 0 0, .slice none 0 0, .slice none 0 0, .slice none 0 0, .bool false, .bool false, .string ⟨#[]⟩, .bool false, .int .i64 (0)] 62)).alloc (.cells #[.int .i64 0, .string ⟨#[]⟩, .string ⟨#[]⟩, .int .i64 0, .string ⟨#[]⟩, .int .i64 0, .bool false, .int .i64 0, .string ⟨#[]⟩, .slice none 0 0, .slice none 0 0, .slice none 0 0, .slice none 0 0, .slice none 0 0, .slice none 0 0, .int .i64 0, .string ⟨#[]⟩, .int .i64 0, .bool false, .int .i64 0, .string ⟨#[]⟩, .slice none 0 0, .slice none 0 0, .slice none 0 0, .slice none 0 0, .slice none 0 0, .bool false, .bool false, .string ⟨#[]⟩, .bool false, .int .i64 (0)] 62)).heap[w.heap.size + 1]? = some (.cells #[.int .i64 0, .string ⟨#[]⟩, .string ⟨#[]⟩, .int .i64 0, .string ⟨#[]⟩, .int .i64 0, .bool false, .int .i64 0, .string ⟨#[]⟩, .slice none 0 0, .slice none 0 0, .slice none 0 0, .slice none 0 0, .slice none 0 0, .slice none 0 0, .int .i64 0, .string ⟨#[]⟩, .int .i64 0, .bool false, .int .i64 0, .string ⟨#[]⟩, .slice none 0 0, .slice none 0 0, .slice none 0 0, .slice none 0 0, .slice none 0 0, .bool false, .bool false, .string ⟨#[]⟩, .bool false, .int .i64 (0)] 62 (0, 0)) ∧ w0.heap[w.heap.size]? = some (.cells #[.int .i64 0, .string ⟨#[]⟩, .string ⟨#[]⟩, .int .i64 0, .string ⟨#[]⟩, .int .i64 0, .bool false, .int .i64 0, .string ⟨#[]⟩, .slice none 0 0, .slice none 0 0, .slice none 0 0, .slice none 0 0, .slice none 0 0, .slice none 0 0, .int .i64 0, .string ⟨#[]⟩, .int .i64 0, .bool false, .int .i64 0, .string ⟨#[]⟩, .slice none 0 0, .slice none 0 0, .slice none 0 0, .slice none 0 0, .slice none 0 0, .bool false, .bool false, .string ⟨#[]⟩, .bool false, .int .i64 (0)] 62 (0, 0)) ∧ S = (fun k => w.heap.size + 1 + 1 ≤ k)) := ⟨B0, hb0, ra, rz0, hS⟩
  have HE : Hid (Ev w0) := he.later hb0
  have HC : Hid (Sb S b p c ws (w.heap.size + 1) w0 w0 Sm.new s) := B0
  have g1 := g.take hz hlt hy (by decide)
  clear H ra hb0 rx0 rz0 B0 he hS
  go_enter Tryz.func54, Tryz.ntmps54
  have k0 := tookKey_yes HC.out.ps hz [67, 82, 69, 65, 84, 69] hy
  go_wp2_with (first | (refine wpList_put rfl 62 (.tmp 3) (.tmp 4) rfl rfl rfl rfl HB0.out.2.2.1 rfl info30 (by simp [Value.oneCell']) ?_; rw [hw0]) | fail)
  refine k0.mono ?_
  rintro q w1 ⟨rfl, hP1, hO1⟩
  have HC1 : Hid (Sb S b p c ws (w.heap.size + 1) w0 w1 Sm.new (takeP s)) := HC.out.calls hO1 hP1
  clear k0 hP1 hO1 HC
  have k1 := creation_any HC1.out.self hz hl g1
  go_wp2_with fail
  refine k1.mono ?_
  rintro q w2 ⟨rfl, hB2, hG2⟩
  have D := HC1.out.trans hB2
  clear k1 hB2 HC1
  obtain ⟨R, hr, hx⟩ := D.row
  have hzr := (D.block w.heap.size (by omega) (by omega) (by omega)).trans HB0.out.2.2.2.1
  have hsz := D.size
  have HD : Hid (w2.heap[w.heap.size + 1]? = some (.cells (stA R) 62 (0, 0)) ∧ w2.heap[w.heap.size]? = some (.cells #[.int .i64 0, .string ⟨#[]⟩, .string ⟨#[]⟩, .int .i64 0, .string ⟨#[]⟩, .int .i64 0, .bool false, .int .i64 0, .string ⟨#[]⟩, .slice none 0 0, .slice none 0 0, .slice none 0 0, .slice none 0 0, .slice none 0 0, .slice none 0 0, .int .i64 0, .string ⟨#[]⟩, .int .i64 0, .bool false, .int .i64 0, .string ⟨#[]⟩, .slice none 0 0, .slice none 0 0, .slice none 0 0, .slice none 0 0, .slice none 0 0, .bool false, .bool false, .string ⟨#[]⟩, .bool false, .int .i64 (0)] 62 (0, 0)) ∧ (stA R).all (·.oneCell') = true ∧ Sx w2 S R (creF ws Sm.new (takeP s)).1 ∧ Sb S b p c ws (w.heap.size + 1) w0 w2 (creF ws Sm.new (takeP s)).1 (creF ws Sm.new (takeP s)).2) := ⟨hr, hzr, hx.ones, hx, D⟩
  obtain ⟨A, hA⟩ : ∃ A, stA R = A := ⟨_, rfl⟩
  have HA : Hid (stA R = A) := hA
  have h31 : Hid (A.size = 31) := by
    have h : A.size = 31 := by rw [← hA]; rfl
    exact h
  rw [hA] at HD
  clear D hr hx hzr hw0 hA
  go_wp2_with (first | (refine wpList_get rfl 62 (.tmp 3) rfl rfl HD.out.1 Tryz.underlying62 rfl (info30.trans (congrArg some h31.out.symm)) ?_; simp only [Act.put, List.setIfInBounds_toArray, List.set_cons_zero, List.set_cons_succ]) | (refine wpList_put rfl 62 (.tmp 2) (.tmp 32) rfl rfl rfl rfl HD.out.2.1 h31.out (info30.trans (congrArg some h31.out.symm)) HD.out.2.2.1 ?_) | fail)
  obtain ⟨hr, hzr, hon, hx, D⟩ := HD.out
  refine bodyPost_ret (results_cell_row Tryz.results54 _ _ w.heap.size 62 _ (0, 0) _ rfl (put_row A hzr h31.out) Tryz.underlying62 rfl (info30.trans (congrArg some h31.out.symm))) rfl ⟨R, by rw [HA.out], ?_, D.ps.put lb hold A, ?_, hG2⟩
  · rw [HB0.out.2.2.2.2] at hx
    exact (hx.since (Since.put (by omega) _ _)).imp fun k hk _ => by omega
  · have hO : Onl b w w2 := by
      have hb0 := HB0.out.2.1
      exact ⟨D.os.trans hb0.os, D.tape.trans hb0.tape, D.output.trans hb0.output, by omega, fun k hk kb => (D.block k (by omega) kb (by omega)).trans (hb0.block k hk)⟩
    exact hO.put _ (Nat.le_refl _) A
set_option maxRecDepth 100000 in
set_option maxHeartbeats 8000000 in
theorem statement_insert {w : World} {b : Nat} {p : Option Addr} {c : Nat} {ws : List Wd} {s : PS} (H : Ps w b p c ws s) (hz : Wz ws) (hl : Wl ws) (g : Gd ws s) (_ha : Wa ws) (he : Ev w) (_hb2 : 2 < b) (n0 : isP (wAt ws s.at') 2 [67, 82, 69, 65, 84, 69] = false) (hy : isP (wAt ws s.at') 2 [73, 78, 83, 69, 82, 84] = true) :
    Calls Tryz.prog 54 #[.pointer (some ⟨b, 0, none⟩)] w (GivesS ws w b p c (insF ws Sm.new (takeP s))) := by
  have hold := H.old
  have lb := lt_of_row H.row
  have hlt := H.lt
  obtain ⟨w0, hw0⟩ : ∃ w0, put ((w.alloc (.cells #[.int .i64 0, .string ⟨#[]⟩, .string ⟨#[]⟩, .int .i64 0, .string ⟨#[]⟩, .int .i64 0, .bool false, .int .i64 0, .string ⟨#[]⟩, .slice none 0 0, .slice none 0 0, .slice none 0 0, .slice none 0 0, .slice none 0 0, .slice none 0 0, .int .i64 0, .string ⟨#[]⟩, .int .i64 0, .bool false, .int .i64 0, .string ⟨#[]⟩, .slice none 0 0, .slice none 0 0, .slice none 0 0, .slice none 0 0, .slice none 0 0, .bool false, .bool false, .string ⟨#[]⟩, .bool false, .int .i64 (0)] 62)).alloc (.cells #[.int .i64 0, .string ⟨#[]⟩, .string ⟨#[]⟩, .int .i64 0, .string ⟨#[]⟩, .int .i64 0, .bool false, .int .i64 0, .string ⟨#[]⟩, .slice none 0 0, .slice none 0 0, .slice none 0 0, .slice none 0 0, .slice none 0 0, .slice none 0 0, .int .i64 0, .string ⟨#[]⟩, .int .i64 0, .bool false, .int .i64 0, .string ⟨#[]⟩, .slice none 0 0, .slice none 0 0, .slice none 0 0, .slice none 0 0, .slice none 0 0, .bool false, .bool false, .string ⟨#[]⟩, .bool false, .int .i64 (0)] 62)) (w.heap.size + 1) #[.int .i64 0, .string ⟨#[]⟩, .string ⟨#[]⟩, .int .i64 0, .string ⟨#[]⟩, .int .i64 0, .bool false, .int .i64 0, .string ⟨#[]⟩, .slice none 0 0, .slice none 0 0, .slice none 0 0, .slice none 0 0, .slice none 0 0, .slice none 0 0, .int .i64 0, .string ⟨#[]⟩, .int .i64 0, .bool false, .int .i64 0, .string ⟨#[]⟩, .slice none 0 0, .slice none 0 0, .slice none 0 0, .slice none 0 0, .slice none 0 0, .bool false, .bool false, .string ⟨#[]⟩, .bool false, .int .i64 (-1)] = w0 := ⟨_, rfl⟩
  have ra : ((w.alloc (.cells #[.int .i64 0, .string ⟨#[]⟩, .string ⟨#[]⟩, .int .i64 0, .string ⟨#[]⟩, .int .i64 0, .bool false, .int .i64 0, .string ⟨#[]⟩, .slice none 0 0, .slice none 0 0, .slice none 0 0, .slice none 0 0, .slice none 0 0, .slice none 0 0, .int .i64 0, .string ⟨#[]⟩, .int .i64 0, .bool false, .int .i64 0, .string ⟨#[]⟩, .slice none 0 0, .slice none 0 0, .slice none 0 0, .slice none 0 0, .slice none 0 0, .bool false, .bool false, .string ⟨#[]⟩, .bool false, .int .i64 (0)] 62)).alloc (.cells #[.int .i64 0, .string ⟨#[]⟩, .string ⟨#[]⟩, .int .i64 0, .string ⟨#[]⟩, .int .i64 0, .bool false, .int .i64 0, .string ⟨#[]⟩, .slice none 0 0, .slice none 0 0, .slice none 0 0, .slice none 0 0, .slice none 0 0, .slice none 0 0, .int .i64 0, .string ⟨#[]⟩, .int .i64 0, .bool false, .int .i64 0, .string ⟨#[]⟩, .slice none 0 0, .slice none 0 0, .slice none 0 0, .slice none 0 0, .slice none 0 0, .bool false, .bool false, .string ⟨#[]⟩, .bool false, .int .i64 (0)] 62)).heap[w.heap.size + 1]? = some (.cells #[.int .i64 0, .string ⟨#[]⟩, .string ⟨#[]⟩, .int .i64 0, .string ⟨#[]⟩, .int .i64 0, .bool false, .int .i64 0, .string ⟨#[]⟩, .slice none 0 0, .slice none 0 0, .slice none 0 0, .slice none 0 0, .slice none 0 0, .slice none 0 0, .int .i64 0, .string ⟨#[]⟩, .int .i64 0, .bool false, .int .i64 0, .string ⟨#[]⟩, .slice none 0 0, .slice none 0 0, .slice none 0 0, .slice none 0 0, .slice none 0 0, .bool false, .bool false, .string ⟨#[]⟩, .bool false, .int .i64 (0)] 62 (0, 0)) := two_new _ _ _
  have hb0 : Below w.heap.size w w0 := by rw [← hw0]; exact put_below (((Below.refl _ w).alloc (Nat.le_refl _) _).alloc (by simp) _) _ (Nat.le_succ _) _
  have hs0 : w0.heap.size = w.heap.size + 1 + 1 := by rw [← hw0, put_size]; simp
  have rx0 : w0.heap[w.heap.size + 1]? = some (.cells (stA (⟨0, ⟨#[]⟩, ⟨#[]⟩, ⟨0, ⟨#[]⟩, 0, false, 0, ⟨#[]⟩, none, 0, 0, none, 0, 0⟩, .slice none 0 0, .slice none 0 0, ⟨0, ⟨#[]⟩, 0, false, 0, ⟨#[]⟩, none, 0, 0, none, 0, 0⟩, .slice none 0 0, false, false, ⟨#[]⟩, false, -1⟩ : SR)) 62 (0, 0)) := by rw [← hw0]; exact put_row _ ra rfl
  have rz0 : w0.heap[w.heap.size]? = some (.cells #[.int .i64 0, .string ⟨#[]⟩, .string ⟨#[]⟩, .int .i64 0, .string ⟨#[]⟩, .int .i64 0, .bool false, .int .i64 0, .string ⟨#[]⟩, .slice none 0 0, .slice none 0 0, .slice none 0 0, .slice none 0 0, .slice none 0 0, .slice none 0 0, .int .i64 0, .string ⟨#[]⟩, .int .i64 0, .bool false, .int .i64 0, .string ⟨#[]⟩, .slice none 0 0, .slice none 0 0, .slice none 0 0, .slice none 0 0, .slice none 0 0, .bool false, .bool false, .string ⟨#[]⟩, .bool false, .int .i64 (0)] 62 (0, 0)) := by rw [← hw0, put_other (by omega), Below.heap_alloc _ _ _ (by simp)]; exact heap_alloc_new _ _
  obtain ⟨S, hS⟩ : ∃ S : Nat → Prop, S = fun k => w.heap.size + 1 + 1 ≤ k := ⟨_, rfl⟩
  have B0 : Sb S b p c ws (w.heap.size + 1) w0 w0 Sm.new s := by
    refine ⟨⟨_, rx0, zero_sx w0 S (-1)⟩, H.later hb0, rfl, rfl, rfl, Nat.le_refl _, fun _ _ _ _ => rfl, ⟨by omega, by omega⟩, fun g hg => by have := hold g hg; omega, ?_, ?_⟩
    · rw [hS]; constructor <;> omega
    · rw [hS]; intro k hk; omega
  have HB0 : Hid (Sb S b p c ws (w.heap.size + 1) w0 w0 Sm.new s ∧ Below w.heap.size w w0 ∧ ((w.alloc (.cells #[.int .i64 0, .string ⟨#[]⟩, .string ⟨#[]⟩, .int .i64 0, .string ⟨#[]⟩, .int .i64 0, .bool false, .int .i64 0, .string ⟨#[]⟩, .slice none 0 0, .slice none 0 0, .slice none 0 0, .slice none 0 0, .slice none 0 0, .slice none 0 0, .int .i64 0, .string ⟨#[]⟩, .int .i64 0, .bool false, .int .i64 0, .string ⟨#[]⟩, .slice none 0 0, .slice none 0 0, .slice none 0 0, .slice none 0 0, .slice none 0 0, .bool false, .bool false, .string ⟨#[]⟩, .bool false, .int .i64 (0)] 62)).alloc (.cells #[.int .i64 0, .string ⟨#[]⟩, .string ⟨#[]⟩, .int .i64 0, .string ⟨#[]⟩, .int .i64 0, .bool false, .int .i64 0, .string ⟨#[]⟩, .slice none 0 0, .slice none 0 0, .slice none 0 0, .slice none 0 0, .slice none 0 0, .slice none 0 0, .int .i64 0, .string ⟨#[]⟩, .int .i64 0, .bool false, .int .i64 0, .string ⟨#[]⟩, .slice none 0 0, .slice none 0 0, .slice none 0 0, .slice none 0 0, .slice none 0 0, .bool false, .bool false, .string ⟨#[]⟩, .bool false, .int .i64 (0)] 62)).heap[w.heap.size + 1]? = some (.cells #[.int .i64 0, .string ⟨#[]⟩, .string ⟨#[]⟩, .int .i64 0, .string ⟨#[]⟩, .int .i64 0, .bool false, .int .i64 0, .string ⟨#[]⟩, .slice none 0 0, .slice none 0 0, .slice none 0 0, .slice none 0 0, .slice none 0 0, .slice none 0 0, .int .i64 0, .string ⟨#[]⟩, .int .i64 0, .bool false, .int .i64 0, .string ⟨#[]⟩, .slice none 0 0, .slice none 0 0, .slice none 0 0, .slice none 0 0, .slice none 0 0, .bool false, .bool false, .string ⟨#[]⟩, .bool false, .int .i64 (0)] 62 (0, 0)) ∧ w0.heap[w.heap.size]? = some (.cells #[.int .i64 0, .string ⟨#[]⟩, .string ⟨#[]⟩, .int .i64 0, .string ⟨#[]⟩, .int .i64 0, .bool false, .int .i64 0, .string ⟨#[]⟩, .slice none 0 0, .slice none 0 0, .slice none 0 0, .slice none 0 0, .slice none 0 0, .slice none 0 0, .int .i64 0, .string ⟨#[]⟩, .int .i64 0, .bool false, .int .i64 0, .string ⟨#[]⟩, .slice none 0 0, .slice none 0 0, .slice none 0 0, .slice none 0 0, .slice none 0 0, .bool false, .bool false, .string ⟨#[]⟩, .bool false, .int .i64 (0)] 62 (0, 0)) ∧ S = (fun k => w.heap.size + 1 + 1 ≤ k)) := ⟨B0, hb0, ra, rz0, hS⟩
  have HE : Hid (Ev w0) := he.later hb0
  have HC : Hid (Sb S b p c ws (w.heap.size + 1) w0 w0 Sm.new s) := B0
  have g1 := g.take hz hlt hy (by decide)
  clear H ra hb0 rx0 rz0 B0 he hS
  go_enter Tryz.func54, Tryz.ntmps54
  have k0 := tookKey_no HC.out.ps hz [67, 82, 69, 65, 84, 69] n0
  go_wp2_with (first | (refine wpList_put rfl 62 (.tmp 3) (.tmp 4) rfl rfl rfl rfl HB0.out.2.2.1 rfl info30 (by simp [Value.oneCell']) ?_; rw [hw0]) | fail)
  refine k0.mono ?_
  rintro q w1 ⟨rfl, hP1, hO1⟩
  have HC1 : Hid (Sb S b p c ws (w.heap.size + 1) w0 w1 Sm.new s) := HC.out.calls hO1 hP1
  clear k0 hP1 hO1 HC
  have k1 := tookKey_yes HC1.out.ps hz [73, 78, 83, 69, 82, 84] hy
  go_wp2_with fail
  refine k1.mono ?_
  rintro q w2 ⟨rfl, hP2, hO2⟩
  have HC2 : Hid (Sb S b p c ws (w.heap.size + 1) w0 w2 Sm.new (takeP s)) := HC1.out.calls hO2 hP2
  clear k1 hP2 hO2 HC1
  have k2 := insertion_any HC2.out.self hz hl g1
  go_wp2_with fail
  refine k2.mono ?_
  rintro q w3 ⟨rfl, hB3, hG3⟩
  have D := HC2.out.trans hB3
  clear k2 hB3 HC2
  obtain ⟨R, hr, hx⟩ := D.row
  have hzr := (D.block w.heap.size (by omega) (by omega) (by omega)).trans HB0.out.2.2.2.1
  have hsz := D.size
  have HD : Hid (w3.heap[w.heap.size + 1]? = some (.cells (stA R) 62 (0, 0)) ∧ w3.heap[w.heap.size]? = some (.cells #[.int .i64 0, .string ⟨#[]⟩, .string ⟨#[]⟩, .int .i64 0, .string ⟨#[]⟩, .int .i64 0, .bool false, .int .i64 0, .string ⟨#[]⟩, .slice none 0 0, .slice none 0 0, .slice none 0 0, .slice none 0 0, .slice none 0 0, .slice none 0 0, .int .i64 0, .string ⟨#[]⟩, .int .i64 0, .bool false, .int .i64 0, .string ⟨#[]⟩, .slice none 0 0, .slice none 0 0, .slice none 0 0, .slice none 0 0, .slice none 0 0, .bool false, .bool false, .string ⟨#[]⟩, .bool false, .int .i64 (0)] 62 (0, 0)) ∧ (stA R).all (·.oneCell') = true ∧ Sx w3 S R (insF ws Sm.new (takeP s)).1 ∧ Sb S b p c ws (w.heap.size + 1) w0 w3 (insF ws Sm.new (takeP s)).1 (insF ws Sm.new (takeP s)).2) := ⟨hr, hzr, hx.ones, hx, D⟩
  obtain ⟨A, hA⟩ : ∃ A, stA R = A := ⟨_, rfl⟩
  have HA : Hid (stA R = A) := hA
  have h31 : Hid (A.size = 31) := by
    have h : A.size = 31 := by rw [← hA]; rfl
    exact h
  rw [hA] at HD
  clear D hr hx hzr hw0 hA
  go_wp2_with (first | (refine wpList_get rfl 62 (.tmp 3) rfl rfl HD.out.1 Tryz.underlying62 rfl (info30.trans (congrArg some h31.out.symm)) ?_; simp only [Act.put, List.setIfInBounds_toArray, List.set_cons_zero, List.set_cons_succ]) | (refine wpList_put rfl 62 (.tmp 2) (.tmp 32) rfl rfl rfl rfl HD.out.2.1 h31.out (info30.trans (congrArg some h31.out.symm)) HD.out.2.2.1 ?_) | fail)
  obtain ⟨hr, hzr, hon, hx, D⟩ := HD.out
  refine bodyPost_ret (results_cell_row Tryz.results54 _ _ w.heap.size 62 _ (0, 0) _ rfl (put_row A hzr h31.out) Tryz.underlying62 rfl (info30.trans (congrArg some h31.out.symm))) rfl ⟨R, by rw [HA.out], ?_, D.ps.put lb hold A, ?_, hG3⟩
  · rw [HB0.out.2.2.2.2] at hx
    exact (hx.since (Since.put (by omega) _ _)).imp fun k hk _ => by omega
  · have hO : Onl b w w3 := by
      have hb0 := HB0.out.2.1
      exact ⟨D.os.trans hb0.os, D.tape.trans hb0.tape, D.output.trans hb0.output, by omega, fun k hk kb => (D.block k (by omega) kb (by omega)).trans (hb0.block k hk)⟩
    exact hO.put _ (Nat.le_refl _) A
set_option maxRecDepth 100000 in
set_option maxHeartbeats 8000000 in
theorem statement_update {w : World} {b : Nat} {p : Option Addr} {c : Nat} {ws : List Wd} {s : PS} (H : Ps w b p c ws s) (hz : Wz ws) (hl : Wl ws) (g : Gd ws s) (_ha : Wa ws) (he : Ev w) (_hb2 : 2 < b) (n0 : isP (wAt ws s.at') 2 [67, 82, 69, 65, 84, 69] = false) (n1 : isP (wAt ws s.at') 2 [73, 78, 83, 69, 82, 84] = false) (hy : isP (wAt ws s.at') 2 [85, 80, 68, 65, 84, 69] = true) :
    Calls Tryz.prog 54 #[.pointer (some ⟨b, 0, none⟩)] w (GivesS ws w b p c (updF ws Sm.new (takeP s))) := by
  have hold := H.old
  have lb := lt_of_row H.row
  have hlt := H.lt
  obtain ⟨w0, hw0⟩ : ∃ w0, put ((w.alloc (.cells #[.int .i64 0, .string ⟨#[]⟩, .string ⟨#[]⟩, .int .i64 0, .string ⟨#[]⟩, .int .i64 0, .bool false, .int .i64 0, .string ⟨#[]⟩, .slice none 0 0, .slice none 0 0, .slice none 0 0, .slice none 0 0, .slice none 0 0, .slice none 0 0, .int .i64 0, .string ⟨#[]⟩, .int .i64 0, .bool false, .int .i64 0, .string ⟨#[]⟩, .slice none 0 0, .slice none 0 0, .slice none 0 0, .slice none 0 0, .slice none 0 0, .bool false, .bool false, .string ⟨#[]⟩, .bool false, .int .i64 (0)] 62)).alloc (.cells #[.int .i64 0, .string ⟨#[]⟩, .string ⟨#[]⟩, .int .i64 0, .string ⟨#[]⟩, .int .i64 0, .bool false, .int .i64 0, .string ⟨#[]⟩, .slice none 0 0, .slice none 0 0, .slice none 0 0, .slice none 0 0, .slice none 0 0, .slice none 0 0, .int .i64 0, .string ⟨#[]⟩, .int .i64 0, .bool false, .int .i64 0, .string ⟨#[]⟩, .slice none 0 0, .slice none 0 0, .slice none 0 0, .slice none 0 0, .slice none 0 0, .bool false, .bool false, .string ⟨#[]⟩, .bool false, .int .i64 (0)] 62)) (w.heap.size + 1) #[.int .i64 0, .string ⟨#[]⟩, .string ⟨#[]⟩, .int .i64 0, .string ⟨#[]⟩, .int .i64 0, .bool false, .int .i64 0, .string ⟨#[]⟩, .slice none 0 0, .slice none 0 0, .slice none 0 0, .slice none 0 0, .slice none 0 0, .slice none 0 0, .int .i64 0, .string ⟨#[]⟩, .int .i64 0, .bool false, .int .i64 0, .string ⟨#[]⟩, .slice none 0 0, .slice none 0 0, .slice none 0 0, .slice none 0 0, .slice none 0 0, .bool false, .bool false, .string ⟨#[]⟩, .bool false, .int .i64 (-1)] = w0 := ⟨_, rfl⟩
  have ra : ((w.alloc (.cells #[.int .i64 0, .string ⟨#[]⟩, .string ⟨#[]⟩, .int .i64 0, .string ⟨#[]⟩, .int .i64 0, .bool false, .int .i64 0, .string ⟨#[]⟩, .slice none 0 0, .slice none 0 0, .slice none 0 0, .slice none 0 0, .slice none 0 0, .slice none 0 0, .int .i64 0, .string ⟨#[]⟩, .int .i64 0, .bool false, .int .i64 0, .string ⟨#[]⟩, .slice none 0 0, .slice none 0 0, .slice none 0 0, .slice none 0 0, .slice none 0 0, .bool false, .bool false, .string ⟨#[]⟩, .bool false, .int .i64 (0)] 62)).alloc (.cells #[.int .i64 0, .string ⟨#[]⟩, .string ⟨#[]⟩, .int .i64 0, .string ⟨#[]⟩, .int .i64 0, .bool false, .int .i64 0, .string ⟨#[]⟩, .slice none 0 0, .slice none 0 0, .slice none 0 0, .slice none 0 0, .slice none 0 0, .slice none 0 0, .int .i64 0, .string ⟨#[]⟩, .int .i64 0, .bool false, .int .i64 0, .string ⟨#[]⟩, .slice none 0 0, .slice none 0 0, .slice none 0 0, .slice none 0 0, .slice none 0 0, .bool false, .bool false, .string ⟨#[]⟩, .bool false, .int .i64 (0)] 62)).heap[w.heap.size + 1]? = some (.cells #[.int .i64 0, .string ⟨#[]⟩, .string ⟨#[]⟩, .int .i64 0, .string ⟨#[]⟩, .int .i64 0, .bool false, .int .i64 0, .string ⟨#[]⟩, .slice none 0 0, .slice none 0 0, .slice none 0 0, .slice none 0 0, .slice none 0 0, .slice none 0 0, .int .i64 0, .string ⟨#[]⟩, .int .i64 0, .bool false, .int .i64 0, .string ⟨#[]⟩, .slice none 0 0, .slice none 0 0, .slice none 0 0, .slice none 0 0, .slice none 0 0, .bool false, .bool false, .string ⟨#[]⟩, .bool false, .int .i64 (0)] 62 (0, 0)) := two_new _ _ _
  have hb0 : Below w.heap.size w w0 := by rw [← hw0]; exact put_below (((Below.refl _ w).alloc (Nat.le_refl _) _).alloc (by simp) _) _ (Nat.le_succ _) _
  have hs0 : w0.heap.size = w.heap.size + 1 + 1 := by rw [← hw0, put_size]; simp
  have rx0 : w0.heap[w.heap.size + 1]? = some (.cells (stA (⟨0, ⟨#[]⟩, ⟨#[]⟩, ⟨0, ⟨#[]⟩, 0, false, 0, ⟨#[]⟩, none, 0, 0, none, 0, 0⟩, .slice none 0 0, .slice none 0 0, ⟨0, ⟨#[]⟩, 0, false, 0, ⟨#[]⟩, none, 0, 0, none, 0, 0⟩, .slice none 0 0, false, false, ⟨#[]⟩, false, -1⟩ : SR)) 62 (0, 0)) := by rw [← hw0]; exact put_row _ ra rfl
  have rz0 : w0.heap[w.heap.size]? = some (.cells #[.int .i64 0, .string ⟨#[]⟩, .string ⟨#[]⟩, .int .i64 0, .string ⟨#[]⟩, .int .i64 0, .bool false, .int .i64 0, .string ⟨#[]⟩, .slice none 0 0, .slice none 0 0, .slice none 0 0, .slice none 0 0, .slice none 0 0, .slice none 0 0, .int .i64 0, .string ⟨#[]⟩, .int .i64 0, .bool false, .int .i64 0, .string ⟨#[]⟩, .slice none 0 0, .slice none 0 0, .slice none 0 0, .slice none 0 0, .slice none 0 0, .bool false, .bool false, .string ⟨#[]⟩, .bool false, .int .i64 (0)] 62 (0, 0)) := by rw [← hw0, put_other (by omega), Below.heap_alloc _ _ _ (by simp)]; exact heap_alloc_new _ _
  obtain ⟨S, hS⟩ : ∃ S : Nat → Prop, S = fun k => w.heap.size + 1 + 1 ≤ k := ⟨_, rfl⟩
  have B0 : Sb S b p c ws (w.heap.size + 1) w0 w0 Sm.new s := by
    refine ⟨⟨_, rx0, zero_sx w0 S (-1)⟩, H.later hb0, rfl, rfl, rfl, Nat.le_refl _, fun _ _ _ _ => rfl, ⟨by omega, by omega⟩, fun g hg => by have := hold g hg; omega, ?_, ?_⟩
    · rw [hS]; constructor <;> omega
    · rw [hS]; intro k hk; omega
  have HB0 : Hid (Sb S b p c ws (w.heap.size + 1) w0 w0 Sm.new s ∧ Below w.heap.size w w0 ∧ ((w.alloc (.cells #[.int .i64 0, .string ⟨#[]⟩, .string ⟨#[]⟩, .int .i64 0, .string ⟨#[]⟩, .int .i64 0, .bool false, .int .i64 0, .string ⟨#[]⟩, .slice none 0 0, .slice none 0 0, .slice none 0 0, .slice none 0 0, .slice none 0 0, .slice none 0 0, .int .i64 0, .string ⟨#[]⟩, .int .i64 0, .bool false, .int .i64 0, .string ⟨#[]⟩, .slice none 0 0, .slice none 0 0, .slice none 0 0, .slice none 0 0, .slice none 0 0, .bool false, .bool false, .string ⟨#[]⟩, .bool false, .int .i64 (0)] 62)).alloc (.cells #[.int .i64 0, .string ⟨#[]⟩, .string ⟨#[]⟩, .int .i64 0, .string ⟨#[]⟩, .int .i64 0, .bool false, .int .i64 0, .string ⟨#[]⟩, .slice none 0 0, .slice none 0 0, .slice none 0 0, .slice none 0 0, .slice none 0 0, .slice none 0 0, .int .i64 0, .string ⟨#[]⟩, .int .i64 0, .bool false, .int .i64 0, .string ⟨#[]⟩, .slice none 0 0, .slice none 0 0, .slice none 0 0, .slice none 0 0, .slice none 0 0, .bool false, .bool false, .string ⟨#[]⟩, .bool false, .int .i64 (0)] 62)).heap[w.heap.size + 1]? = some (.cells #[.int .i64 0, .string ⟨#[]⟩, .string ⟨#[]⟩, .int .i64 0, .string ⟨#[]⟩, .int .i64 0, .bool false, .int .i64 0, .string ⟨#[]⟩, .slice none 0 0, .slice none 0 0, .slice none 0 0, .slice none 0 0, .slice none 0 0, .slice none 0 0, .int .i64 0, .string ⟨#[]⟩, .int .i64 0, .bool false, .int .i64 0, .string ⟨#[]⟩, .slice none 0 0, .slice none 0 0, .slice none 0 0, .slice none 0 0, .slice none 0 0, .bool false, .bool false, .string ⟨#[]⟩, .bool false, .int .i64 (0)] 62 (0, 0)) ∧ w0.heap[w.heap.size]? = some (.cells #[.int .i64 0, .string ⟨#[]⟩, .string ⟨#[]⟩, .int .i64 0, .string ⟨#[]⟩, .int .i64 0, .bool false, .int .i64 0, .string ⟨#[]⟩, .slice none 0 0, .slice none 0 0, .slice none 0 0, .slice none 0 0, .slice none 0 0, .slice none 0 0, .int .i64 0, .string ⟨#[]⟩, .int .i64 0, .bool false, .int .i64 0, .string ⟨#[]⟩, .slice none 0 0, .slice none 0 0, .slice none 0 0, .slice none 0 0, .slice none 0 0, .bool false, .bool false, .string ⟨#[]⟩, .bool false, .int .i64 (0)] 62 (0, 0)) ∧ S = (fun k => w.heap.size + 1 + 1 ≤ k)) := ⟨B0, hb0, ra, rz0, hS⟩
  have HE : Hid (Ev w0) := he.later hb0
  have HC : Hid (Sb S b p c ws (w.heap.size + 1) w0 w0 Sm.new s) := B0
  have g1 := g.take hz hlt hy (by decide)
  clear H ra hb0 rx0 rz0 B0 he hS
  go_enter Tryz.func54, Tryz.ntmps54
  have k0 := tookKey_no HC.out.ps hz [67, 82, 69, 65, 84, 69] n0
  go_wp2_with (first | (refine wpList_put rfl 62 (.tmp 3) (.tmp 4) rfl rfl rfl rfl HB0.out.2.2.1 rfl info30 (by simp [Value.oneCell']) ?_; rw [hw0]) | fail)
  refine k0.mono ?_
  rintro q w1 ⟨rfl, hP1, hO1⟩
  have HC1 : Hid (Sb S b p c ws (w.heap.size + 1) w0 w1 Sm.new s) := HC.out.calls hO1 hP1
  clear k0 hP1 hO1 HC
  have k1 := tookKey_no HC1.out.ps hz [73, 78, 83, 69, 82, 84] n1
  go_wp2_with fail
  refine k1.mono ?_
  rintro q w2 ⟨rfl, hP2, hO2⟩
  have HC2 : Hid (Sb S b p c ws (w.heap.size + 1) w0 w2 Sm.new s) := HC1.out.calls hO2 hP2
  clear k1 hP2 hO2 HC1
  have k2 := tookKey_yes HC2.out.ps hz [85, 80, 68, 65, 84, 69] hy
  go_wp2_with fail
  refine k2.mono ?_
  rintro q w3 ⟨rfl, hP3, hO3⟩
  have HC3 : Hid (Sb S b p c ws (w.heap.size + 1) w0 w3 Sm.new (takeP s)) := HC2.out.calls hO3 hP3
  clear k2 hP3 hO3 HC2
  have k3 := update_any HC3.out.self hz hl g1
  go_wp2_with fail
  refine k3.mono ?_
  rintro q w4 ⟨rfl, hB4, hG4⟩
  have D := HC3.out.trans hB4
  clear k3 hB4 HC3
  obtain ⟨R, hr, hx⟩ := D.row
  have hzr := (D.block w.heap.size (by omega) (by omega) (by omega)).trans HB0.out.2.2.2.1
  have hsz := D.size
  have HD : Hid (w4.heap[w.heap.size + 1]? = some (.cells (stA R) 62 (0, 0)) ∧ w4.heap[w.heap.size]? = some (.cells #[.int .i64 0, .string ⟨#[]⟩, .string ⟨#[]⟩, .int .i64 0, .string ⟨#[]⟩, .int .i64 0, .bool false, .int .i64 0, .string ⟨#[]⟩, .slice none 0 0, .slice none 0 0, .slice none 0 0, .slice none 0 0, .slice none 0 0, .slice none 0 0, .int .i64 0, .string ⟨#[]⟩, .int .i64 0, .bool false, .int .i64 0, .string ⟨#[]⟩, .slice none 0 0, .slice none 0 0, .slice none 0 0, .slice none 0 0, .slice none 0 0, .bool false, .bool false, .string ⟨#[]⟩, .bool false, .int .i64 (0)] 62 (0, 0)) ∧ (stA R).all (·.oneCell') = true ∧ Sx w4 S R (updF ws Sm.new (takeP s)).1 ∧ Sb S b p c ws (w.heap.size + 1) w0 w4 (updF ws Sm.new (takeP s)).1 (updF ws Sm.new (takeP s)).2) := ⟨hr, hzr, hx.ones, hx, D⟩
  obtain ⟨A, hA⟩ : ∃ A, stA R = A := ⟨_, rfl⟩
  have HA : Hid (stA R = A) := hA
  have h31 : Hid (A.size = 31) := by
    have h : A.size = 31 := by rw [← hA]; rfl
    exact h
  rw [hA] at HD
  clear D hr hx hzr hw0 hA
  go_wp2_with (first | (refine wpList_get rfl 62 (.tmp 3) rfl rfl HD.out.1 Tryz.underlying62 rfl (info30.trans (congrArg some h31.out.symm)) ?_; simp only [Act.put, List.setIfInBounds_toArray, List.set_cons_zero, List.set_cons_succ]) | (refine wpList_put rfl 62 (.tmp 2) (.tmp 32) rfl rfl rfl rfl HD.out.2.1 h31.out (info30.trans (congrArg some h31.out.symm)) HD.out.2.2.1 ?_) | fail)
  obtain ⟨hr, hzr, hon, hx, D⟩ := HD.out
  refine bodyPost_ret (results_cell_row Tryz.results54 _ _ w.heap.size 62 _ (0, 0) _ rfl (put_row A hzr h31.out) Tryz.underlying62 rfl (info30.trans (congrArg some h31.out.symm))) rfl ⟨R, by rw [HA.out], ?_, D.ps.put lb hold A, ?_, hG4⟩
  · rw [HB0.out.2.2.2.2] at hx
    exact (hx.since (Since.put (by omega) _ _)).imp fun k hk _ => by omega
  · have hO : Onl b w w4 := by
      have hb0 := HB0.out.2.1
      exact ⟨D.os.trans hb0.os, D.tape.trans hb0.tape, D.output.trans hb0.output, by omega, fun k hk kb => (D.block k (by omega) kb (by omega)).trans (hb0.block k hk)⟩
    exact hO.put _ (Nat.le_refl _) A
set_option maxRecDepth 100000 in
set_option maxHeartbeats 8000000 in
theorem statement_delete {w : World} {b : Nat} {p : Option Addr} {c : Nat} {ws : List Wd} {s : PS} (H : Ps w b p c ws s) (hz : Wz ws) (hl : Wl ws) (g : Gd ws s) (_ha : Wa ws) (he : Ev w) (_hb2 : 2 < b) (n0 : isP (wAt ws s.at') 2 [67, 82, 69, 65, 84, 69] = false) (n1 : isP (wAt ws s.at') 2 [73, 78, 83, 69, 82, 84] = false) (n2 : isP (wAt ws s.at') 2 [85, 80, 68, 65, 84, 69] = false) (hy : isP (wAt ws s.at') 2 [68, 69, 76, 69, 84, 69] = true) :
    Calls Tryz.prog 54 #[.pointer (some ⟨b, 0, none⟩)] w (GivesS ws w b p c (delF ws Sm.new (takeP s))) := by
  have hold := H.old
  have lb := lt_of_row H.row
  have hlt := H.lt
  obtain ⟨w0, hw0⟩ : ∃ w0, put ((w.alloc (.cells #[.int .i64 0, .string ⟨#[]⟩, .string ⟨#[]⟩, .int .i64 0, .string ⟨#[]⟩, .int .i64 0, .bool false, .int .i64 0, .string ⟨#[]⟩, .slice none 0 0, .slice none 0 0, .slice none 0 0, .slice none 0 0, .slice none 0 0, .slice none 0 0, .int .i64 0, .string ⟨#[]⟩, .int .i64 0, .bool false, .int .i64 0, .string ⟨#[]⟩, .slice none 0 0, .slice none 0 0, .slice none 0 0, .slice none 0 0, .slice none 0 0, .bool false, .bool false, .string ⟨#[]⟩, .bool false, .int .i64 (0)] 62)).alloc (.cells #[.int .i64 0, .string ⟨#[]⟩, .string ⟨#[]⟩, .int .i64 0, .string ⟨#[]⟩, .int .i64 0, .bool false, .int .i64 0, .string ⟨#[]⟩, .slice none 0 0, .slice none 0 0, .slice none 0 0, .slice none 0 0, .slice none 0 0, .slice none 0 0, .int .i64 0, .string ⟨#[]⟩, .int .i64 0, .bool false, .int .i64 0, .string ⟨#[]⟩, .slice none 0 0, .slice none 0 0, .slice none 0 0, .slice none 0 0, .slice none 0 0, .bool false, .bool false, .string ⟨#[]⟩, .bool false, .int .i64 (0)] 62)) (w.heap.size + 1) #[.int .i64 0, .string ⟨#[]⟩, .string ⟨#[]⟩, .int .i64 0, .string ⟨#[]⟩, .int .i64 0, .bool false, .int .i64 0, .string ⟨#[]⟩, .slice none 0 0, .slice none 0 0, .slice none 0 0, .slice none 0 0, .slice none 0 0, .slice none 0 0, .int .i64 0, .string ⟨#[]⟩, .int .i64 0, .bool false, .int .i64 0, .string ⟨#[]⟩, .slice none 0 0, .slice none 0 0, .slice none 0 0, .slice none 0 0, .slice none 0 0, .bool false, .bool false, .string ⟨#[]⟩, .bool false, .int .i64 (-1)] = w0 := ⟨_, rfl⟩
  have ra : ((w.alloc (.cells #[.int .i64 0, .string ⟨#[]⟩, .string ⟨#[]⟩, .int .i64 0, .string ⟨#[]⟩, .int .i64 0, .bool false, .int .i64 0, .string ⟨#[]⟩, .slice none 0 0, .slice none 0 0, .slice none 0 0, .slice none 0 0, .slice none 0 0, .slice none 0 0, .int .i64 0, .string ⟨#[]⟩, .int .i64 0, .bool false, .int .i64 0, .string ⟨#[]⟩, .slice none 0 0, .slice none 0 0, .slice none 0 0, .slice none 0 0, .slice none 0 0, .bool false, .bool false, .string ⟨#[]⟩, .bool false, .int .i64 (0)] 62)).alloc (.cells #[.int .i64 0, .string ⟨#[]⟩, .string ⟨#[]⟩, .int .i64 0, .string ⟨#[]⟩, .int .i64 0, .bool false, .int .i64 0, .string ⟨#[]⟩, .slice none 0 0, .slice none 0 0, .slice none 0 0, .slice none 0 0, .slice none 0 0, .slice none 0 0, .int .i64 0, .string ⟨#[]⟩, .int .i64 0, .bool false, .int .i64 0, .string ⟨#[]⟩, .slice none 0 0, .slice none 0 0, .slice none 0 0, .slice none 0 0, .slice none 0 0, .bool false, .bool false, .string ⟨#[]⟩, .bool false, .int .i64 (0)] 62)).heap[w.heap.size + 1]? = some (.cells #[.int .i64 0, .string ⟨#[]⟩, .string ⟨#[]⟩, .int .i64 0, .string ⟨#[]⟩, .int .i64 0, .bool false, .int .i64 0, .string ⟨#[]⟩, .slice none 0 0, .slice none 0 0, .slice none 0 0, .slice none 0 0, .slice none 0 0, .slice none 0 0, .int .i64 0, .string ⟨#[]⟩, .int .i64 0, .bool false, .int .i64 0, .string ⟨#[]⟩, .slice none 0 0, .slice none 0 0, .slice none 0 0, .slice none 0 0, .slice none 0 0, .bool false, .bool false, .string ⟨#[]⟩, .bool false, .int .i64 (0)] 62 (0, 0)) := two_new _ _ _
  have hb0 : Below w.heap.size w w0 := by rw [← hw0]; exact put_below (((Below.refl _ w).alloc (Nat.le_refl _) _).alloc (by simp) _) _ (Nat.le_succ _) _
  have hs0 : w0.heap.size = w.heap.size + 1 + 1 := by rw [← hw0, put_size]; simp
  have rx0 : w0.heap[w.heap.size + 1]? = some (.cells (stA (⟨0, ⟨#[]⟩, ⟨#[]⟩, ⟨0, ⟨#[]⟩, 0, false, 0, ⟨#[]⟩, none, 0, 0, none, 0, 0⟩, .slice none 0 0, .slice none 0 0, ⟨0, ⟨#[]⟩, 0, false, 0, ⟨#[]⟩, none, 0, 0, none, 0, 0⟩, .slice none 0 0, false, false, ⟨#[]⟩, false, -1⟩ : SR)) 62 (0, 0)) := by rw [← hw0]; exact put_row _ ra rfl
  have rz0 : w0.heap[w.heap.size]? = some (.cells #[.int .i64 0, .string ⟨#[]⟩, .string ⟨#[]⟩, .int .i64 0, .string ⟨#[]⟩, .int .i64 0, .bool false, .int .i64 0, .string ⟨#[]⟩, .slice none 0 0, .slice none 0 0, .slice none 0 0, .slice none 0 0, .slice none 0 0, .slice none 0 0, .int .i64 0, .string ⟨#[]⟩, .int .i64 0, .bool false, .int .i64 0, .string ⟨#[]⟩, .slice none 0 0, .slice none 0 0, .slice none 0 0, .slice none 0 0, .slice none 0 0, .bool false, .bool false, .string ⟨#[]⟩, .bool false, .int .i64 (0)] 62 (0, 0)) := by rw [← hw0, put_other (by omega), Below.heap_alloc _ _ _ (by simp)]; exact heap_alloc_new _ _
  obtain ⟨S, hS⟩ : ∃ S : Nat → Prop, S = fun k => w.heap.size + 1 + 1 ≤ k := ⟨_, rfl⟩
  have B0 : Sb S b p c ws (w.heap.size + 1) w0 w0 Sm.new s := by
    refine ⟨⟨_, rx0, zero_sx w0 S (-1)⟩, H.later hb0, rfl, rfl, rfl, Nat.le_refl _, fun _ _ _ _ => rfl, ⟨by omega, by omega⟩, fun g hg => by have := hold g hg; omega, ?_, ?_⟩
    · rw [hS]; constructor <;> omega
    · rw [hS]; intro k hk; omega
  have HB0 : Hid (Sb S b p c ws (w.heap.size + 1) w0 w0 Sm.new s ∧ Below w.heap.size w w0 ∧ ((w.alloc (.cells #[.int .i64 0, .string ⟨#[]⟩, .string ⟨#[]⟩, .int .i64 0, .string ⟨#[]⟩, .int .i64 0, .bool false, .int .i64 0, .string ⟨#[]⟩, .slice none 0 0, .slice none 0 0, .slice none 0 0, .slice none 0 0, .slice none 0 0, .slice none 0 0, .int .i64 0, .string ⟨#[]⟩, .int .i64 0, .bool false, .int .i64 0, .string ⟨#[]⟩, .slice none 0 0, .slice none 0 0, .slice none 0 0, .slice none 0 0, .slice none 0 0, .bool false, .bool false, .string ⟨#[]⟩, .bool false, .int .i64 (0)] 62)).alloc (.cells #[.int .i64 0, .string ⟨#[]⟩, .string ⟨#[]⟩, .int .i64 0, .string ⟨#[]⟩, .int .i64 0, .bool false, .int .i64 0, .string ⟨#[]⟩, .slice none 0 0, .slice none 0 0, .slice none 0 0, .slice none 0 0, .slice none 0 0, .slice none 0 0, .int .i64 0, .string ⟨#[]⟩, .int .i64 0, .bool false, .int .i64 0, .string ⟨#[]⟩, .slice none 0 0, .slice none 0 0, .slice none 0 0, .slice none 0 0, .slice none 0 0, .bool false, .bool false, .string ⟨#[]⟩, .bool false, .int .i64 (0)] 62)).heap[w.heap.size + 1]? = some (.cells #[.int .i64 0, .string ⟨#[]⟩, .string ⟨#[]⟩, .int .i64 0, .string ⟨#[]⟩, .int .i64 0, .bool false, .int .i64 0, .string ⟨#[]⟩, .slice none 0 0, .slice none 0 0, .slice none 0 0, .slice none 0 0, .slice none 0 0, .slice none 0 0, .int .i64 0, .string ⟨#[]⟩, .int .i64 0, .bool false, .int .i64 0, .string ⟨#[]⟩, .slice none 0 0, .slice none 0 0, .slice none 0 0, .slice none 0 0, .slice none 0 0, .bool false, .bool false, .string ⟨#[]⟩, .bool false, .int .i64 (0)] 62 (0, 0)) ∧ w0.heap[w.heap.size]? = some (.cells #[.int .i64 0, .string ⟨#[]⟩, .string ⟨#[]⟩, .int .i64 0, .string ⟨#[]⟩, .int .i64 0, .bool false, .int .i64 0, .string ⟨#[]⟩, .slice none 0 0, .slice none 0 0, .slice none 0 0, .slice none 0 0, .slice none 0 0, .slice none 0 0, .int .i64 0, .string ⟨#[]⟩, .int .i64 0, .bool false, .int .i64 0, .string ⟨#[]⟩, .slice none 0 0, .slice none 0 0, .slice none 0 0, .slice none 0 0, .slice none 0 0, .bool false, .bool false, .string ⟨#[]⟩, .bool false, .int .i64 (0)] 62 (0, 0)) ∧ S = (fun k => w.heap.size + 1 + 1 ≤ k)) := ⟨B0, hb0, ra, rz0, hS⟩
  have HE : Hid (Ev w0) := he.later hb0
  have HC : Hid (Sb S b p c ws (w.heap.size + 1) w0 w0 Sm.new s) := B0
  have g1 := g.take hz hlt hy (by decide)
  clear H ra hb0 rx0 rz0 B0 he hS
  go_enter Tryz.func54, Tryz.ntmps54
  have k0 := tookKey_no HC.out.ps hz [67, 82, 69, 65, 84, 69] n0
  go_wp2_with (first | (refine wpList_put rfl 62 (.tmp 3) (.tmp 4) rfl rfl rfl rfl HB0.out.2.2.1 rfl info30 (by simp [Value.oneCell']) ?_; rw [hw0]) | fail)
  refine k0.mono ?_
  rintro q w1 ⟨rfl, hP1, hO1⟩
  have HC1 : Hid (Sb S b p c ws (w.heap.size + 1) w0 w1 Sm.new s) := HC.out.calls hO1 hP1
  clear k0 hP1 hO1 HC
  have k1 := tookKey_no HC1.out.ps hz [73, 78, 83, 69, 82, 84] n1
  go_wp2_with fail
  refine k1.mono ?_
  rintro q w2 ⟨rfl, hP2, hO2⟩
  have HC2 : Hid (Sb S b p c ws (w.heap.size + 1) w0 w2 Sm.new s) := HC1.out.calls hO2 hP2
  clear k1 hP2 hO2 HC1
  have k2 := tookKey_no HC2.out.ps hz [85, 80, 68, 65, 84, 69] n2
  go_wp2_with fail
  refine k2.mono ?_
  rintro q w3 ⟨rfl, hP3, hO3⟩
  have HC3 : Hid (Sb S b p c ws (w.heap.size + 1) w0 w3 Sm.new s) := HC2.out.calls hO3 hP3
  clear k2 hP3 hO3 HC2
  have k3 := tookKey_yes HC3.out.ps hz [68, 69, 76, 69, 84, 69] hy
  go_wp2_with fail
  refine k3.mono ?_
  rintro q w4 ⟨rfl, hP4, hO4⟩
  have HC4 : Hid (Sb S b p c ws (w.heap.size + 1) w0 w4 Sm.new (takeP s)) := HC3.out.calls hO4 hP4
  clear k3 hP4 hO4 HC3
  have k4 := deletion_any HC4.out.self hz hl g1
  go_wp2_with fail
  refine k4.mono ?_
  rintro q w5 ⟨rfl, hB5, hG5⟩
  have D := HC4.out.trans hB5
  clear k4 hB5 HC4
  obtain ⟨R, hr, hx⟩ := D.row
  have hzr := (D.block w.heap.size (by omega) (by omega) (by omega)).trans HB0.out.2.2.2.1
  have hsz := D.size
  have HD : Hid (w5.heap[w.heap.size + 1]? = some (.cells (stA R) 62 (0, 0)) ∧ w5.heap[w.heap.size]? = some (.cells #[.int .i64 0, .string ⟨#[]⟩, .string ⟨#[]⟩, .int .i64 0, .string ⟨#[]⟩, .int .i64 0, .bool false, .int .i64 0, .string ⟨#[]⟩, .slice none 0 0, .slice none 0 0, .slice none 0 0, .slice none 0 0, .slice none 0 0, .slice none 0 0, .int .i64 0, .string ⟨#[]⟩, .int .i64 0, .bool false, .int .i64 0, .string ⟨#[]⟩, .slice none 0 0, .slice none 0 0, .slice none 0 0, .slice none 0 0, .slice none 0 0, .bool false, .bool false, .string ⟨#[]⟩, .bool false, .int .i64 (0)] 62 (0, 0)) ∧ (stA R).all (·.oneCell') = true ∧ Sx w5 S R (delF ws Sm.new (takeP s)).1 ∧ Sb S b p c ws (w.heap.size + 1) w0 w5 (delF ws Sm.new (takeP s)).1 (delF ws Sm.new (takeP s)).2) := ⟨hr, hzr, hx.ones, hx, D⟩
  obtain ⟨A, hA⟩ : ∃ A, stA R = A := ⟨_, rfl⟩
  have HA : Hid (stA R = A) := hA
  have h31 : Hid (A.size = 31) := by
    have h : A.size = 31 := by rw [← hA]; rfl
    exact h
  rw [hA] at HD
  clear D hr hx hzr hw0 hA
  go_wp2_with (first | (refine wpList_get rfl 62 (.tmp 3) rfl rfl HD.out.1 Tryz.underlying62 rfl (info30.trans (congrArg some h31.out.symm)) ?_; simp only [Act.put, List.setIfInBounds_toArray, List.set_cons_zero, List.set_cons_succ]) | (refine wpList_put rfl 62 (.tmp 2) (.tmp 32) rfl rfl rfl rfl HD.out.2.1 h31.out (info30.trans (congrArg some h31.out.symm)) HD.out.2.2.1 ?_) | fail)
  obtain ⟨hr, hzr, hon, hx, D⟩ := HD.out
  refine bodyPost_ret (results_cell_row Tryz.results54 _ _ w.heap.size 62 _ (0, 0) _ rfl (put_row A hzr h31.out) Tryz.underlying62 rfl (info30.trans (congrArg some h31.out.symm))) rfl ⟨R, by rw [HA.out], ?_, D.ps.put lb hold A, ?_, hG5⟩
  · rw [HB0.out.2.2.2.2] at hx
    exact (hx.since (Since.put (by omega) _ _)).imp fun k hk _ => by omega
  · have hO : Onl b w w5 := by
      have hb0 := HB0.out.2.1
      exact ⟨D.os.trans hb0.os, D.tape.trans hb0.tape, D.output.trans hb0.output, by omega, fun k hk kb => (D.block k (by omega) kb (by omega)).trans (hb0.block k hk)⟩
    exact hO.put _ (Nat.le_refl _) A
set_option maxRecDepth 100000 in
set_option maxHeartbeats 8000000 in
theorem statement_select {w : World} {b : Nat} {p : Option Addr} {c : Nat} {ws : List Wd} {s : PS} (H : Ps w b p c ws s) (hz : Wz ws) (hl : Wl ws) (g : Gd ws s) (ha : Wa ws) (he : Ev w) (hb2 : 2 < b) (n0 : isP (wAt ws s.at') 2 [67, 82, 69, 65, 84, 69] = false) (n1 : isP (wAt ws s.at') 2 [73, 78, 83, 69, 82, 84] = false) (n2 : isP (wAt ws s.at') 2 [85, 80, 68, 65, 84, 69] = false) (n3 : isP (wAt ws s.at') 2 [68, 69, 76, 69, 84, 69] = false) (hy : isP (wAt ws s.at') 2 [83, 69, 76, 69, 67, 84] = true) :
    Calls Tryz.prog 54 #[.pointer (some ⟨b, 0, none⟩)] w (GivesS ws w b p c (selF ws Sm.new (takeP s))) := by
  have hold := H.old
  have lb := lt_of_row H.row
  have hlt := H.lt
  obtain ⟨w0, hw0⟩ : ∃ w0, put ((w.alloc (.cells #[.int .i64 0, .string ⟨#[]⟩, .string ⟨#[]⟩, .int .i64 0, .string ⟨#[]⟩, .int .i64 0, .bool false, .int .i64 0, .string ⟨#[]⟩, .slice none 0 0, .slice none 0 0, .slice none 0 0, .slice none 0 0, .slice none 0 0, .slice none 0 0, .int .i64 0, .string ⟨#[]⟩, .int .i64 0, .bool false, .int .i64 0, .string ⟨#[]⟩, .slice none 0 0, .slice none 0 0, .slice none 0 0, .slice none 0 0, .slice none 0 0, .bool false, .bool false, .string ⟨#[]⟩, .bool false, .int .i64 (0)] 62)).alloc (.cells #[.int .i64 0, .string ⟨#[]⟩, .string ⟨#[]⟩, .int .i64 0, .string ⟨#[]⟩, .int .i64 0, .bool false, .int .i64 0, .string ⟨#[]⟩, .slice none 0 0, .slice none 0 0, .slice none 0 0, .slice none 0 0, .slice none 0 0, .slice none 0 0, .int .i64 0, .string ⟨#[]⟩, .int .i64 0, .bool false, .int .i64 0, .string ⟨#[]⟩, .slice none 0 0, .slice none 0 0, .slice none 0 0, .slice none 0 0, .slice none 0 0, .bool false, .bool false, .string ⟨#[]⟩, .bool false, .int .i64 (0)] 62)) (w.heap.size + 1) #[.int .i64 0, .string ⟨#[]⟩, .string ⟨#[]⟩, .int .i64 0, .string ⟨#[]⟩, .int .i64 0, .bool false, .int .i64 0, .string ⟨#[]⟩, .slice none 0 0, .slice none 0 0, .slice none 0 0, .slice none 0 0, .slice none 0 0, .slice none 0 0, .int .i64 0, .string ⟨#[]⟩, .int .i64 0, .bool false, .int .i64 0, .string ⟨#[]⟩, .slice none 0 0, .slice none 0 0, .slice none 0 0, .slice none 0 0, .slice none 0 0, .bool false, .bool false, .string ⟨#[]⟩, .bool false, .int .i64 (-1)] = w0 := ⟨_, rfl⟩
  have ra : ((w.alloc (.cells #[.int .i64 0, .string ⟨#[]⟩, .string ⟨#[]⟩, .int .i64 0, .string ⟨#[]⟩, .int .i64 0, .bool false, .int .i64 0, .string ⟨#[]⟩, .slice none 0 0, .slice none 0 0, .slice none 0 0, .slice none 0 0, .slice none 0 0, .slice none 0 0, .int .i64 0, .string ⟨#[]⟩, .int .i64 0, .bool false, .int .i64 0, .string ⟨#[]⟩, .slice none 0 0, .slice none 0 0, .slice none 0 0, .slice none 0 0, .slice none 0 0, .bool false, .bool false, .string ⟨#[]⟩, .bool false, .int .i64 (0)] 62)).alloc (.cells #[.int .i64 0, .string ⟨#[]⟩, .string ⟨#[]⟩, .int .i64 0, .string ⟨#[]⟩, .int .i64 0, .bool false, .int .i64 0, .string ⟨#[]⟩, .slice none 0 0, .slice none 0 0, .slice none 0 0, .slice none 0 0, .slice none 0 0, .slice none 0 0, .int .i64 0, .string ⟨#[]⟩, .int .i64 0, .bool false, .int .i64 0, .string ⟨#[]⟩, .slice none 0 0, .slice none 0 0, .slice none 0 0, .slice none 0 0, .slice none 0 0, .bool false, .bool false, .string ⟨#[]⟩, .bool false, .int .i64 (0)] 62)).heap[w.heap.size + 1]? = some (.cells #[.int .i64 0, .string ⟨#[]⟩, .string ⟨#[]⟩, .int .i64 0, .string ⟨#[]⟩, .int .i64 0, .bool false, .int .i64 0, .string ⟨#[]⟩, .slice none 0 0, .slice none 0 0, .slice none 0 0, .slice none 0 0, .slice none 0 0, .slice none 0 0, .int .i64 0, .string ⟨#[]⟩, .int .i64 0, .bool false, .int .i64 0, .string ⟨#[]⟩, .slice none 0 0, .slice none 0 0, .slice none 0 0, .slice none 0 0, .slice none 0 0, .bool false, .bool false, .string ⟨#[]⟩, .bool false, .int .i64 (0)] 62 (0, 0)) := two_new _ _ _
  have hb0 : Below w.heap.size w w0 := by rw [← hw0]; exact put_below (((Below.refl _ w).alloc (Nat.le_refl _) _).alloc (by simp) _) _ (Nat.le_succ _) _
  have hs0 : w0.heap.size = w.heap.size + 1 + 1 := by rw [← hw0, put_size]; simp
  have rx0 : w0.heap[w.heap.size + 1]? = some (.cells (stA (⟨0, ⟨#[]⟩, ⟨#[]⟩, ⟨0, ⟨#[]⟩, 0, false, 0, ⟨#[]⟩, none, 0, 0, none, 0, 0⟩, .slice none 0 0, .slice none 0 0, ⟨0, ⟨#[]⟩, 0, false, 0, ⟨#[]⟩, none, 0, 0, none, 0, 0⟩, .slice none 0 0, false, false, ⟨#[]⟩, false, -1⟩ : SR)) 62 (0, 0)) := by rw [← hw0]; exact put_row _ ra rfl
  have rz0 : w0.heap[w.heap.size]? = some (.cells #[.int .i64 0, .string ⟨#[]⟩, .string ⟨#[]⟩, .int .i64 0, .string ⟨#[]⟩, .int .i64 0, .bool false, .int .i64 0, .string ⟨#[]⟩, .slice none 0 0, .slice none 0 0, .slice none 0 0, .slice none 0 0, .slice none 0 0, .slice none 0 0, .int .i64 0, .string ⟨#[]⟩, .int .i64 0, .bool false, .int .i64 0, .string ⟨#[]⟩, .slice none 0 0, .slice none 0 0, .slice none 0 0, .slice none 0 0, .slice none 0 0, .bool false, .bool false, .string ⟨#[]⟩, .bool false, .int .i64 (0)] 62 (0, 0)) := by rw [← hw0, put_other (by omega), Below.heap_alloc _ _ _ (by simp)]; exact heap_alloc_new _ _
  obtain ⟨S, hS⟩ : ∃ S : Nat → Prop, S = fun k => w.heap.size + 1 + 1 ≤ k := ⟨_, rfl⟩
  have B0 : Sb S b p c ws (w.heap.size + 1) w0 w0 Sm.new s := by
    refine ⟨⟨_, rx0, zero_sx w0 S (-1)⟩, H.later hb0, rfl, rfl, rfl, Nat.le_refl _, fun _ _ _ _ => rfl, ⟨by omega, by omega⟩, fun g hg => by have := hold g hg; omega, ?_, ?_⟩
    · rw [hS]; constructor <;> omega
    · rw [hS]; intro k hk; omega
  have HB0 : Hid (Sb S b p c ws (w.heap.size + 1) w0 w0 Sm.new s ∧ Below w.heap.size w w0 ∧ ((w.alloc (.cells #[.int .i64 0, .string ⟨#[]⟩, .string ⟨#[]⟩, .int .i64 0, .string ⟨#[]⟩, .int .i64 0, .bool false, .int .i64 0, .string ⟨#[]⟩, .slice none 0 0, .slice none 0 0, .slice none 0 0, .slice none 0 0, .slice none 0 0, .slice none 0 0, .int .i64 0, .string ⟨#[]⟩, .int .i64 0, .bool false, .int .i64 0, .string ⟨#[]⟩, .slice none 0 0, .slice none 0 0, .slice none 0 0, .slice none 0 0, .slice none 0 0, .bool false, .bool false, .string ⟨#[]⟩, .bool false, .int .i64 (0)] 62)).alloc (.cells #[.int .i64 0, .string ⟨#[]⟩, .string ⟨#[]⟩, .int .i64 0, .string ⟨#[]⟩, .int .i64 0, .bool false, .int .i64 0, .string ⟨#[]⟩, .slice none 0 0, .slice none 0 0, .slice none 0 0, .slice none 0 0, .slice none 0 0, .slice none 0 0, .int .i64 0, .string ⟨#[]⟩, .int .i64 0, .bool false, .int .i64 0, .string ⟨#[]⟩, .slice none 0 0, .slice none 0 0, .slice none 0 0, .slice none 0 0, .slice none 0 0, .bool false, .bool false, .string ⟨#[]⟩, .bool false, .int .i64 (0)] 62)).heap[w.heap.size + 1]? = some (.cells #[.int .i64 0, .string ⟨#[]⟩, .string ⟨#[]⟩, .int .i64 0, .string ⟨#[]⟩, .int .i64 0, .bool false, .int .i64 0, .string ⟨#[]⟩, .slice none 0 0, .slice none 0 0, .slice none 0 0, .slice none 0 0, .slice none 0 0, .slice none 0 0, .int .i64 0, .string ⟨#[]⟩, .int .i64 0, .bool false, .int .i64 0, .string ⟨#[]⟩, .slice none 0 0, .slice none 0 0, .slice none 0 0, .slice none 0 0, .slice none 0 0, .bool false, .bool false, .string ⟨#[]⟩, .bool false, .int .i64 (0)] 62 (0, 0)) ∧ w0.heap[w.heap.size]? = some (.cells #[.int .i64 0, .string ⟨#[]⟩, .string ⟨#[]⟩, .int .i64 0, .string ⟨#[]⟩, .int .i64 0, .bool false, .int .i64 0, .string ⟨#[]⟩, .slice none 0 0, .slice none 0 0, .slice none 0 0, .slice none 0 0, .slice none 0 0, .slice none 0 0, .int .i64 0, .string ⟨#[]⟩, .int .i64 0, .bool false, .int .i64 0, .string ⟨#[]⟩, .slice none 0 0, .slice none 0 0, .slice none 0 0, .slice none 0 0, .slice none 0 0, .bool false, .bool false, .string ⟨#[]⟩, .bool false, .int .i64 (0)] 62 (0, 0)) ∧ S = (fun k => w.heap.size + 1 + 1 ≤ k)) := ⟨B0, hb0, ra, rz0, hS⟩
  have HE : Hid (Ev w0) := he.later hb0
  have HC : Hid (Sb S b p c ws (w.heap.size + 1) w0 w0 Sm.new s) := B0
  have g1 := g.take hz hlt hy (by decide)
  clear H ra hb0 rx0 rz0 B0 he hS
  go_enter Tryz.func54, Tryz.ntmps54
  have k0 := tookKey_no HC.out.ps hz [67, 82, 69, 65, 84, 69] n0
  go_wp2_with (first | (refine wpList_put rfl 62 (.tmp 3) (.tmp 4) rfl rfl rfl rfl HB0.out.2.2.1 rfl info30 (by simp [Value.oneCell']) ?_; rw [hw0]) | fail)
  refine k0.mono ?_
  rintro q w1 ⟨rfl, hP1, hO1⟩
  have HC1 : Hid (Sb S b p c ws (w.heap.size + 1) w0 w1 Sm.new s) := HC.out.calls hO1 hP1
  clear k0 hP1 hO1 HC
  have k1 := tookKey_no HC1.out.ps hz [73, 78, 83, 69, 82, 84] n1
  go_wp2_with fail
  refine k1.mono ?_
  rintro q w2 ⟨rfl, hP2, hO2⟩
  have HC2 : Hid (Sb S b p c ws (w.heap.size + 1) w0 w2 Sm.new s) := HC1.out.calls hO2 hP2
  clear k1 hP2 hO2 HC1
  have k2 := tookKey_no HC2.out.ps hz [85, 80, 68, 65, 84, 69] n2
  go_wp2_with fail
  refine k2.mono ?_
  rintro q w3 ⟨rfl, hP3, hO3⟩
  have HC3 : Hid (Sb S b p c ws (w.heap.size + 1) w0 w3 Sm.new s) := HC2.out.calls hO3 hP3
  clear k2 hP3 hO3 HC2
  have k3 := tookKey_no HC3.out.ps hz [68, 69, 76, 69, 84, 69] n3
  go_wp2_with fail
  refine k3.mono ?_
  rintro q w4 ⟨rfl, hP4, hO4⟩
  have HC4 : Hid (Sb S b p c ws (w.heap.size + 1) w0 w4 Sm.new s) := HC3.out.calls hO4 hP4
  clear k3 hP4 hO4 HC3
  have k4 := tookKey_yes HC4.out.ps hz [83, 69, 76, 69, 67, 84] hy
  go_wp2_with fail
  refine k4.mono ?_
  rintro q w5 ⟨rfl, hP5, hO5⟩
  have HC5 : Hid (Sb S b p c ws (w.heap.size + 1) w0 w5 Sm.new (takeP s)) := HC4.out.calls hO5 hP5
  clear k4 hP5 hO5 HC4
  have k5 := selection_any HC5.out.self hz hl g1 ha (HE.out.sb hb2 HC5.out) hb2
  go_wp2_with fail
  refine k5.mono ?_
  rintro q w6 ⟨rfl, hB6, hG6⟩
  have D := HC5.out.trans hB6
  clear k5 hB6 HC5
  obtain ⟨R, hr, hx⟩ := D.row
  have hzr := (D.block w.heap.size (by omega) (by omega) (by omega)).trans HB0.out.2.2.2.1
  have hsz := D.size
  have HD : Hid (w6.heap[w.heap.size + 1]? = some (.cells (stA R) 62 (0, 0)) ∧ w6.heap[w.heap.size]? = some (.cells #[.int .i64 0, .string ⟨#[]⟩, .string ⟨#[]⟩, .int .i64 0, .string ⟨#[]⟩, .int .i64 0, .bool false, .int .i64 0, .string ⟨#[]⟩, .slice none 0 0, .slice none 0 0, .slice none 0 0, .slice none 0 0, .slice none 0 0, .slice none 0 0, .int .i64 0, .string ⟨#[]⟩, .int .i64 0, .bool false, .int .i64 0, .string ⟨#[]⟩, .slice none 0 0, .slice none 0 0, .slice none 0 0, .slice none 0 0, .slice none 0 0, .bool false, .bool false, .string ⟨#[]⟩, .bool false, .int .i64 (0)] 62 (0, 0)) ∧ (stA R).all (·.oneCell') = true ∧ Sx w6 S R (selF ws Sm.new (takeP s)).1 ∧ Sb S b p c ws (w.heap.size + 1) w0 w6 (selF ws Sm.new (takeP s)).1 (selF ws Sm.new (takeP s)).2) := ⟨hr, hzr, hx.ones, hx, D⟩
  obtain ⟨A, hA⟩ : ∃ A, stA R = A := ⟨_, rfl⟩
  have HA : Hid (stA R = A) := hA
  have h31 : Hid (A.size = 31) := by
    have h : A.size = 31 := by rw [← hA]; rfl
    exact h
  rw [hA] at HD
  clear D hr hx hzr hw0 hA
  go_wp2_with (first | (refine wpList_get rfl 62 (.tmp 3) rfl rfl HD.out.1 Tryz.underlying62 rfl (info30.trans (congrArg some h31.out.symm)) ?_; simp only [Act.put, List.setIfInBounds_toArray, List.set_cons_zero, List.set_cons_succ]) | (refine wpList_put rfl 62 (.tmp 2) (.tmp 32) rfl rfl rfl rfl HD.out.2.1 h31.out (info30.trans (congrArg some h31.out.symm)) HD.out.2.2.1 ?_) | fail)
  obtain ⟨hr, hzr, hon, hx, D⟩ := HD.out
  refine bodyPost_ret (results_cell_row Tryz.results54 _ _ w.heap.size 62 _ (0, 0) _ rfl (put_row A hzr h31.out) Tryz.underlying62 rfl (info30.trans (congrArg some h31.out.symm))) rfl ⟨R, by rw [HA.out], ?_, D.ps.put lb hold A, ?_, hG6⟩
  · rw [HB0.out.2.2.2.2] at hx
    exact (hx.since (Since.put (by omega) _ _)).imp fun k hk _ => by omega
  · have hO : Onl b w w6 := by
      have hb0 := HB0.out.2.1
      exact ⟨D.os.trans hb0.os, D.tape.trans hb0.tape, D.output.trans hb0.output, by omega, fun k hk kb => (D.block k (by omega) kb (by omega)).trans (hb0.block k hk)⟩
    exact hO.put _ (Nat.le_refl _) A
set_option maxRecDepth 100000 in
set_option maxHeartbeats 8000000 in
theorem statement_none {w : World} {b : Nat} {p : Option Addr} {c : Nat} {ws : List Wd} {s : PS} (H : Ps w b p c ws s) (hz : Wz ws) (_hl : Wl ws) (g : Gd ws s) (_ha : Wa ws) (he : Ev w) (_hb2 : 2 < b) (n0 : isP (wAt ws s.at') 2 [67, 82, 69, 65, 84, 69] = false) (n1 : isP (wAt ws s.at') 2 [73, 78, 83, 69, 82, 84] = false) (n2 : isP (wAt ws s.at') 2 [85, 80, 68, 65, 84, 69] = false) (n3 : isP (wAt ws s.at') 2 [68, 69, 76, 69, 84, 69] = false) (n4 : isP (wAt ws s.at') 2 [83, 69, 76, 69, 67, 84] = false) :
    Calls Tryz.prog 54 #[.pointer (some ⟨b, 0, none⟩)] w (GivesS ws w b p c (Sm.new, failP ws s 120)) := by
  have hold := H.old
  have lb := lt_of_row H.row
  have hlt := H.lt
  obtain ⟨w0, hw0⟩ : ∃ w0, put ((w.alloc (.cells #[.int .i64 0, .string ⟨#[]⟩, .string ⟨#[]⟩, .int .i64 0, .string ⟨#[]⟩, .int .i64 0, .bool false, .int .i64 0, .string ⟨#[]⟩, .slice none 0 0, .slice none 0 0, .slice none 0 0, .slice none 0 0, .slice none 0 0, .slice none 0 0, .int .i64 0, .string ⟨#[]⟩, .int .i64 0, .bool false, .int .i64 0, .string ⟨#[]⟩, .slice none 0 0, .slice none 0 0, .slice none 0 0, .slice none 0 0, .slice none 0 0, .bool false, .bool false, .string ⟨#[]⟩, .bool false, .int .i64 (0)] 62)).alloc (.cells #[.int .i64 0, .string ⟨#[]⟩, .string ⟨#[]⟩, .int .i64 0, .string ⟨#[]⟩, .int .i64 0, .bool false, .int .i64 0, .string ⟨#[]⟩, .slice none 0 0, .slice none 0 0, .slice none 0 0, .slice none 0 0, .slice none 0 0, .slice none 0 0, .int .i64 0, .string ⟨#[]⟩, .int .i64 0, .bool false, .int .i64 0, .string ⟨#[]⟩, .slice none 0 0, .slice none 0 0, .slice none 0 0, .slice none 0 0, .slice none 0 0, .bool false, .bool false, .string ⟨#[]⟩, .bool false, .int .i64 (0)] 62)) (w.heap.size + 1) #[.int .i64 0, .string ⟨#[]⟩, .string ⟨#[]⟩, .int .i64 0, .string ⟨#[]⟩, .int .i64 0, .bool false, .int .i64 0, .string ⟨#[]⟩, .slice none 0 0, .slice none 0 0, .slice none 0 0, .slice none 0 0, .slice none 0 0, .slice none 0 0, .int .i64 0, .string ⟨#[]⟩, .int .i64 0, .bool false, .int .i64 0, .string ⟨#[]⟩, .slice none 0 0, .slice none 0 0, .slice none 0 0, .slice none 0 0, .slice none 0 0, .bool false, .bool false, .string ⟨#[]⟩, .bool false, .int .i64 (-1)] = w0 := ⟨_, rfl⟩
  have ra : ((w.alloc (.cells #[.int .i64 0, .string ⟨#[]⟩, .string ⟨#[]⟩, .int .i64 0, .string ⟨#[]⟩, .int .i64 0, .bool false, .int .i64 0, .string ⟨#[]⟩, .slice none 0 0, .slice none 0 0, .slice none 0 0, .slice none 0 0, .slice none 0 0, .slice none 0 0, .int .i64 0, .string ⟨#[]⟩, .int .i64 0, .bool false, .int .i64 0, .string ⟨#[]⟩, .slice none 0 0, .slice none 0 0, .slice none 0 0, .slice none 0 0, .slice none 0 0, .bool false, .bool false, .string ⟨#[]⟩, .bool false, .int .i64 (0)] 62)).alloc (.cells #[.int .i64 0, .string ⟨#[]⟩, .string ⟨#[]⟩, .int .i64 0, .string ⟨#[]⟩, .int .i64 0, .bool false, .int .i64 0, .string ⟨#[]⟩, .slice none 0 0, .slice none 0 0, .slice none 0 0, .slice none 0 0, .slice none 0 0, .slice none 0 0, .int .i64 0, .string ⟨#[]⟩, .int .i64 0, .bool false, .int .i64 0, .string ⟨#[]⟩, .slice none 0 0, .slice none 0 0, .slice none 0 0, .slice none 0 0, .slice none 0 0, .bool false, .bool false, .string ⟨#[]⟩, .bool false, .int .i64 (0)] 62)).heap[w.heap.size + 1]? = some (.cells #[.int .i64 0, .string ⟨#[]⟩, .string ⟨#[]⟩, .int .i64 0, .string ⟨#[]⟩, .int .i64 0, .bool false, .int .i64 0, .string ⟨#[]⟩, .slice none 0 0, .slice none 0 0, .slice none 0 0, .slice none 0 0, .slice none 0 0, .slice none 0 0, .int .i64 0, .string ⟨#[]⟩, .int .i64 0, .bool false, .int .i64 0, .string ⟨#[]⟩, .slice none 0 0, .slice none 0 0, .slice none 0 0, .slice none 0 0, .slice none 0 0, .bool false, .bool false, .string ⟨#[]⟩, .bool false, .int .i64 (0)] 62 (0, 0)) := two_new _ _ _
  have hb0 : Below w.heap.size w w0 := by rw [← hw0]; exact put_below (((Below.refl _ w).alloc (Nat.le_refl _) _).alloc (by simp) _) _ (Nat.le_succ _) _
  have hs0 : w0.heap.size = w.heap.size + 1 + 1 := by rw [← hw0, put_size]; simp
  have rx0 : w0.heap[w.heap.size + 1]? = some (.cells (stA (⟨0, ⟨#[]⟩, ⟨#[]⟩, ⟨0, ⟨#[]⟩, 0, false, 0, ⟨#[]⟩, none, 0, 0, none, 0, 0⟩, .slice none 0 0, .slice none 0 0, ⟨0, ⟨#[]⟩, 0, false, 0, ⟨#[]⟩, none, 0, 0, none, 0, 0⟩, .slice none 0 0, false, false, ⟨#[]⟩, false, -1⟩ : SR)) 62 (0, 0)) := by rw [← hw0]; exact put_row _ ra rfl
  have rz0 : w0.heap[w.heap.size]? = some (.cells #[.int .i64 0, .string ⟨#[]⟩, .string ⟨#[]⟩, .int .i64 0, .string ⟨#[]⟩, .int .i64 0, .bool false, .int .i64 0, .string ⟨#[]⟩, .slice none 0 0, .slice none 0 0, .slice none 0 0, .slice none 0 0, .slice none 0 0, .slice none 0 0, .int .i64 0, .string ⟨#[]⟩, .int .i64 0, .bool false, .int .i64 0, .string ⟨#[]⟩, .slice none 0 0, .slice none 0 0, .slice none 0 0, .slice none 0 0, .slice none 0 0, .bool false, .bool false, .string ⟨#[]⟩, .bool false, .int .i64 (0)] 62 (0, 0)) := by rw [← hw0, put_other (by omega), Below.heap_alloc _ _ _ (by simp)]; exact heap_alloc_new _ _
  obtain ⟨S, hS⟩ : ∃ S : Nat → Prop, S = fun k => w.heap.size + 1 + 1 ≤ k := ⟨_, rfl⟩
  have B0 : Sb S b p c ws (w.heap.size + 1) w0 w0 Sm.new s := by
    refine ⟨⟨_, rx0, zero_sx w0 S (-1)⟩, H.later hb0, rfl, rfl, rfl, Nat.le_refl _, fun _ _ _ _ => rfl, ⟨by omega, by omega⟩, fun g hg => by have := hold g hg; omega, ?_, ?_⟩
    · rw [hS]; constructor <;> omega
    · rw [hS]; intro k hk; omega
  have HB0 : Hid (Sb S b p c ws (w.heap.size + 1) w0 w0 Sm.new s ∧ Below w.heap.size w w0 ∧ ((w.alloc (.cells #[.int .i64 0, .string ⟨#[]⟩, .string ⟨#[]⟩, .int .i64 0, .string ⟨#[]⟩, .int .i64 0, .bool false, .int .i64 0, .string ⟨#[]⟩, .slice none 0 0, .slice none 0 0, .slice none 0 0, .slice none 0 0, .slice none 0 0, .slice none 0 0, .int .i64 0, .string ⟨#[]⟩, .int .i64 0, .bool false, .int .i64 0, .string ⟨#[]⟩, .slice none 0 0, .slice none 0 0, .slice none 0 0, .slice none 0 0, .slice none 0 0, .bool false, .bool false, .string ⟨#[]⟩, .bool false, .int .i64 (0)] 62)).alloc (.cells #[.int .i64 0, .string ⟨#[]⟩, .string ⟨#[]⟩, .int .i64 0, .string ⟨#[]⟩, .int .i64 0, .bool false, .int .i64 0, .string ⟨#[]⟩, .slice none 0 0, .slice none 0 0, .slice none 0 0, .slice none 0 0, .slice none 0 0, .slice none 0 0, .int .i64 0, .string ⟨#[]⟩, .int .i64 0, .bool false, .int .i64 0, .string ⟨#[]⟩, .slice none 0 0, .slice none 0 0, .slice none 0 0, .slice none 0 0, .slice none 0 0, .bool false, .bool false, .string ⟨#[]⟩, .bool false, .int .i64 (0)] 62)).heap[w.heap.size + 1]? = some (.cells #[.int .i64 0, .string ⟨#[]⟩, .string ⟨#[]⟩, .int .i64 0, .string ⟨#[]⟩, .int .i64 0, .bool false, .int .i64 0, .string ⟨#[]⟩, .slice none 0 0, .slice none 0 0, .slice none 0 0, .slice none 0 0, .slice none 0 0, .slice none 0 0, .int .i64 0, .string ⟨#[]⟩, .int .i64 0, .bool false, .int .i64 0, .string ⟨#[]⟩, .slice none 0 0, .slice none 0 0, .slice none 0 0, .slice none 0 0, .slice none 0 0, .bool false, .bool false, .string ⟨#[]⟩, .bool false, .int .i64 (0)] 62 (0, 0)) ∧ w0.heap[w.heap.size]? = some (.cells #[.int .i64 0, .string ⟨#[]⟩, .string ⟨#[]⟩, .int .i64 0, .string ⟨#[]⟩, .int .i64 0, .bool false, .int .i64 0, .string ⟨#[]⟩, .slice none 0 0, .slice none 0 0, .slice none 0 0, .slice none 0 0, .slice none 0 0, .slice none 0 0, .int .i64 0, .string ⟨#[]⟩, .int .i64 0, .bool false, .int .i64 0, .string ⟨#[]⟩, .slice none 0 0, .slice none 0 0, .slice none 0 0, .slice none 0 0, .slice none 0 0, .bool false, .bool false, .string ⟨#[]⟩, .bool false, .int .i64 (0)] 62 (0, 0)) ∧ S = (fun k => w.heap.size + 1 + 1 ≤ k)) := ⟨B0, hb0, ra, rz0, hS⟩
  have HE : Hid (Ev w0) := he.later hb0
  have HC : Hid (Sb S b p c ws (w.heap.size + 1) w0 w0 Sm.new s) := B0
  clear H ra hb0 rx0 rz0 B0 he hS
  go_enter Tryz.func54, Tryz.ntmps54
  have k0 := tookKey_no HC.out.ps hz [67, 82, 69, 65, 84, 69] n0
  go_wp2_with (first | (refine wpList_put rfl 62 (.tmp 3) (.tmp 4) rfl rfl rfl rfl HB0.out.2.2.1 rfl info30 (by simp [Value.oneCell']) ?_; rw [hw0]) | fail)
  refine k0.mono ?_
  rintro q w1 ⟨rfl, hP1, hO1⟩
  have HC1 : Hid (Sb S b p c ws (w.heap.size + 1) w0 w1 Sm.new s) := HC.out.calls hO1 hP1
  clear k0 hP1 hO1 HC
  have k1 := tookKey_no HC1.out.ps hz [73, 78, 83, 69, 82, 84] n1
  go_wp2_with fail
  refine k1.mono ?_
  rintro q w2 ⟨rfl, hP2, hO2⟩
  have HC2 : Hid (Sb S b p c ws (w.heap.size + 1) w0 w2 Sm.new s) := HC1.out.calls hO2 hP2
  clear k1 hP2 hO2 HC1
  have k2 := tookKey_no HC2.out.ps hz [85, 80, 68, 65, 84, 69] n2
  go_wp2_with fail
  refine k2.mono ?_
  rintro q w3 ⟨rfl, hP3, hO3⟩
  have HC3 : Hid (Sb S b p c ws (w.heap.size + 1) w0 w3 Sm.new s) := HC2.out.calls hO3 hP3
  clear k2 hP3 hO3 HC2
  have k3 := tookKey_no HC3.out.ps hz [68, 69, 76, 69, 84, 69] n3
  go_wp2_with fail
  refine k3.mono ?_
  rintro q w4 ⟨rfl, hP4, hO4⟩
  have HC4 : Hid (Sb S b p c ws (w.heap.size + 1) w0 w4 Sm.new s) := HC3.out.calls hO4 hP4
  clear k3 hP4 hO4 HC3
  have k4 := tookKey_no HC4.out.ps hz [83, 69, 76, 69, 67, 84] n4
  go_wp2_with fail
  refine k4.mono ?_
  rintro q w5 ⟨rfl, hP5, hO5⟩
  have HC5 : Hid (Sb S b p c ws (w.heap.size + 1) w0 w5 Sm.new s) := HC4.out.calls hO5 hP5
  clear k4 hP5 hO5 HC4
  have k5 := fail_any HC5.out.ps 120
  go_wp2_with fail
  refine k5.mono ?_
  rintro q w6 ⟨rfl, hP6, hO6⟩
  have HC6 : Hid (Sb S b p c ws (w.heap.size + 1) w0 w6 Sm.new (failP ws s 120)) := HC5.out.calls hO6 hP6
  clear k5 hP6 hO6 HC5
  have D := HC6.out
  clear HC6
  obtain ⟨R, hr, hx⟩ := D.row
  have hzr := (D.block w.heap.size (by omega) (by omega) (by omega)).trans HB0.out.2.2.2.1
  have hsz := D.size
  have HD : Hid (w6.heap[w.heap.size + 1]? = some (.cells (stA R) 62 (0, 0)) ∧ w6.heap[w.heap.size]? = some (.cells #[.int .i64 0, .string ⟨#[]⟩, .string ⟨#[]⟩, .int .i64 0, .string ⟨#[]⟩, .int .i64 0, .bool false, .int .i64 0, .string ⟨#[]⟩, .slice none 0 0, .slice none 0 0, .slice none 0 0, .slice none 0 0, .slice none 0 0, .slice none 0 0, .int .i64 0, .string ⟨#[]⟩, .int .i64 0, .bool false, .int .i64 0, .string ⟨#[]⟩, .slice none 0 0, .slice none 0 0, .slice none 0 0, .slice none 0 0, .slice none 0 0, .bool false, .bool false, .string ⟨#[]⟩, .bool false, .int .i64 (0)] 62 (0, 0)) ∧ (stA R).all (·.oneCell') = true ∧ Sx w6 S R (Sm.new, failP ws s 120).1 ∧ Sb S b p c ws (w.heap.size + 1) w0 w6 (Sm.new, failP ws s 120).1 (Sm.new, failP ws s 120).2) := ⟨hr, hzr, hx.ones, hx, D⟩
  obtain ⟨A, hA⟩ : ∃ A, stA R = A := ⟨_, rfl⟩
  have HA : Hid (stA R = A) := hA
  have h31 : Hid (A.size = 31) := by
    have h : A.size = 31 := by rw [← hA]; rfl
    exact h
  rw [hA] at HD
  clear D hr hx hzr hw0 hA
  go_wp2_with (first | (refine wpList_get rfl 62 (.tmp 3) rfl rfl HD.out.1 Tryz.underlying62 rfl (info30.trans (congrArg some h31.out.symm)) ?_; simp only [Act.put, List.setIfInBounds_toArray, List.set_cons_zero, List.set_cons_succ]) | (refine wpList_put rfl 62 (.tmp 2) (.tmp 32) rfl rfl rfl rfl HD.out.2.1 h31.out (info30.trans (congrArg some h31.out.symm)) HD.out.2.2.1 ?_) | fail)
  obtain ⟨hr, hzr, hon, hx, D⟩ := HD.out
  refine bodyPost_ret (results_cell_row Tryz.results54 _ _ w.heap.size 62 _ (0, 0) _ rfl (put_row A hzr h31.out) Tryz.underlying62 rfl (info30.trans (congrArg some h31.out.symm))) rfl ⟨R, by rw [HA.out], ?_, D.ps.put lb hold A, ?_, (g.fail hlt 120)⟩
  · rw [HB0.out.2.2.2.2] at hx
    exact (hx.since (Since.put (by omega) _ _)).imp fun k hk _ => by omega
  · have hO : Onl b w w6 := by
      have hb0 := HB0.out.2.1
      exact ⟨D.os.trans hb0.os, D.tape.trans hb0.tape, D.output.trans hb0.output, by omega, fun k hk kb => (D.block k (by omega) kb (by omega)).trans (hb0.block k hk)⟩
    exact hO.put _ (Nat.le_refl _) A
theorem statement_any {w : World} {b : Nat} {p : Option Addr} {c : Nat} {ws : List Wd} {s : PS} (H : Ps w b p c ws s) (hz : Wz ws) (hl : Wl ws) (g : Gd ws s) (ha : Wa ws) (he : Ev w) (hb2 : 2 < b) : Calls Tryz.prog 54 #[.pointer (some ⟨b, 0, none⟩)] w (GivesS ws w b p c (stmF ws s)) := by
  unfold stmF
  cases n0 : isP (wAt ws s.at') 2 [67, 82, 69, 65, 84, 69] with
  | true =>
    rw [if_pos rfl]
    exact statement_create H hz hl g ha he hb2  n0
  | false =>
    rw [if_neg Bool.false_ne_true]
    cases n1 : isP (wAt ws s.at') 2 [73, 78, 83, 69, 82, 84] with
    | true =>
      rw [if_pos rfl]
      exact statement_insert H hz hl g ha he hb2 n0 n1
    | false =>
      rw [if_neg Bool.false_ne_true]
      cases n2 : isP (wAt ws s.at') 2 [85, 80, 68, 65, 84, 69] with
      | true =>
        rw [if_pos rfl]
        exact statement_update H hz hl g ha he hb2 n0 n1 n2
      | false =>
        rw [if_neg Bool.false_ne_true]
        cases n3 : isP (wAt ws s.at') 2 [68, 69, 76, 69, 84, 69] with
        | true =>
          rw [if_pos rfl]
          exact statement_delete H hz hl g ha he hb2 n0 n1 n2 n3
        | false =>
          rw [if_neg Bool.false_ne_true]
          cases n4 : isP (wAt ws s.at') 2 [83, 69, 76, 69, 67, 84] with
          | true =>
            rw [if_pos rfl]
            exact statement_select H hz hl g ha he hb2 n0 n1 n2 n3 n4
          | false =>
            rw [if_neg Bool.false_ne_true]
            exact statement_none H hz hl g ha he hb2 n0 n1 n2 n3 n4
end Go.Proofs.YtfemippjaokcmaaGreatDoor
