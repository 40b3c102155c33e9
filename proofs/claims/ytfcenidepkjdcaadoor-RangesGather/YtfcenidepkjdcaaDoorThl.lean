/- Lists of touches, and whether one of them hits a look, or a set of looks (Set.Hit). -/
import Derived.Test.YtfcenidepkjdcaaDoorXda
import Derived.Test.YtfcenidepkjdcaaDoorAwk
namespace Go.Proofs.YtfcenidepkjdcaaDoor
open Go.RowKit Go.Shelf
attribute [local go_sem] Oper.semAt_some
structure Tc where
  tb : ByteArray
  sh : Bool
  T : V.Tr
  U : V.Tr
  was : Bool
  is : Bool
def Tc.good (x : Tc) : Prop := Good x.T ∧ Good x.U
def htB (r : Rd) (x : Tc) : Bool := hitB r.tb r.fl r.lo r.hi x.tb x.sh x.T x.U x.was x.is
/- A touch lies at a place, its documents in blocks of a kind. -/
def AtT (S : Nat → Prop) (w : World) (b o : Nat) (x : Tc) : Prop := ∃ A C, (∀ j u, (#[.string x.tb, .bool x.sh, .int .i64 x.T.k, .bool x.T.b, .int .i64 x.T.n, .string x.T.s, .slice A.pa x.T.m A.pc, .slice A.na x.T.q A.nc, .int .i64 x.U.k, .bool x.U.b, .int .i64 x.U.n, .string x.U.s, .slice C.pa x.U.m C.pc, .slice C.na x.U.q C.nc, .bool x.was, .bool x.is] : Array Value)[j]? = some u → w.cell? ⟨b, o + j, none⟩ = some u) ∧ V.LiesS S w x.T A ∧ V.LiesS S w x.U C
def Tl (w : World) (l : List Tc) (p : Option Addr) : Prop := 0 < l.length → ∃ b o, p = some ⟨b, o, none⟩ ∧ b < w.heap.size ∧ ∀ i x, l[i]? = some x → AtT (fun k => k < w.heap.size) w b (o + i * 16) x
theorem Tl.later {w w' : World} {l : List Tc} {p : Option Addr} (h : Tl w l p) (hb : Below w.heap.size w w') : Tl w' l p := fun h0 => by
  obtain ⟨b, o, e, h1, h2⟩ := h h0
  refine ⟨b, o, e, Nat.lt_of_lt_of_le h1 hb.size, fun i x hi => ?_⟩
  obtain ⟨A, C, k1, k2, k3⟩ := h2 i x hi
  exact ⟨A, C, fun j u hu => (World.cell?_of_block (a := ⟨b, o + i * 16 + j, none⟩) (hb.block b h1)).trans (k1 j u hu), lies_more k2 hb, lies_more k3 hb⟩
def fidt (p : Tc → Bool) : List Tc → Nat → Int
  | [], _ => -1
  | r :: l, i => if p r = true then (i : Int) else fidt p l (i + 1)
theorem fidt_any (p : Tc → Bool) : ∀ (l : List Tc) (i : Nat), decide (0 ≤ fidt p l i) = l.any p
  | [], _ => rfl
  | r :: l, i => by
    unfold fidt
    rw [List.any_cons]
    split
    · rename_i h; rw [h, decide_eq_true (by omega)]; rfl
    · rename_i h
      rw [fidt_any p l (i + 1), show p r = false by simpa using h]
      rfl
set_option maxRecDepth 100000 in
set_option maxHeartbeats 4000000 in
theorem hitc1 (r : Rd) (x : Tc) {A C : V.Ad} {zr : Nat} {w : World} (hr : At4 w zr 0 r) (hA : V.Lies w.heap.size w x.T A) (hC : V.Lies w.heap.size w x.U C) (hg : V.Gm w) (hG : x.good) :
    Calls Tryd.prog 34 #[.agg #[.string x.tb, .bool x.sh, .int .i64 x.T.k, .bool x.T.b, .int .i64 x.T.n, .string x.T.s, .slice A.pa x.T.m A.pc, .slice A.na x.T.q A.nc, .int .i64 x.U.k, .bool x.U.b, .int .i64 x.U.n, .string x.U.s, .slice C.pa x.U.m C.pc, .slice C.na x.U.q C.nc, .bool x.was, .bool x.is], .pointer (some ⟨zr, 0, none⟩)] w fun e w' => e = .returned (.bool (htB r x)) ∧ Below w.heap.size w w' := by
  obtain ⟨w1, hw1⟩ : ∃ w1, w.alloc (.cells #[.string x.tb, .bool x.sh, .int .i64 x.T.k, .bool x.T.b, .int .i64 x.T.n, .string x.T.s, .slice A.pa x.T.m A.pc, .slice A.na x.T.q A.nc, .int .i64 x.U.k, .bool x.U.b, .int .i64 x.U.n, .string x.U.s, .slice C.pa x.U.m C.pc, .slice C.na x.U.q C.nc, .bool x.was, .bool x.is] 31) = w1 := ⟨_, rfl⟩
  have hb1 : Below w.heap.size w w1 := by rw [← hw1]; exact (Below.refl _ w).alloc (Nat.le_refl _) _
  have r1 : w1.heap[w.heap.size]? = some (.cells #[.string x.tb, .bool x.sh, .int .i64 x.T.k, .bool x.T.b, .int .i64 x.T.n, .string x.T.s, .slice A.pa x.T.m A.pc, .slice A.na x.T.q A.nc, .int .i64 x.U.k, .bool x.U.b, .int .i64 x.U.n, .string x.U.s, .slice C.pa x.U.m C.pc, .slice C.na x.U.q C.nc, .bool x.was, .bool x.is] 31 (0, 0)) := by rw [← hw1]; exact heap_alloc_new _ _
  obtain ⟨a0, a1, a2, a3⟩ := hr.kept (hb1.block zr hr.lt)
  have kh : Calls Tryd.prog 9 #[.agg #[.string r.tb, .string r.fl, .string r.lo, .string r.hi], .agg #[.string x.tb, .bool x.sh, .int .i64 x.T.k, .bool x.T.b, .int .i64 x.T.n, .string x.T.s, .slice A.pa x.T.m A.pc, .slice A.na x.T.q A.nc, .int .i64 x.U.k, .bool x.U.b, .int .i64 x.U.n, .string x.U.s, .slice C.pa x.U.m C.pc, .slice C.na x.U.q C.nc, .bool x.was, .bool x.is]] w1 fun e w' => e = .returned (.bool (htB r x)) ∧ Below w1.heap.size w1 w' := hits_any r.tb r.fl r.lo r.hi x.tb x.sh x.T A x.U C x.was x.is (lies_more hA hb1) (lies_more hC hb1) (Nat.le_refl _) (hg.later hb1 hg.pos) hG.1 hG.2
  obtain ⟨H, hH⟩ : ∃ H, htB r x = H := ⟨_, rfl⟩
  rw [hH] at kh ⊢
  clear hH
  have c0 := cell_of_row w1 _ 0 _ _ _ r1
  have c1 := cell_of_row w1 _ 1 _ _ _ r1
  have c2 := cell_of_row w1 _ 2 _ _ _ r1
  have c3 := cell_of_row w1 _ 3 _ _ _ r1
  have c4 := cell_of_row w1 _ 4 _ _ _ r1
  have c5 := cell_of_row w1 _ 5 _ _ _ r1
  have c6 := cell_of_row w1 _ 6 _ _ _ r1
  have c7 := cell_of_row w1 _ 7 _ _ _ r1
  have c8 := cell_of_row w1 _ 8 _ _ _ r1
  have c9 := cell_of_row w1 _ 9 _ _ _ r1
  have c10 := cell_of_row w1 _ 10 _ _ _ r1
  have c11 := cell_of_row w1 _ 11 _ _ _ r1
  have c12 := cell_of_row w1 _ 12 _ _ _ r1
  have c13 := cell_of_row w1 _ 13 _ _ _ r1
  have c14 := cell_of_row w1 _ 14 _ _ _ r1
  have c15 := cell_of_row w1 _ 15 _ _ _ r1
  clear hr hA hC hg hG r1
  go_enter Tryd.func34, Tryd.ntmps34
  go_wp2_with fail
  refine kh.mono ?_
  rintro e W ⟨rfl, hb2⟩
  have hB := hb1.trans (hb2.mono hb1.size)
  clear kh hb2 hb1
  go_wp2
  go_ret
  exact ⟨rfl, hB⟩
set_option maxRecDepth 100000 in
set_option maxHeartbeats 4000000 in
theorem idt {w : World} {l : List Tc} {pa : Option Addr} {c : Nat} {zr : Nat} (r : Rd) (hr : At4 w zr 0 r) (hL : Tl w l pa) (hn : l.length ≤ maxLen) (hg : V.Gm w) (hG : ∀ x ∈ l, x.good) :
    Calls Tryd.prog 50 #[.slice pa l.length c, .func (.func 34) #[] #[.pointer (some ⟨zr, 0, none⟩)]] w fun e w' => e = .returned (.int .i64 (fidt (htB r) l 0)) ∧ Below w.heap.size w w' := by
  have kf : ∀ x W A C, x ∈ l → Below w.heap.size w W → V.Lies W.heap.size W x.T A → V.Lies W.heap.size W x.U C → Calls Tryd.prog 34 #[.agg #[.string x.tb, .bool x.sh, .int .i64 x.T.k, .bool x.T.b, .int .i64 x.T.n, .string x.T.s, .slice A.pa x.T.m A.pc, .slice A.na x.T.q A.nc, .int .i64 x.U.k, .bool x.U.b, .int .i64 x.U.n, .string x.U.s, .slice C.pa x.U.m C.pc, .slice C.na x.U.q C.nc, .bool x.was, .bool x.is], .pointer (some ⟨zr, 0, none⟩)] W fun e w' => e = .returned (.bool (htB r x)) ∧ Below W.heap.size W w' := fun x W A C hx hb hA hC => hitc1 r x (hr.kept (hb.block zr hr.lt)) hA hC (hg.later hb hg.pos) (hG x hx)
  obtain ⟨p, hp⟩ : ∃ p, htB r = p := ⟨_, rfl⟩
  rw [hp] at kf ⊢
  clear hp hG hg hr
  have hmax : (l.length : Int) ≤ 9223372036854775807 := by unfold maxLen at hn; omega
  obtain ⟨V, hV⟩ : ∃ V, fidt p l 0 = V := ⟨_, rfl⟩
  rw [hV]
  have HV : Hid (fidt p l 0 = V) := hV
  have HL : Hid (Tl w l pa) := hL
  obtain ⟨n, hnl⟩ : ∃ n, l.length = n := ⟨_, rfl⟩
  have HN : Hid (l.length = n) := hnl
  rw [hnl] at hmax ⊢
  clear hV hL hn hnl
  go_enter Tryd.func50, Tryd.ntmps50
  go_wp2_with fail
  go_loopw [8] (fun c8 wr => ∃ i : Nat, i ≤ n ∧ c8 = .int .i64 (i : Int) ∧ Hid (fidt p (l.drop i) i = V ∧ Below w.heap.size w wr)) (fun c8 _ => n - (intOf c8).toNat)
  case atStart =>
    refine ⟨0, by omega, rfl, ?_⟩
    have hh : fidt p (l.drop 0) 0 = V ∧ Below w.heap.size w w := ⟨HV.out, Below.refl _ _⟩
    exact hh
  case round =>
    obtain ⟨i, hi, rfl, hh⟩ := hrel
    obtain ⟨hv, hb⟩ := hh.out
    by_cases hiq : i < n
    · have hil : i < l.length := by rw [HN.out]; exact hiq
      obtain ⟨x, hx⟩ : ∃ x, l[i]? = some x := ⟨_, List.getElem?_eq_getElem hil⟩
      obtain ⟨b, o, rfl, hlt, hcs⟩ := HL.out.later hb (by omega)
      obtain ⟨A, C, hat, hA, hC⟩ := hcs i x hx
      have a0 : wr.cell? ⟨b, o + i * 16, none⟩ = _ := hat 0 _ rfl
      have a1 := hat 1 _ rfl
      have a2 := hat 2 _ rfl
      have a3 := hat 3 _ rfl
      have a4 := hat 4 _ rfl
      have a5 := hat 5 _ rfl
      have a6 := hat 6 _ rfl
      have a7 := hat 7 _ rfl
      have a8 := hat 8 _ rfl
      have a9 := hat 9 _ rfl
      have a10 := hat 10 _ rfl
      have a11 := hat 11 _ rfl
      have a12 := hat 12 _ rfl
      have a13 := hat 13 _ rfl
      have a14 := hat 14 _ rfl
      have a15 := hat 15 _ rfl
      have hiq' : (i : Int) < (n : Int) := by omega
      have hd : l.drop i = x :: l.drop (i + 1) := by
        rw [List.drop_eq_getElem_cons hil]
        congr 1
        exact (List.getElem?_eq_some_iff.1 hx).2
      have kr := kf x wr A C (List.mem_of_getElem? hx) hb hA hC
      have HD : Hid (l.drop i = x :: l.drop (i + 1) ∧ fidt p (l.drop i) i = V ∧ Below w.heap.size w wr) := ⟨hd, hv, hb⟩
      clear hd hv hb hh hx hcs hil hlt HV kf hat hA hC
      go_wp2_with fail
      refine kr.mono ?_
      rintro e W ⟨rfl, hb2⟩
      have HB : Hid (Below w.heap.size w W) := HD.out.2.2.trans (hb2.mono HD.out.2.2.size)
      clear kr hb2 a0 a1 a2 a3 a4 a5 a6 a7 a8 a9 a10 a11 a12 a13 a14 a15
      cases hp : p x with
      | true =>
        go_wp2
        go_ret
        refine ⟨?_, HB.out⟩
        rw [← HD.out.2.1, HD.out.1]
        unfold fidt
        rw [if_pos hp]
        rfl
      | false =>
        go_wp2
        go_roundw
        case rel =>
          refine ⟨i + 1, by omega, by go_num, ?_⟩
          have hh : fidt p (l.drop (i + 1)) (i + 1) = V ∧ Below w.heap.size w W := by
            refine ⟨?_, HB.out⟩
            rw [← HD.out.2.1, HD.out.1]
            rw [fidt, if_neg (by rw [hp]; exact Bool.false_ne_true)]
          exact hh
        case measure => simp [intOf]; omega
    · obtain rfl : i = n := by omega
      have hd : l.drop i = [] := by rw [← HN.out]; exact List.drop_length
      have HD : Hid (fidt p (l.drop i) i = V ∧ l.drop i = [] ∧ Below w.heap.size w wr) := ⟨hv, hd, hb⟩
      clear hd hv hb hh HV
      go_wp2
      go_ret
      refine ⟨?_, HD.out.2.2⟩
      rw [← HD.out.1, HD.out.2.1]
      rfl
set_option maxRecDepth 100000 in
set_option maxHeartbeats 4000000 in
theorem hast {w : World} {l : List Tc} {pa : Option Addr} {c : Nat} {zr : Nat} (r : Rd) (hr : At4 w zr 0 r) (hL : Tl w l pa) (hn : l.length ≤ maxLen) (hg : V.Gm w) (hG : ∀ x ∈ l, x.good) :
    Calls Tryd.prog 33 #[.slice pa l.length c, .func (.func 34) #[] #[.pointer (some ⟨zr, 0, none⟩)]] w fun e w' => e = .returned (.bool (l.any (htB r))) ∧ Below w.heap.size w w' := by
  have ki := idt (c := c) r hr hL hn hg hG
  rw [← fidt_any (htB r) l 0]
  obtain ⟨V, hV⟩ : ∃ V, fidt (htB r) l 0 = V := ⟨_, rfl⟩
  rw [hV] at ki ⊢
  clear hV hL hr hg hG
  go_enter Tryd.func33, Tryd.ntmps33
  go_wp2_with fail
  refine ki.mono ?_
  rintro e W ⟨rfl, hb2⟩
  go_wp2
  go_ret
  exact ⟨rfl, hb2⟩
set_option maxRecDepth 100000 in
set_option maxHeartbeats 4000000 in
theorem hitc2 {w : World} {l : List Tc} {pa : Option Addr} {c : Nat} {zl : Nat} (r : Rd) (hz : w.cell? ⟨zl, 0, none⟩ = some (.slice pa l.length c)) (hL : Tl w l pa) (hn : l.length ≤ maxLen) (hg : V.Gm w) (hG : ∀ x ∈ l, x.good) :
    Calls Tryd.prog 32 #[.agg #[.string r.tb, .string r.fl, .string r.lo, .string r.hi], .pointer (some ⟨zl, 0, none⟩)] w fun e w' => e = .returned (.bool (l.any (htB r))) ∧ Below w.heap.size w w' := by
  obtain ⟨w1, hw1⟩ : ∃ w1, w.alloc (.cells #[.string r.tb, .string r.fl, .string r.lo, .string r.hi] 25) = w1 := ⟨_, rfl⟩
  have hb1 : Below w.heap.size w w1 := by rw [← hw1]; exact (Below.refl _ w).alloc (Nat.le_refl _) _
  have r1 : w1.heap[w.heap.size]? = some (.cells #[.string r.tb, .string r.fl, .string r.lo, .string r.hi] 25 (0, 0)) := by rw [← hw1]; exact heap_alloc_new _ _
  have hz1 : w1.cell? ⟨zl, 0, none⟩ = some (.slice pa l.length c) := (World.cell?_of_block (a := ⟨zl, 0, none⟩) (hb1.block zl (World.block_lt_of_cell? w _ hz))).trans hz
  have ki := hast (c := c) r (at4_row r1) (hL.later hb1) hn (hg.later hb1 hg.pos) hG
  clear r1 hL hg hG hz hn
  go_enter Tryd.func32, Tryd.ntmps32
  go_wp2_with fail
  refine ki.mono ?_
  rintro e W ⟨rfl, hb2⟩
  have hB := hb1.trans (hb2.mono hb1.size)
  clear ki hb2 hb1
  go_wp2
  go_ret
  exact ⟨rfl, hB⟩
set_option maxRecDepth 100000 in
set_option maxHeartbeats 4000000 in
theorem hit_set {w : World} {base bs : Nat} {v : Value} {l : List Rd} {lt : List Tc} {pa : Option Addr} {c : Nat} (hS : St w base bs v l) (hL : Tl w lt pa) (hn : lt.length ≤ maxLen) (hg : V.Gm w) (hG : ∀ x ∈ lt, x.good) :
    Calls Tryd.prog 14 #[.pointer (some ⟨bs, 0, none⟩), .slice pa lt.length c] w fun e w' => e = .returned (.bool (l.any (fun r => lt.any (htB r)))) ∧ Below w.heap.size w w' := by
  obtain ⟨w1, hw1⟩ : ∃ w1, w.alloc (.cells #[.slice pa lt.length c] 37) = w1 := ⟨_, rfl⟩
  have hb1 : Below w.heap.size w w1 := by rw [← hw1]; exact (Below.refl _ w).alloc (Nat.le_refl _) _
  have r1 : w1.heap[w.heap.size]? = some (.cells #[.slice pa lt.length c] 37 (0, 0)) := by rw [← hw1]; exact heap_alloc_new _ _
  have s1 := hS.later hb1
  have hL1 := hL.later hb1
  have hg1 := hg.later hb1 hg.pos
  obtain ⟨pv, cv, hv, hLk, hmx⟩ := own_lk s1.own
  have ki := has_hit (c := cv) (zr := w.heap.size) (fun r => lt.any (htB r)) hLk hmx (fun r W _ hb => hitc2 (c := c) r ((World.cell?_of_block (a := ⟨w.heap.size, 0, none⟩) (hb.block _ (lt_of_row r1))).trans (cell_of_row w1 _ 0 _ _ _ r1)) (hL1.later hb) hn (hg1.later hb hg1.pos) hG)
  have c0 := cell_of_row w1 _ 0 _ _ _ s1.row
  rw [hv] at c0
  obtain ⟨X, hX⟩ : ∃ X, l.any (fun r => lt.any (htB r)) = X := ⟨_, rfl⟩
  rw [hX] at ki ⊢
  clear hX r1 hL hg hG hn hS s1 hL1 hg1 hLk hmx hv
  go_enter Tryd.func14, Tryd.ntmps14
  go_wp2_with fail
  refine ki.mono ?_
  rintro e W ⟨rfl, hb2⟩
  have hB := hb1.trans (hb2.mono hb1.size)
  clear ki hb2 hb1
  go_wp2
  go_ret
  exact ⟨rfl, hB⟩
end Go.Proofs.YtfcenidepkjdcaaDoor
