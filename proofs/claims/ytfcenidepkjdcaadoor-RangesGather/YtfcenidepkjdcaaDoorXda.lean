/- Lists of looks: what lies there (Lk), the closures that are asked of each, the first place (slices.IndexFunc), whether there is one (slices.ContainsFunc). Rows of looks: plain facts, what is stored into one of them, and what is cleared. Looks of one table, taken out of a list of one's own (slices.DeleteFunc). A set of looks in memory (St), and what a look that is added leaves of it, plain. -/
import Derived.Test.YtfcenidepkjdcaaDoorXan
import Derived.Maps.AppendAt
import Derived.Deep.AppendLies
namespace Go.Proofs.YtfcenidepkjdcaaDoor
open Go.RowKit Go.Shelf
attribute [local go_sem] Oper.semAt_some
set_option maxRecDepth 100000 in
set_option maxHeartbeats 4000000 in
theorem eql23 (a b c d : ByteArray) (w : World) : (Op.equalIn 10000 23 (.agg #[.string a, .string b]) (.agg #[.string c, .string d])).run Tryd.prog w = .ok ((a.toList == c.toList) && (b.toList == d.toList)) w := by
  have u3 := Tryd.underlying9
  have a3 := Tryd.isAgg9
  have z3 := Tryd.sizeOf9
  rw [show (10000 : Nat) = 9999 + 1 from rfl, Op.equalIn]
  simp only [Sem.run_bind, run_underlying Tryd.underlying23, Result.andThen_ok]
  go_simp
  by_cases h1 : a.toList = c.toList <;> by_cases h2 : b.toList = d.toList <;> simp [h1, h2]
set_option maxRecDepth 100000 in
set_option maxHeartbeats 4000000 in
theorem eql25 (a b c d a2 b2 c2 d2 : ByteArray) (w : World) : (Op.equalIn 10000 25 (.agg #[.string a, .string b, .string c, .string d]) (.agg #[.string a2, .string b2, .string c2, .string d2])).run Tryd.prog w = .ok ((a.toList == a2.toList) && ((b.toList == b2.toList) && ((c.toList == c2.toList) && (d.toList == d2.toList)))) w := by
  have u3 := Tryd.underlying9
  have a3 := Tryd.isAgg9
  have z3 := Tryd.sizeOf9
  have u4 := Tryd.underlying23
  have a4 := Tryd.isAgg23
  have z4 := Tryd.sizeOf23
  rw [show (10000 : Nat) = 9999 + 1 from rfl, Op.equalIn]
  simp only [Sem.run_bind, run_underlying Tryd.underlying25, Result.andThen_ok]
  go_simp
  by_cases h1 : a.toList = a2.toList <;> by_cases h2 : b.toList = b2.toList <;> by_cases h3 : c.toList = c2.toList <;> by_cases h4 : d.toList = d2.toList <;> simp [h1, h2, h3, h4]
attribute [local go_sem] eql23 eql25
structure Rd where
  tb : ByteArray
  fl : ByteArray
  lo : ByteArray
  hi : ByteArray
def Rd.cs (r : Rd) : List Value := [.string r.tb, .string r.fl, .string r.lo, .string r.hi]
def Rd.eq (r s : Rd) : Bool := (r.tb.toList == s.tb.toList) && ((r.fl.toList == s.fl.toList) && ((r.lo.toList == s.lo.toList) && (r.hi.toList == s.hi.toList)))
def At4 (w : World) (b o : Nat) (r : Rd) : Prop := w.cell? ⟨b, o, none⟩ = some (.string r.tb) ∧ w.cell? ⟨b, o + 1, none⟩ = some (.string r.fl) ∧ w.cell? ⟨b, o + 2, none⟩ = some (.string r.lo) ∧ w.cell? ⟨b, o + 3, none⟩ = some (.string r.hi)
def Lk (w : World) (l : List Rd) (p : Option Addr) : Prop := 0 < l.length → ∃ b o, p = some ⟨b, o, none⟩ ∧ b < w.heap.size ∧ ∀ i r, l[i]? = some r → At4 w b (o + i * 4) r
theorem At4.kept {w w' : World} {b o : Nat} {r : Rd} (h : At4 w b o r) (hb : w'.heap[b]? = w.heap[b]?) : At4 w' b o r :=
  ⟨(World.cell?_of_block hb).trans h.1, (World.cell?_of_block hb).trans h.2.1, (World.cell?_of_block hb).trans h.2.2.1, (World.cell?_of_block hb).trans h.2.2.2⟩
theorem At4.lt {w : World} {b o : Nat} {r : Rd} (h : At4 w b o r) : b < w.heap.size := World.block_lt_of_cell? w _ h.1
theorem Lk.later {w w' : World} {l : List Rd} {p : Option Addr} (h : Lk w l p) (hb : Below w.heap.size w w') : Lk w' l p := fun h0 => by
  obtain ⟨b, o, e, h1, h2⟩ := h h0
  exact ⟨b, o, e, Nat.lt_of_lt_of_le h1 hb.size, fun i r hi => (h2 i r hi).kept (hb.block b h1)⟩
def fidx (p : Rd → Bool) : List Rd → Nat → Int
  | [], _ => -1
  | r :: l, i => if p r = true then (i : Int) else fidx p l (i + 1)
theorem fidx_any (p : Rd → Bool) : ∀ (l : List Rd) (i : Nat), decide (0 ≤ fidx p l i) = l.any p
  | [], _ => rfl
  | r :: l, i => by
    unfold fidx
    rw [List.any_cons]
    split
    · rename_i h; rw [h, decide_eq_true (by omega)]; rfl
    · rename_i h
      rw [fidx_any p l (i + 1), show p r = false by simpa using h]
      rfl
set_option maxRecDepth 100000 in
set_option maxHeartbeats 4000000 in
theorem same_any (l r s : Rd) (zr zs : Nat) (w : World) (hr : At4 w zr 0 r) (hs : At4 w zs 0 s) :
    Calls Tryd.prog 28 #[.agg #[.string l.tb, .string l.fl, .string l.lo, .string l.hi], .pointer (some ⟨zr, 0, none⟩), .pointer (some ⟨zs, 0, none⟩)] w fun e w' => e = .returned (.bool (l.eq r || l.eq s)) ∧ Below w.heap.size w w' := by
  obtain ⟨w1, hw1⟩ : ∃ w1, w.alloc (.cells #[.string l.tb, .string l.fl, .string l.lo, .string l.hi] 25) = w1 := ⟨_, rfl⟩
  have hb1 : Below w.heap.size w w1 := by rw [← hw1]; exact (Below.refl _ w).alloc (Nat.le_refl _) _
  have r1 : w1.heap[w.heap.size]? = some (.cells #[.string l.tb, .string l.fl, .string l.lo, .string l.hi] 25 (0, 0)) := by rw [← hw1]; exact heap_alloc_new _ _
  obtain ⟨a0, a1, a2, a3⟩ := hr.kept (hb1.block zr hr.lt)
  obtain ⟨b0, b1, b2, b3⟩ := hs.kept (hb1.block zs hs.lt)
  have c0 := cell_of_row w1 _ 0 _ _ _ r1
  have c1 := cell_of_row w1 _ 1 _ _ _ r1
  have c2 := cell_of_row w1 _ 2 _ _ _ r1
  have c3 := cell_of_row w1 _ 3 _ _ _ r1
  clear hr hs r1
  obtain ⟨x1, hx1⟩ : ∃ x, ((l.tb.toList == r.tb.toList) && ((l.fl.toList == r.fl.toList) && ((l.lo.toList == r.lo.toList) && (l.hi.toList == r.hi.toList)))) = x := ⟨_, rfl⟩
  obtain ⟨x2, hx2⟩ : ∃ x, ((l.tb.toList == s.tb.toList) && ((l.fl.toList == s.fl.toList) && ((l.lo.toList == s.lo.toList) && (l.hi.toList == s.hi.toList)))) = x := ⟨_, rfl⟩
  have e1 := fun w => eql25 l.tb l.fl l.lo l.hi r.tb r.fl r.lo r.hi w
  have e2 := fun w => eql25 l.tb l.fl l.lo l.hi s.tb s.fl s.lo s.hi w
  unfold Rd.eq
  rw [hx1] at e1 ⊢
  rw [hx2] at e2 ⊢
  clear hx1 hx2
  cases x1 <;> cases x2
  all_goals
    go_enter Tryd.func28, Tryd.ntmps28
    go_wp2
    go_ret
    exact ⟨rfl, hb1⟩
set_option maxRecDepth 100000 in
set_option maxHeartbeats 4000000 in
theorem table_any (l r : Rd) (zr : Nat) (w : World) (hr : At4 w zr 0 r) :
    Calls Tryd.prog 30 #[.agg #[.string l.tb, .string l.fl, .string l.lo, .string l.hi], .pointer (some ⟨zr, 0, none⟩)] w fun e w' => e = .returned (.bool (l.tb.toList == r.tb.toList)) ∧ Below w.heap.size w w' := by
  obtain ⟨w1, hw1⟩ : ∃ w1, w.alloc (.cells #[.string l.tb, .string l.fl, .string l.lo, .string l.hi] 25) = w1 := ⟨_, rfl⟩
  have hb1 : Below w.heap.size w w1 := by rw [← hw1]; exact (Below.refl _ w).alloc (Nat.le_refl _) _
  have r1 : w1.heap[w.heap.size]? = some (.cells #[.string l.tb, .string l.fl, .string l.lo, .string l.hi] 25 (0, 0)) := by rw [← hw1]; exact heap_alloc_new _ _
  obtain ⟨a0, a1, a2, a3⟩ := hr.kept (hb1.block zr hr.lt)
  have c0 := cell_of_row w1 _ 0 _ _ _ r1
  clear hr r1
  go_enter Tryd.func30, Tryd.ntmps30
  go_wp2
  go_ret
  exact ⟨rfl, hb1⟩
set_option maxRecDepth 100000 in
set_option maxHeartbeats 4000000 in
theorem idx_same {w : World} {l : List Rd} {pa : Option Addr} {c : Nat} {zr zs : Nat} (p : Rd → Bool) (hL : Lk w l pa) (hn : l.length ≤ maxLen)
    (kf : ∀ r W, r ∈ l → Below w.heap.size w W → Calls Tryd.prog 28 #[.agg #[.string r.tb, .string r.fl, .string r.lo, .string r.hi], .pointer (some ⟨zr, 0, none⟩), .pointer (some ⟨zs, 0, none⟩)] W fun e w' => e = .returned (.bool (p r)) ∧ Below W.heap.size W w') :
    Calls Tryd.prog 49 #[.slice pa l.length c, .func (.func 28) #[] #[.pointer (some ⟨zr, 0, none⟩), .pointer (some ⟨zs, 0, none⟩)]] w fun e w' => e = .returned (.int .i64 (fidx p l 0)) ∧ Below w.heap.size w w' := by
  have hmax : (l.length : Int) ≤ 9223372036854775807 := by unfold maxLen at hn; omega
  obtain ⟨V, hV⟩ : ∃ V, fidx p l 0 = V := ⟨_, rfl⟩
  rw [hV]
  have HV : Hid (fidx p l 0 = V) := hV
  have HL : Hid (Lk w l pa) := hL
  obtain ⟨n, hnl⟩ : ∃ n, l.length = n := ⟨_, rfl⟩
  have HN : Hid (l.length = n) := hnl
  rw [hnl] at hmax ⊢
  clear hV hL hn hnl
  go_enter Tryd.func49, Tryd.ntmps49
  go_wp2_with fail
  go_loopw [8] (fun c8 wr => ∃ i : Nat, i ≤ n ∧ c8 = .int .i64 (i : Int) ∧ Hid (fidx p (l.drop i) i = V ∧ Below w.heap.size w wr)) (fun c8 _ => n - (intOf c8).toNat)
  case atStart =>
    refine ⟨0, by omega, rfl, ?_⟩
    have hh : fidx p (l.drop 0) 0 = V ∧ Below w.heap.size w w := ⟨HV.out, Below.refl _ _⟩
    exact hh
  case round =>
    obtain ⟨i, hi, rfl, hh⟩ := hrel
    obtain ⟨hv, hb⟩ := hh.out
    by_cases hiq : i < n
    · have hil : i < l.length := by rw [HN.out]; exact hiq
      obtain ⟨r, hr⟩ : ∃ r, l[i]? = some r := ⟨_, List.getElem?_eq_getElem hil⟩
      obtain ⟨b, o, rfl, hlt, hcs⟩ := HL.out (by omega)
      obtain ⟨a0, a1, a2, a3⟩ := (hcs i r hr).kept (hb.block b hlt)
      have hiq' : (i : Int) < (n : Int) := by omega
      have hd : l.drop i = r :: l.drop (i + 1) := by
        rw [List.drop_eq_getElem_cons hil]
        congr 1
        exact (List.getElem?_eq_some_iff.1 hr).2
      have kr := kf r wr (List.mem_of_getElem? hr) hb
      have HD : Hid (l.drop i = r :: l.drop (i + 1) ∧ fidx p (l.drop i) i = V ∧ Below w.heap.size w wr) := ⟨hd, hv, hb⟩
      clear hd hv hb hh hr hcs hil hlt HV kf
      go_wp2_with fail
      refine kr.mono ?_
      rintro e W ⟨rfl, hb2⟩
      have HB : Hid (Below w.heap.size w W) := HD.out.2.2.trans (hb2.mono HD.out.2.2.size)
      clear kr hb2
      cases hp : p r with
      | true =>
        go_wp2
        go_ret
        refine ⟨?_, HB.out⟩
        rw [← HD.out.2.1, HD.out.1]
        unfold fidx
        rw [if_pos hp]
        rfl
      | false =>
        go_wp2
        go_roundw
        case rel =>
          refine ⟨i + 1, by omega, by go_num, ?_⟩
          have hh : fidx p (l.drop (i + 1)) (i + 1) = V ∧ Below w.heap.size w W := by
            refine ⟨?_, HB.out⟩
            rw [← HD.out.2.1, HD.out.1]
            rw [fidx, if_neg (by rw [hp]; exact Bool.false_ne_true)]
          exact hh
        case measure => simp [intOf]; omega
    · obtain rfl : i = n := by omega
      have hd : l.drop i = [] := by rw [← HN.out]; exact List.drop_length
      have HD : Hid (fidx p (l.drop i) i = V ∧ l.drop i = [] ∧ Below w.heap.size w wr) := ⟨hv, hd, hb⟩
      clear hd hv hb hh HV
      go_wp2
      go_ret
      refine ⟨?_, HD.out.2.2⟩
      rw [← HD.out.1, HD.out.2.1]
      rfl
set_option maxRecDepth 100000 in
set_option maxHeartbeats 4000000 in
theorem has_same {w : World} {l : List Rd} {pa : Option Addr} {c : Nat} {zr zs : Nat} (p : Rd → Bool) (hL : Lk w l pa) (hn : l.length ≤ maxLen)
    (kf : ∀ r W, r ∈ l → Below w.heap.size w W → Calls Tryd.prog 28 #[.agg #[.string r.tb, .string r.fl, .string r.lo, .string r.hi], .pointer (some ⟨zr, 0, none⟩), .pointer (some ⟨zs, 0, none⟩)] W fun e w' => e = .returned (.bool (p r)) ∧ Below W.heap.size W w') :
    Calls Tryd.prog 27 #[.slice pa l.length c, .func (.func 28) #[] #[.pointer (some ⟨zr, 0, none⟩), .pointer (some ⟨zs, 0, none⟩)]] w fun e w' => e = .returned (.bool (l.any p)) ∧ Below w.heap.size w w' := by
  have ki := idx_same (c := c) p hL hn kf
  rw [← fidx_any p l 0]
  obtain ⟨V, hV⟩ : ∃ V, fidx p l 0 = V := ⟨_, rfl⟩
  rw [hV] at ki ⊢
  clear hV hL kf
  go_enter Tryd.func27, Tryd.ntmps27
  go_wp2_with fail
  refine ki.mono ?_
  rintro e W ⟨rfl, hb2⟩
  go_wp2
  go_ret
  exact ⟨rfl, hb2⟩
set_option maxRecDepth 100000 in
set_option maxHeartbeats 4000000 in
theorem idx_table {w : World} {l : List Rd} {pa : Option Addr} {c : Nat} {zr : Nat} (p : Rd → Bool) (hL : Lk w l pa) (hn : l.length ≤ maxLen)
    (kf : ∀ r W, r ∈ l → Below w.heap.size w W → Calls Tryd.prog 30 #[.agg #[.string r.tb, .string r.fl, .string r.lo, .string r.hi], .pointer (some ⟨zr, 0, none⟩)] W fun e w' => e = .returned (.bool (p r)) ∧ Below W.heap.size W w') :
    Calls Tryd.prog 49 #[.slice pa l.length c, .func (.func 30) #[] #[.pointer (some ⟨zr, 0, none⟩)]] w fun e w' => e = .returned (.int .i64 (fidx p l 0)) ∧ Below w.heap.size w w' := by
  have hmax : (l.length : Int) ≤ 9223372036854775807 := by unfold maxLen at hn; omega
  obtain ⟨V, hV⟩ : ∃ V, fidx p l 0 = V := ⟨_, rfl⟩
  rw [hV]
  have HV : Hid (fidx p l 0 = V) := hV
  have HL : Hid (Lk w l pa) := hL
  obtain ⟨n, hnl⟩ : ∃ n, l.length = n := ⟨_, rfl⟩
  have HN : Hid (l.length = n) := hnl
  rw [hnl] at hmax ⊢
  clear hV hL hn hnl
  go_enter Tryd.func49, Tryd.ntmps49
  go_wp2_with fail
  go_loopw [8] (fun c8 wr => ∃ i : Nat, i ≤ n ∧ c8 = .int .i64 (i : Int) ∧ Hid (fidx p (l.drop i) i = V ∧ Below w.heap.size w wr)) (fun c8 _ => n - (intOf c8).toNat)
  case atStart =>
    refine ⟨0, by omega, rfl, ?_⟩
    have hh : fidx p (l.drop 0) 0 = V ∧ Below w.heap.size w w := ⟨HV.out, Below.refl _ _⟩
    exact hh
  case round =>
    obtain ⟨i, hi, rfl, hh⟩ := hrel
    obtain ⟨hv, hb⟩ := hh.out
    by_cases hiq : i < n
    · have hil : i < l.length := by rw [HN.out]; exact hiq
      obtain ⟨r, hr⟩ : ∃ r, l[i]? = some r := ⟨_, List.getElem?_eq_getElem hil⟩
      obtain ⟨b, o, rfl, hlt, hcs⟩ := HL.out (by omega)
      obtain ⟨a0, a1, a2, a3⟩ := (hcs i r hr).kept (hb.block b hlt)
      have hiq' : (i : Int) < (n : Int) := by omega
      have hd : l.drop i = r :: l.drop (i + 1) := by
        rw [List.drop_eq_getElem_cons hil]
        congr 1
        exact (List.getElem?_eq_some_iff.1 hr).2
      have kr := kf r wr (List.mem_of_getElem? hr) hb
      have HD : Hid (l.drop i = r :: l.drop (i + 1) ∧ fidx p (l.drop i) i = V ∧ Below w.heap.size w wr) := ⟨hd, hv, hb⟩
      clear hd hv hb hh hr hcs hil hlt HV kf
      go_wp2_with fail
      refine kr.mono ?_
      rintro e W ⟨rfl, hb2⟩
      have HB : Hid (Below w.heap.size w W) := HD.out.2.2.trans (hb2.mono HD.out.2.2.size)
      clear kr hb2
      cases hp : p r with
      | true =>
        go_wp2
        go_ret
        refine ⟨?_, HB.out⟩
        rw [← HD.out.2.1, HD.out.1]
        unfold fidx
        rw [if_pos hp]
        rfl
      | false =>
        go_wp2
        go_roundw
        case rel =>
          refine ⟨i + 1, by omega, by go_num, ?_⟩
          have hh : fidx p (l.drop (i + 1)) (i + 1) = V ∧ Below w.heap.size w W := by
            refine ⟨?_, HB.out⟩
            rw [← HD.out.2.1, HD.out.1]
            rw [fidx, if_neg (by rw [hp]; exact Bool.false_ne_true)]
          exact hh
        case measure => simp [intOf]; omega
    · obtain rfl : i = n := by omega
      have hd : l.drop i = [] := by rw [← HN.out]; exact List.drop_length
      have HD : Hid (fidx p (l.drop i) i = V ∧ l.drop i = [] ∧ Below w.heap.size w wr) := ⟨hv, hd, hb⟩
      clear hd hv hb hh HV
      go_wp2
      go_ret
      refine ⟨?_, HD.out.2.2⟩
      rw [← HD.out.1, HD.out.2.1]
      rfl
set_option maxRecDepth 100000 in
set_option maxHeartbeats 4000000 in
theorem has_table {w : World} {l : List Rd} {pa : Option Addr} {c : Nat} {zr : Nat} (p : Rd → Bool) (hL : Lk w l pa) (hn : l.length ≤ maxLen)
    (kf : ∀ r W, r ∈ l → Below w.heap.size w W → Calls Tryd.prog 30 #[.agg #[.string r.tb, .string r.fl, .string r.lo, .string r.hi], .pointer (some ⟨zr, 0, none⟩)] W fun e w' => e = .returned (.bool (p r)) ∧ Below W.heap.size W w') :
    Calls Tryd.prog 27 #[.slice pa l.length c, .func (.func 30) #[] #[.pointer (some ⟨zr, 0, none⟩)]] w fun e w' => e = .returned (.bool (l.any p)) ∧ Below w.heap.size w w' := by
  have ki := idx_table (c := c) p hL hn kf
  rw [← fidx_any p l 0]
  obtain ⟨V, hV⟩ : ∃ V, fidx p l 0 = V := ⟨_, rfl⟩
  rw [hV] at ki ⊢
  clear hV hL kf
  go_enter Tryd.func27, Tryd.ntmps27
  go_wp2_with fail
  refine ki.mono ?_
  rintro e W ⟨rfl, hb2⟩
  go_wp2
  go_ret
  exact ⟨rfl, hb2⟩
set_option maxRecDepth 100000 in
set_option maxHeartbeats 4000000 in
theorem idx_hit {w : World} {l : List Rd} {pa : Option Addr} {c : Nat} {zr : Nat} (p : Rd → Bool) (hL : Lk w l pa) (hn : l.length ≤ maxLen)
    (kf : ∀ r W, r ∈ l → Below w.heap.size w W → Calls Tryd.prog 32 #[.agg #[.string r.tb, .string r.fl, .string r.lo, .string r.hi], .pointer (some ⟨zr, 0, none⟩)] W fun e w' => e = .returned (.bool (p r)) ∧ Below W.heap.size W w') :
    Calls Tryd.prog 49 #[.slice pa l.length c, .func (.func 32) #[] #[.pointer (some ⟨zr, 0, none⟩)]] w fun e w' => e = .returned (.int .i64 (fidx p l 0)) ∧ Below w.heap.size w w' := by
  have hmax : (l.length : Int) ≤ 9223372036854775807 := by unfold maxLen at hn; omega
  obtain ⟨V, hV⟩ : ∃ V, fidx p l 0 = V := ⟨_, rfl⟩
  rw [hV]
  have HV : Hid (fidx p l 0 = V) := hV
  have HL : Hid (Lk w l pa) := hL
  obtain ⟨n, hnl⟩ : ∃ n, l.length = n := ⟨_, rfl⟩
  have HN : Hid (l.length = n) := hnl
  rw [hnl] at hmax ⊢
  clear hV hL hn hnl
  go_enter Tryd.func49, Tryd.ntmps49
  go_wp2_with fail
  go_loopw [8] (fun c8 wr => ∃ i : Nat, i ≤ n ∧ c8 = .int .i64 (i : Int) ∧ Hid (fidx p (l.drop i) i = V ∧ Below w.heap.size w wr)) (fun c8 _ => n - (intOf c8).toNat)
  case atStart =>
    refine ⟨0, by omega, rfl, ?_⟩
    have hh : fidx p (l.drop 0) 0 = V ∧ Below w.heap.size w w := ⟨HV.out, Below.refl _ _⟩
    exact hh
  case round =>
    obtain ⟨i, hi, rfl, hh⟩ := hrel
    obtain ⟨hv, hb⟩ := hh.out
    by_cases hiq : i < n
    · have hil : i < l.length := by rw [HN.out]; exact hiq
      obtain ⟨r, hr⟩ : ∃ r, l[i]? = some r := ⟨_, List.getElem?_eq_getElem hil⟩
      obtain ⟨b, o, rfl, hlt, hcs⟩ := HL.out (by omega)
      obtain ⟨a0, a1, a2, a3⟩ := (hcs i r hr).kept (hb.block b hlt)
      have hiq' : (i : Int) < (n : Int) := by omega
      have hd : l.drop i = r :: l.drop (i + 1) := by
        rw [List.drop_eq_getElem_cons hil]
        congr 1
        exact (List.getElem?_eq_some_iff.1 hr).2
      have kr := kf r wr (List.mem_of_getElem? hr) hb
      have HD : Hid (l.drop i = r :: l.drop (i + 1) ∧ fidx p (l.drop i) i = V ∧ Below w.heap.size w wr) := ⟨hd, hv, hb⟩
      clear hd hv hb hh hr hcs hil hlt HV kf
      go_wp2_with fail
      refine kr.mono ?_
      rintro e W ⟨rfl, hb2⟩
      have HB : Hid (Below w.heap.size w W) := HD.out.2.2.trans (hb2.mono HD.out.2.2.size)
      clear kr hb2
      cases hp : p r with
      | true =>
        go_wp2
        go_ret
        refine ⟨?_, HB.out⟩
        rw [← HD.out.2.1, HD.out.1]
        unfold fidx
        rw [if_pos hp]
        rfl
      | false =>
        go_wp2
        go_roundw
        case rel =>
          refine ⟨i + 1, by omega, by go_num, ?_⟩
          have hh : fidx p (l.drop (i + 1)) (i + 1) = V ∧ Below w.heap.size w W := by
            refine ⟨?_, HB.out⟩
            rw [← HD.out.2.1, HD.out.1]
            rw [fidx, if_neg (by rw [hp]; exact Bool.false_ne_true)]
          exact hh
        case measure => simp [intOf]; omega
    · obtain rfl : i = n := by omega
      have hd : l.drop i = [] := by rw [← HN.out]; exact List.drop_length
      have HD : Hid (fidx p (l.drop i) i = V ∧ l.drop i = [] ∧ Below w.heap.size w wr) := ⟨hv, hd, hb⟩
      clear hd hv hb hh HV
      go_wp2
      go_ret
      refine ⟨?_, HD.out.2.2⟩
      rw [← HD.out.1, HD.out.2.1]
      rfl
set_option maxRecDepth 100000 in
set_option maxHeartbeats 4000000 in
theorem has_hit {w : World} {l : List Rd} {pa : Option Addr} {c : Nat} {zr : Nat} (p : Rd → Bool) (hL : Lk w l pa) (hn : l.length ≤ maxLen)
    (kf : ∀ r W, r ∈ l → Below w.heap.size w W → Calls Tryd.prog 32 #[.agg #[.string r.tb, .string r.fl, .string r.lo, .string r.hi], .pointer (some ⟨zr, 0, none⟩)] W fun e w' => e = .returned (.bool (p r)) ∧ Below W.heap.size W w') :
    Calls Tryd.prog 27 #[.slice pa l.length c, .func (.func 32) #[] #[.pointer (some ⟨zr, 0, none⟩)]] w fun e w' => e = .returned (.bool (l.any p)) ∧ Below w.heap.size w w' := by
  have ki := idx_hit (c := c) p hL hn kf
  rw [← fidx_any p l 0]
  obtain ⟨V, hV⟩ : ∃ V, fidx p l 0 = V := ⟨_, rfl⟩
  rw [hV] at ki ⊢
  clear hV hL kf
  go_enter Tryd.func27, Tryd.ntmps27
  go_wp2_with fail
  refine ki.mono ?_
  rintro e W ⟨rfl, hb2⟩
  go_wp2
  go_ret
  exact ⟨rfl, hb2⟩
end Go.Proofs.YtfcenidepkjdcaaDoor
namespace Go.Proofs.YtfcenidepkjdcaaDoor
open Go.RowKit Go.Shelf
def rows (l : List Rd) : List Value := l.flatMap Rd.cs
theorem rows_cons (r : Rd) (l : List Rd) : rows (r :: l) = r.cs ++ rows l := rfl
theorem rows_app (l m : List Rd) : rows (l ++ m) = rows l ++ rows m := List.flatMap_append
theorem rows_len : ∀ l : List Rd, (rows l).length = l.length * 4
  | [] => rfl
  | r :: l => by
    rw [rows_cons, List.length_append, rows_len l, List.length_cons]
    show 4 + _ = _
    omega
theorem rows_take : ∀ (l : List Rd) (i : Nat) (t : List Value), i ≤ l.length → (rows l ++ t).take (i * 4) = rows (l.take i)
  | l, 0, t, _ => by simp [rows]
  | [], i + 1, t, h => by simp at h
  | r :: l, i + 1, t, h => by
    rw [rows_cons, List.append_assoc, show (i + 1) * 4 = r.cs.length + i * 4 by show _ = 4 + _; omega, List.take_length_add_append, rows_take l i t (by simpa using h)]
    rfl
theorem rows_drop : ∀ (l : List Rd) (i : Nat) (t : List Value), i ≤ l.length → (rows l ++ t).drop (i * 4) = rows (l.drop i) ++ t
  | l, 0, t, _ => by simp
  | [], i + 1, t, h => by simp at h
  | r :: l, i + 1, t, h => by
    rw [rows_cons, List.append_assoc, show (i + 1) * 4 = r.cs.length + i * 4 by show _ = 4 + _; omega, List.drop_length_add_append, rows_drop l i t (by simpa using h)]
    rfl
theorem rows_at (l : List Rd) (t : List Value) (i : Nat) (r : Rd) (h : l[i]? = some r) (j : Nat) (hj : j < 4) : (rows l ++ t)[i * 4 + j]? = r.cs[j]? := by
  have hl := (List.getElem?_eq_some_iff.1 h).1
  have e := rows_drop l i t (by omega)
  have : (rows l ++ t)[i * 4 + j]? = ((rows l ++ t).drop (i * 4))[j]? := by rw [List.getElem?_drop]
  rw [this, e, List.drop_eq_getElem_cons hl, rows_cons, List.append_assoc, List.getElem?_append_left (by show j < 4; exact hj), (List.getElem?_eq_some_iff.1 h).2]
theorem rows_set (l : List Rd) (t : List Value) (i : Nat) (r : Rd) (h : i < l.length) : (rows l ++ t).take (i * 4) ++ r.cs ++ (rows l ++ t).drop (i * 4 + 4) = rows (l.set i r) ++ t := by
  rw [rows_take l i t (by omega), show i * 4 + 4 = (i + 1) * 4 by omega, rows_drop l (i + 1) t (by omega), List.set_eq_take_append_cons_drop, if_pos h, rows_app, rows_cons]
  simp
theorem rows_one (l : List Rd) : ∀ u ∈ rows l, u.oneCell' = true := by
  intro u hu
  obtain ⟨r, -, h⟩ := List.mem_flatMap.1 hu
  simp only [Rd.cs, List.mem_cons, List.not_mem_nil, or_false] at h
  rcases h with rfl | rfl | rfl | rfl <;> rfl
/- A row of looks in memory. -/
theorem at4_of {W : World} {g : Nat} {cur : Array Value} {l : List Rd} {t : List Value} (hg : W.heap[g]? = some (.cells cur 25 (0, 0))) (hc : cur.toList = rows l ++ t) {i : Nat} {r : Rd} (hi : l[i]? = some r) : At4 W g (i * 4) r := by
  have one : ∀ j, j < 4 → W.cell? ⟨g, i * 4 + j, none⟩ = r.cs[j]? := fun j hj => by
    rw [cell_of_row W g (i * 4 + j) _ _ _ hg, ← rows_at l t i r hi j hj, ← hc]
    simp
  exact ⟨one 0 (by omega), one 1 (by omega), one 2 (by omega), one 3 (by omega)⟩
theorem own_row {W : World} {base : Nat} {v : Value} {l : List Rd} (h : W.ownsRow base 25 4 v l.length (rows l)) (h0 : 0 < l.length) : ∃ g cap cur t, v = .slice (some ⟨g, 0, none⟩) l.length cap ∧ base ≤ g ∧ W.heap[g]? = some (.cells cur 25 (0, 0)) ∧ l.length ≤ cap ∧ cap ≤ maxLen ∧ cur.size = cap * 4 ∧ cur.toList = rows l ++ t := by
  rcases h.2 with ⟨-, hn⟩ | ⟨g, cap, cur, hv, hb, hg, h1, h2, h3, h4⟩
  · omega
  · exact ⟨g, cap, cur, cur.toList.drop (l.length * 4), hv, hb, hg, h1, h2, h3, by rw [← h4, List.take_append_drop]⟩
theorem row_own {W : World} {base g cap : Nat} {cur : Array Value} {l : List Rd} {t : List Value} (hb : base ≤ g) (hg : W.heap[g]? = some (.cells cur 25 (0, 0))) (h1 : l.length ≤ cap) (h2 : cap ≤ maxLen) (h3 : cur.size = cap * 4) (h4 : cur.toList = rows l ++ t) :
    W.ownsRow base 25 4 (.slice (some ⟨g, 0, none⟩) l.length cap) l.length (rows l) :=
  ⟨rows_len l, .inr ⟨g, cap, cur, rfl, hb, hg, h1, h2, h3, by rw [h4, rows_take l l.length t (Nat.le_refl _), List.take_length]⟩⟩
theorem own_lk {W : World} {base : Nat} {v : Value} {l : List Rd} (h : W.ownsRow base 25 4 v l.length (rows l)) : ∃ p c, v = .slice p l.length c ∧ Lk W l p ∧ l.length ≤ maxLen := by
  rcases h.2 with ⟨hv, hn⟩ | ⟨g, cap, cur, hv, hb, hg, h1, h2, h3, h4⟩
  · exact ⟨none, 0, by rw [hv, hn], fun h0 => by omega, by omega⟩
  · refine ⟨_, cap, hv, fun _ => ⟨g, 0, rfl, lt_of_row hg, fun i r hi => ?_⟩, by omega⟩
    rw [Nat.zero_add]
    exact at4_of hg (t := cur.toList.drop (l.length * 4)) (by rw [← h4, List.take_append_drop]) hi
theorem heap_setCells_cut (g : Nat) (T : TypeId) : ∀ (vs : List Value) (o : Nat) (W : World) (cs : Array Value), W.heap[g]? = some (.cells cs T (0, 0)) → o + vs.length ≤ cs.size →
    (W.setCells g o vs).heap[g]? = some (.cells (cs.toList.take o ++ vs ++ cs.toList.drop (o + vs.length)).toArray T (0, 0))
  | [], o, W, cs, h, hl => by
    simp only [World.setCells, List.append_nil, List.length_nil, Nat.add_zero, List.take_append_drop, Array.toArray_toList]
    exact h
  | v :: r, o, W, cs, h, hl => by
    simp only [World.setCells]
    simp at hl
    rw [heap_setCells_cut g T r (o + 1) _ (cs.setIfInBounds o v) (heap_setCell_same W g o cs T v h) (by simp; omega)]
    congr 3
    have e := list_seg_step cs.toList o v r (by simp; omega)
    simpa [Array.toList_setIfInBounds, Nat.add_assoc, Nat.add_comm 1] using e
theorem set_row {W : World} {g : Nat} {cur : Array Value} {l : List Rd} {t : List Value} (hg : W.heap[g]? = some (.cells cur 25 (0, 0))) (hc : cur.toList = rows l ++ t) {i : Nat} (r : Rd) (hi : i < l.length) :
    ∃ cur', (W.setCells g (i * 4) r.cs).heap[g]? = some (.cells cur' 25 (0, 0)) ∧ cur'.toList = rows (l.set i r) ++ t ∧ cur'.size = cur.size := by
  have hs : cur.toList.length = l.length * 4 + t.length := by rw [hc, List.length_append, rows_len]
  have hs' : cur.size = l.length * 4 + t.length := by simpa using hs
  have h := heap_setCells_cut g 25 r.cs (i * 4) W cur hg (by show i * 4 + 4 ≤ _; omega)
  refine ⟨_, h, ?_, ?_⟩
  · show cur.toList.take (i * 4) ++ r.cs ++ cur.toList.drop (i * 4 + 4) = _
    rw [hc, rows_set l t i r hi]
  · have : (cur.toList.take (i * 4) ++ r.cs ++ cur.toList.drop (i * 4 + r.cs.length)).length = cur.size := by
      rw [List.length_append, List.length_append, List.length_take, List.length_drop, show r.cs.length = 4 from rfl, hs]
      omega
    simpa using this
def zR : Rd := ⟨⟨#[]⟩, ⟨#[]⟩, ⟨#[]⟩, ⟨#[]⟩⟩
set_option maxRecDepth 100000 in
theorem zero_rows (n : Nat) : (Builtin.zeroCells (Value.agg #[.string ⟨#[]⟩, .string ⟨#[]⟩, .string ⟨#[]⟩, .string ⟨#[]⟩]).cells n).toList = rows (List.replicate n zR) := by
  have h1 : rows (List.replicate n zR) = List.replicate (n * 4) (.string ⟨#[]⟩) := by
    induction n with
    | zero => rfl
    | succ n ih =>
      rw [List.replicate_succ, rows_cons, ih]
      show List.replicate 4 (Value.string ⟨#[]⟩) ++ _ = _
      rw [List.replicate_append_replicate]
      congr 1
      omega
  rw [h1]
  unfold Builtin.zeroCells
  apply List.ext_getElem?
  intro i
  by_cases hi : i < n * 4
  · have hm : i % 4 < 4 := Nat.mod_lt _ (by omega)
    have e : ∀ k, k < 4 → (#[Value.string ⟨#[]⟩, Value.string ⟨#[]⟩, Value.string ⟨#[]⟩, Value.string ⟨#[]⟩] : Array Value)[k]! = Value.string ⟨#[]⟩ := by
      intro k hk
      match k, hk with
      | 0, _ => rfl
      | 1, _ => rfl
      | 2, _ => rfl
      | 3, _ => rfl
    simp only [Value.cells, Array.toList_map, List.getElem?_map]
    rw [List.getElem?_replicate, if_pos hi]
    have hr : (Array.range (n * 4)).toList[i]? = some i := by simp [hi]
    show Option.map _ ((Array.range (n * 4)).toList[i]?) = _
    rw [hr]
    exact congrArg some (e _ hm)
  · simp [Value.cells, hi]
set_option maxRecDepth 100000 in
theorem run_clear25 (w : World) (ty : TypeId) (g i n c : Nat) (hn : 0 < n) (cur : Array Value) (l : List Rd) (t : List Value) (hg : w.heap[g]? = some (.cells cur 25 (0, 0))) (hc : cur.toList = rows l ++ t) (hl : i + n = l.length) :
    ∃ cur', (Builtin.clear_ #[36] ty #[.slice (some ⟨g, i * 4, none⟩) n c]).run Tryd.prog w = .ok (.tuple #[]) (w.setRow g cur') ∧ cur'.toList = rows (l.take i ++ List.replicate n zR) ++ t ∧ cur'.size = cur.size := by
  obtain ⟨n', rfl⟩ : ∃ n', n = n' + 1 := ⟨n - 1, by omega⟩
  have hz : (zeroValue 25).run Tryd.prog w = .ok (.agg #[.string ⟨#[]⟩, .string ⟨#[]⟩, .string ⟨#[]⟩, .string ⟨#[]⟩]) w := by kernel_rfl
  have hzc := zero_rows (n' + 1)
  have hs : cur.toList.length = l.length * 4 + t.length := by rw [hc, List.length_append, rows_len]
  have hs' : cur.size = l.length * 4 + t.length := by simpa using hs
  have hrl : (rows (List.replicate (n' + 1) zR)).length = (n' + 1) * 4 := by rw [rows_len]; simp
  have hst := run_storeCells_at (P := Tryd.prog) g (i * 4) 25 (rows (List.replicate (n' + 1) zR)) 0 cur w hg (by rw [hrl]; omega) (rows_one _)
  simp only [Nat.add_zero] at hst
  refine ⟨(cur.toList.take (i * 4) ++ rows (List.replicate (n' + 1) zR) ++ cur.toList.drop (i * 4 + (rows (List.replicate (n' + 1) zR)).length)).toArray, ?_, ?_, ?_⟩
  rotate_left
  · show cur.toList.take (i * 4) ++ rows (List.replicate (n' + 1) zR) ++ cur.toList.drop (i * 4 + (rows (List.replicate (n' + 1) zR)).length) = _
    rw [hc, hrl, rows_take l i t (by omega), show i * 4 + (n' + 1) * 4 = l.length * 4 by omega, rows_drop l l.length t (Nat.le_refl _), rows_app]
    simp [rows]
  · have : (cur.toList.take (i * 4) ++ rows (List.replicate (n' + 1) zR) ++ cur.toList.drop (i * 4 + (rows (List.replicate (n' + 1) zR)).length)).length = cur.size := by
      rw [List.length_append, List.length_append, List.length_take, List.length_drop, hrl, hs]
      omega
    simpa using this
  · simp [Builtin.clear_, run_underlying Tryd.underlying36, hz, Result.andThen]
    rw [hzc, hst, List.append_assoc]
end Go.Proofs.YtfcenidepkjdcaaDoor
namespace Go.Proofs.YtfcenidepkjdcaaDoor
open Go.RowKit Go.Shelf
attribute [local go_sem] Oper.semAt_some
theorem one_rd (r : Rd) : (#[.string r.tb, .string r.fl, .string r.lo, .string r.hi] : Array Value).all (·.oneCell') = true := all_oneCell_toArray (cs := [.string r.tb, .string r.fl, .string r.lo, .string r.hi]) (rows_one [r])
theorem fidx_no (p : Rd → Bool) : ∀ (l : List Rd) (i : Nat), fidx p l i = -1 → l.filter (fun x => !p x) = l
  | [], _, _ => rfl
  | r :: l, i, h => by
    unfold fidx at h
    split at h
    · omega
    · rename_i hp
      rw [List.filter_cons_of_pos (by simpa using hp), fidx_no p l (i + 1) h]
theorem fidx_yes (p : Rd → Bool) : ∀ (l : List Rd) (i : Nat), fidx p l i ≠ -1 → ∃ k, fidx p l i = ((i + k : Nat) : Int) ∧ k < l.length ∧ (l.take (k + 1)).filter (fun x => !p x) = l.take k
  | [], _, h => absurd rfl h
  | r :: l, i, h => by
    unfold fidx at h ⊢
    split
    · rename_i hp
      exact ⟨0, rfl, by simp, by simp [hp]⟩
    · rename_i hp
      rw [if_neg hp] at h
      obtain ⟨k, h1, h2, h3⟩ := fidx_yes p l (i + 1) h
      refine ⟨k + 1, by rw [h1]; congr 1; omega, by simpa using h2, ?_⟩
      rw [List.take_succ_cons, List.filter_cons_of_pos (by simpa using hp), h3, List.take_succ_cons]
theorem filter_step (p : Rd → Bool) (l : List Rd) (j : Nat) (r : Rd) (h : l[j]? = some r) : (l.take (j + 1)).filter (fun x => !p x) = (l.take j).filter (fun x => !p x) ++ (if p r = true then [] else [r]) := by
  rw [List.take_add_one, h, List.filter_append]
  congr 1
  by_cases hp : p r = true
  · rw [if_pos hp]; simp [hp]
  · rw [if_neg hp]; simp [hp]
/- What lies in the row while looks are moved. -/
structure Mv (p : Rd → Bool) (w W : World) (g n : Nat) (l : List Rd) (t : List Value) (s : Nat) (i j : Nat) : Prop where
  lt : i < j
  le : j ≤ n
  row : ∃ cur L, W.heap[g]? = some (.cells cur 25 (0, 0)) ∧ cur.toList = rows L ++ t ∧ cur.size = s ∧ L.length = n ∧ L.take i = (l.take j).filter (fun x => !p x) ∧ L.drop j = l.drop j
  grow : w.grownBy W (some g)
theorem grown_below {w W W2 : World} {g : Option Nat} (h : w.grownBy W g) (hb : Below W.heap.size W W2) : w.grownBy W2 g :=
  ⟨hb.os.trans h.os, hb.tape.trans h.tape, hb.output.trans h.output, Nat.le_trans h.size hb.size, fun k hk hg => (hb.block k (Nat.lt_of_lt_of_le hk h.size)).trans (h.block k hk hg)⟩
theorem grown_set {w W : World} {g : Nat} (h : w.grownBy W (some g)) (o : Nat) (vs : List Value) : w.grownBy (W.setCells g o vs) (some g) := by
  have e : ∀ (vs : List Value) (o : Nat) (W : World), (W.setCells g o vs).os = W.os ∧ (W.setCells g o vs).tape = W.tape ∧ (W.setCells g o vs).output = W.output := by
    intro vs
    induction vs with
    | nil => exact fun _ _ => ⟨rfl, rfl, rfl⟩
    | cons v r ih => exact fun o W => ⟨(ih (o + 1) _).1.trans rfl, (ih (o + 1) _).2.1.trans rfl, (ih (o + 1) _).2.2.trans rfl⟩
  exact ⟨(e vs o W).1.trans h.os, (e vs o W).2.1.trans h.tape, (e vs o W).2.2.trans h.output, by rw [size_setCells]; exact h.size, fun k hk hg => (heap_setCells_else g k (fun e => hg (by rw [e])) vs o W).trans (h.block k hk hg)⟩
theorem grown_setRow {w W : World} {g : Nat} (h : w.grownBy W (some g)) (cs : Array Value) : w.grownBy (W.setRow g cs) (some g) :=
  ⟨h.os, h.tape, h.output, by simpa using h.size, fun k hk hg => (setRow_other W g k cs (fun e => hg (by rw [e]))).trans (h.block k hk hg)⟩
theorem Mv.later {p : Rd → Bool} {w W W2 : World} {g n : Nat} {l : List Rd} {t : List Value} {s i j : Nat} (h : Mv p w W g n l t s i j) (hb : Below W.heap.size W W2) : Mv p w W2 g n l t s i j := by
  obtain ⟨cur, L, h1, h2⟩ := h.row
  exact ⟨h.lt, h.le, ⟨cur, L, (hb.block g (lt_of_row h1)).trans h1, h2⟩, grown_below h.grow hb⟩
theorem Mv.at {p : Rd → Bool} {w W : World} {g n : Nat} {l : List Rd} {t : List Value} {s i j : Nat} (h : Mv p w W g n l t s i j) {r : Rd} (hr : l[j]? = some r) : At4 W g (j * 4) r := by
  obtain ⟨cur, L, h1, h2, h3, h4, h5, h6⟩ := h.row
  refine at4_of h1 h2 ?_
  have e1 : L[j]? = (L.drop j)[0]? := by rw [List.getElem?_drop, Nat.add_zero]
  have e2 : l[j]? = (l.drop j)[0]? := by rw [List.getElem?_drop, Nat.add_zero]
  rw [e1, h6, ← e2, hr]
theorem Mv.skip {p : Rd → Bool} {w W : World} {g n : Nat} {l : List Rd} {t : List Value} {s i j : Nat} (h : Mv p w W g n l t s i j) {r : Rd} (hr : l[j]? = some r) (hp : p r = true) (hj : j < n) : Mv p w W g n l t s i (j + 1) := by
  obtain ⟨cur, L, h1, h2, h3, h4, h5, h6⟩ := h.row
  refine ⟨by have := h.lt; omega, by omega, ⟨cur, L, h1, h2, h3, h4, ?_, ?_⟩, h.grow⟩
  · rw [filter_step p l j r hr, if_pos hp, List.append_nil, h5]
  · rw [← List.drop_drop, h6, List.drop_drop]
theorem Mv.move {p : Rd → Bool} {w W : World} {g n : Nat} {l : List Rd} {t : List Value} {s i j : Nat} (h : Mv p w W g n l t s i j) {r : Rd} (hr : l[j]? = some r) (hp : p r = false) (hj : j < n) : Mv p w (W.setCells g (i * 4) r.cs) g n l t s (i + 1) (j + 1) := by
  obtain ⟨cur, L, h1, h2, h3, h4, h5, h6⟩ := h.row
  have hlt := h.lt
  obtain ⟨cur', k1, k2, k3⟩ := set_row h1 h2 (i := i) r (by omega)
  refine ⟨by omega, by omega, ⟨cur', L.set i r, k1, k2, k3.trans h3, by simpa using h4, ?_, ?_⟩, grown_set h.grow _ _⟩
  · rw [filter_step p l j r hr, if_neg (by rw [hp]; exact Bool.false_ne_true), ← h5, List.take_add_one, List.take_set_of_le (Nat.le_refl _), List.getElem?_set_self (by omega)]
    rfl
  · rw [List.drop_set_of_lt (by omega), ← List.drop_drop, h6, List.drop_drop]
theorem Mv.there {p : Rd → Bool} {w W : World} {g n : Nat} {l : List Rd} {t : List Value} {s i j : Nat} (h : Mv p w W g n l t s i j) : W.there g (i * 4) 4 := by
  obtain ⟨cur, L, h1, h2, h3, h4, h5, h6⟩ := h.row
  have hlt := h.lt
  have hle := h.le
  have hs : cur.size = n * 4 + t.length := by
    have : cur.toList.length = n * 4 + t.length := by rw [h2, List.length_append, rows_len, h4]
    simpa using this
  intro k hk
  refine ⟨?_, frozen_of_row W _ _ _ _ h1⟩
  rw [cell_of_row W g (i * 4 + k) cur 25 _ h1]
  simp
  omega
set_option maxRecDepth 100000 in
set_option maxHeartbeats 8000000 in
theorem del_nil {w : World} {base zr : Nat} {p : Rd → Bool} (ki : Calls Tryd.prog 49 #[.slice none 0 0, .func (.func 30) #[] #[.pointer (some ⟨zr, 0, none⟩)]] w fun e w' => e = .returned (.int .i64 (-1)) ∧ Below w.heap.size w w') :
    Calls Tryd.prog 29 #[.slice none 0 0, .func (.func 30) #[] #[.pointer (some ⟨zr, 0, none⟩)]] w fun e w' => ∃ v', e = .returned v' ∧ w'.ownsRow base 25 4 v' (([] : List Rd).filter p).length (rows (([] : List Rd).filter p)) ∧ w.grownBy w' none ∧ v'.ownBlock = none := by
  go_enter Tryd.func29, Tryd.ntmps29
  go_wp2_with fail
  refine ki.mono ?_
  rintro e W ⟨rfl, hbW⟩
  have HB : Hid (Below w.heap.size w W) := hbW
  clear hbW ki
  go_wp2
  go_ret
  exact ⟨_, rfl, World.ownsRow_nil _ _ _ _, ⟨HB.out.os, HB.out.tape, HB.out.output, HB.out.size, fun k hk _ => HB.out.block k hk⟩, rfl⟩
set_option maxRecDepth 100000 in
set_option maxHeartbeats 8000000 in
theorem del_some {w : World} {base g n cap : Nat} {cur0 : Array Value} {l : List Rd} {t : List Value} {zr : Nat} (r : Rd) (hr : At4 w zr 0 r) (hz : zr ≠ g) (hn : l.length = n) (hg : w.heap[g]? = some (.cells cur0 25 (0, 0))) (hc : cur0.toList = rows l ++ t) (hb : base ≤ g) (h1 : n ≤ cap) (h2 : cap ≤ maxLen) (h3 : cur0.size = cap * 4) :
    Calls Tryd.prog 29 #[.slice (some ⟨g, 0, none⟩) n cap, .func (.func 30) #[] #[.pointer (some ⟨zr, 0, none⟩)]] w fun e w' => ∃ v', e = .returned v' ∧ w'.ownsRow base 25 4 v' (l.filter (fun x => !(x.tb.toList == r.tb.toList))).length (rows (l.filter (fun x => !(x.tb.toList == r.tb.toList)))) ∧ w.grownBy w' (some g) ∧ v'.ownBlock = some g := by
  obtain ⟨p, hp⟩ : ∃ p : Rd → Bool, (fun x : Rd => x.tb.toList == r.tb.toList) = p := ⟨_, rfl⟩
  have hpx : ∀ x : Rd, (x.tb.toList == r.tb.toList) = p x := fun x => by rw [← hp]
  have kf : ∀ x W, At4 W zr 0 r → Calls Tryd.prog 30 #[.agg #[.string x.tb, .string x.fl, .string x.lo, .string x.hi], .pointer (some ⟨zr, 0, none⟩)] W fun e w' => e = .returned (.bool (p x)) ∧ Below W.heap.size W w' := fun x W h => by
    have := table_any x r zr W h
    rwa [hpx x] at this
  have hfil : l.filter (fun x => !(x.tb.toList == r.tb.toList)) = l.filter (fun x => !p x) := by
    congr 1
    funext x
    rw [hpx x]
  rw [hfil]
  have hL : Lk w l (some ⟨g, 0, none⟩) := fun _ => ⟨g, 0, rfl, lt_of_row hg, fun i x hi => by rw [Nat.zero_add]; exact at4_of hg hc hi⟩
  have hmx : l.length ≤ maxLen := by omega
  have ki := idx_table (c := cap) p hL hmx (fun x W _ hbW => kf x W (hr.kept (hbW.block zr hr.lt)))
  have hmax : (n : Int) ≤ 9223372036854775807 := by unfold maxLen at hmx; omega
  rw [hn] at ki
  have hno := fidx_no p l 0
  have hyes := fidx_yes p l 0
  obtain ⟨V, hV⟩ : ∃ V, fidx p l 0 = V := ⟨_, rfl⟩
  rw [hV] at ki hno hyes
  have HR : Hid (At4 w zr 0 r ∧ l.length = n ∧ w.heap[g]? = some (.cells cur0 25 (0, 0)) ∧ cur0.toList = rows l ++ t ∧ cur0.size = cap * 4) := ⟨hr, hn, hg, hc, h3⟩
  have HF : Hid (∀ x W, At4 W zr 0 r → Calls Tryd.prog 30 #[.agg #[.string x.tb, .string x.fl, .string x.lo, .string x.hi], .pointer (some ⟨zr, 0, none⟩)] W fun e w' => e = .returned (.bool (p x)) ∧ Below W.heap.size W w') := kf
  clear hr hn hg hc h3 kf hL hmx hfil hpx hp hV
  by_cases hv : V = -1
  · have hf := hno hv
    subst hv
    clear hno hyes
    go_enter Tryd.func29, Tryd.ntmps29
    go_wp2_with fail
    refine ki.mono ?_
    rintro e W ⟨rfl, hbW⟩
    have HB : Hid (Below w.heap.size w W ∧ l.filter (fun x => !p x) = l) := ⟨hbW, hf⟩
    clear hbW ki hf
    go_wp2
    go_ret
    obtain ⟨-, hn, hg, hc, h3⟩ := HR.out
    refine ⟨_, rfl, ?_, ⟨HB.out.1.os, HB.out.1.tape, HB.out.1.output, HB.out.1.size, fun k hk _ => HB.out.1.block k hk⟩, rfl⟩
    rw [HB.out.2]
    have := row_own (base := base) (cap := cap) (l := l) hb ((HB.out.1.block g (lt_of_row hg)).trans hg) (by omega) h2 h3 hc
    rw [← hn]
    exact this
  · obtain ⟨k0, hk1, hk2, hk3⟩ := hyes hv
    rw [Nat.zero_add] at hk1
    rw [hk1] at ki hv
    have hk2' : k0 < n := by rw [← HR.out.2.1]; exact hk2
    have HK : Hid ((l.take (k0 + 1)).filter (fun x => !p x) = l.take k0) := hk3
    have hki : ((k0 : Int) == -1) = false := beq_false_of_ne (by omega)
    clear hno hyes hk1 hk2 hk3 hv
    go_enter Tryd.func29, Tryd.ntmps29
    go_wp2_with fail
    refine ki.mono ?_
    rintro e W ⟨rfl, hbW⟩
    have HM : Hid (Mv p w W g n l t (cap * 4) k0 (k0 + 1)) := by
      obtain ⟨-, hn, hg, hc, h3⟩ := HR.out
      exact ⟨by omega, by omega, ⟨cur0, l, (hbW.block g (lt_of_row hg)).trans hg, hc, h3, hn, HK.out.symm, rfl⟩, ⟨hbW.os, hbW.tape, hbW.output, hbW.size, fun k hk _ => hbW.block k hk⟩⟩
    clear hbW ki HK
    go_wp2_with fail
    go_loopw [5, 6, 7] (fun c5 c6 _ wr => ∃ i j : Nat, (i < j ∧ j ≤ n) ∧ c5 = .int .i64 (i : Int) ∧ c6 = .int .i64 (j : Int) ∧ Hid (Mv p w wr g n l t (cap * 4) i j)) (fun _ c6 _ _ => n - (intOf c6).toNat)
    case atStart => exact ⟨k0, k0 + 1, ⟨by omega, by omega⟩, rfl, by go_num, HM⟩
    case round =>
      obtain ⟨i, j, ⟨hij, hjn⟩, rfl, rfl, hM⟩ := hrel
      clear HM
      by_cases hj : j < n
      · obtain ⟨x, hx⟩ : ∃ x, l[j]? = some x := ⟨_, List.getElem?_eq_getElem (by rw [HR.out.2.1]; exact hj)⟩
        have hj' : (j : Int) < (n : Int) := by omega
        have hi' : (i : Int) < (n : Int) := by omega
        obtain ⟨w1, hw1⟩ : ∃ w1, wr.alloc (.cells #[.string x.tb, .string x.fl, .string x.lo, .string x.hi] 25) = w1 := ⟨_, rfl⟩
        have hb1 : Below wr.heap.size wr w1 := by rw [← hw1]; exact (Below.refl _ wr).alloc (Nat.le_refl _) _
        have r1 : w1.heap[wr.heap.size]? = some (.cells #[.string x.tb, .string x.fl, .string x.lo, .string x.hi] 25 (0, 0)) := by rw [← hw1]; exact heap_alloc_new _ _
        obtain ⟨a0, a1, a2, a3⟩ := hM.out.at hx
        have M1 := hM.out.later hb1
        have hR1 : At4 w1 zr 0 r := HR.out.1.kept (M1.grow.block zr HR.out.1.lt (fun e => hz (by injection e)))
        have c0 := cell_of_row w1 _ 0 _ _ _ r1
        have c1 := cell_of_row w1 _ 1 _ _ _ r1
        have c2 := cell_of_row w1 _ 2 _ _ _ r1
        have c3 := cell_of_row w1 _ 3 _ _ _ r1
        have kx := HF.out x w1 hR1
        have HX : Hid (l[j]? = some x ∧ Mv p w w1 g n l t (cap * 4) i j ∧ w1.heap[wr.heap.size]? = some (.cells #[.string x.tb, .string x.fl, .string x.lo, .string x.hi] 25 (0, 0))) := ⟨hx, M1, r1⟩
        clear hx hb1 r1 M1 hR1 hM
        go_wp2_with fail
        refine kx.mono ?_
        rintro e W2 ⟨rfl, hb2⟩
        have HY : Hid (Mv p w W2 g n l t (cap * 4) i j) := HX.out.2.1.later hb2
        have r2 := (hb2.block _ (lt_of_row HX.out.2.2)).trans HX.out.2.2
        have d0 := cell_of_row W2 _ 0 _ _ _ r2
        have d1 := cell_of_row W2 _ 1 _ _ _ r2
        have d2 := cell_of_row W2 _ 2 _ _ _ r2
        have d3 := cell_of_row W2 _ 3 _ _ _ r2
        clear kx hb2 r2 c0 c1 c2 c3 a0 a1 a2 a3 hw1
        cases hpx : p x with
        | true =>
          go_wp2
          go_roundw
          case rel => exact ⟨i, j + 1, ⟨by omega, by omega⟩, rfl, by go_num, HY.out.skip HX.out.1 hpx hj⟩
          case measure => simp [intOf]; omega
        | false =>
          have ht := HY.out.there
          obtain ⟨W3, hW3⟩ : ∃ W3, W2.setCells g (i * 4) x.cs = W3 := ⟨_, rfl⟩
          have HZ : Hid (Mv p w W3 g n l t (cap * 4) (i + 1) (j + 1)) := by rw [← hW3]; exact HY.out.move HX.out.1 hpx hj
          have HW3 : Hid (W2.setCells g (i * 4) x.cs = W3) := hW3
          clear hW3
          go_wp2_with (refine wpList_store_mid rfl 25 (.tmp 33) (.tmp 32) rfl g (i * 4) #[.string x.tb, .string x.fl, .string x.lo, .string x.hi] rfl rfl ht info25 (one_rd x) ?_; refine (show wpList _ _ _ _ _ (W2.setCells g (i * 4) x.cs) from ?_); rw [HW3.out])
          go_roundw
          case rel => exact ⟨i + 1, j + 1, ⟨by omega, by omega⟩, by go_num, by go_num, HZ⟩
          case measure => simp [intOf]; omega
      · obtain rfl : j = n := by omega
        obtain ⟨cur, L, k1, k2, k3, k4, k5, k6⟩ := hM.out.row
        obtain ⟨cur', hcl, q2, q3⟩ : ∃ cur', (∀ ty, (Builtin.clear_ #[36] ty #[.slice (some ⟨g, i * 4, none⟩) (j - i) (cap - i)]).run Tryd.prog wr = .ok (.tuple #[]) (wr.setRow g cur')) ∧ cur'.toList = rows (L.take i ++ List.replicate (j - i) zR) ++ t ∧ cur'.size = cur.size := by
          obtain ⟨c1, e1, e2, e3⟩ := run_clear25 wr 0 g i (j - i) (cap - i) (by omega) cur L t k1 k2 (by omega)
          refine ⟨c1, fun ty => ?_, e2, e3⟩
          obtain ⟨c2, f1, f2, f3⟩ := run_clear25 wr ty g i (j - i) (cap - i) (by omega) cur L t k1 k2 (by omega)
          have : c2 = c1 := Array.ext' (f2.trans e2.symm)
          rw [← this]
          exact f1
        have HQ : Hid (Mv p w wr g j l t (cap * 4) i j ∧ wr.heap[g]? = some (.cells cur 25 (0, 0)) ∧ cur.size = cap * 4 ∧ L.length = j ∧ L.take i = (l.take j).filter (fun x => !p x) ∧ cur'.toList = rows (L.take i ++ List.replicate (j - i) zR) ++ t ∧ cur'.size = cur.size) := ⟨hM.out, k1, k3, k4, k5, q2, q3⟩
        have hii : (i : Int) ≤ (j : Int) := by omega
        have hic : (i : Int) ≤ (cap : Int) := by omega
        have hcc : ¬ cap = i := by omega
        have hi0 : ¬ (i : Int) < 0 := by omega
        clear k1 k2 k3 k4 k5 k6 q2 q3 hM
        go_wp2
        go_ret
        obtain ⟨M, k1, k3, k4, k5, q2, q3⟩ := HQ.out
        have hlj : l.take j = l := by rw [← HR.out.2.1]; exact List.take_length
        rw [hlj] at k5
        have hli : (l.filter (fun x => !p x)).length = i := by rw [← k5, List.length_take, k4]; omega
        rw [k5, rows_app, List.append_assoc] at q2
        refine ⟨_, rfl, ?_, grown_setRow M.grow _, rfl⟩
        have := row_own (W := wr.setRow g cur') (base := base) (cap := cap) (l := l.filter (fun x => !p x)) hb (setRow_heap wr g cur cur' 25 _ k1) (by omega) h2 (by omega) q2
        rw [hli] at this ⊢
        exact this
theorem del_any {w : World} {base : Nat} {v : Value} {l : List Rd} {zr : Nat} (r : Rd) (hr : At4 w zr 0 r) (hz : v.ownBlock ≠ some zr) (hown : w.ownsRow base 25 4 v l.length (rows l)) :
    Calls Tryd.prog 29 #[v, .func (.func 30) #[] #[.pointer (some ⟨zr, 0, none⟩)]] w fun e w' => ∃ v', e = .returned v' ∧ w'.ownsRow base 25 4 v' (l.filter (fun x => !(x.tb.toList == r.tb.toList))).length (rows (l.filter (fun x => !(x.tb.toList == r.tb.toList)))) ∧ w.grownBy w' v.ownBlock ∧ v'.ownBlock = v.ownBlock := by
  rcases hown.2 with ⟨hv, hn⟩ | ⟨g, cap, cur, hv, hb, hg, h1, h2, h3, h4⟩
  · obtain rfl : l = [] := List.eq_nil_of_length_eq_zero hn
    subst hv
    have ki := idx_table (w := w) (l := []) (pa := none) (c := 0) (zr := zr) (fun _ => false) (fun h0 => by simp at h0) (by simp [maxLen]) (fun x W hx _ => by simp at hx)
    exact del_nil ki
  · subst hv
    exact del_some r hr (fun e => hz (by rw [e]; rfl)) rfl hg (t := cur.toList.drop (l.length * 4)) (by rw [← h4, List.take_append_drop]) hb h1 h2 h3
end Go.Proofs.YtfcenidepkjdcaaDoor
namespace Go.Proofs.YtfcenidepkjdcaaDoor
open Go.RowKit Go.Shelf
attribute [local go_sem] Oper.semAt_some
theorem info25c : (Tryd.prog.info? 25).map (fun i => (i.zero, i.size, i.bytes)) = some (some (.agg #[.string ⟨#[]⟩, .string ⟨#[]⟩, .string ⟨#[]⟩, .string ⟨#[]⟩]), 4, 64) := by kernel_rfl
def whR (r : Rd) : Rd := ⟨r.tb, ⟨#[]⟩, ⟨#[]⟩, ⟨#[]⟩⟩
def plR (r : Rd) : Rd := if r.fl.toList.isEmpty = true then whR r else r
def knows (l : List Rd) (r : Rd) : Bool := l.any (fun x => x.eq (plR r) || x.eq (whR r))
def addL (l : List Rd) (r : Rd) : List Rd := (if (plR r).eq (whR r) = true then l.filter (fun x => !(x.tb.toList == r.tb.toList)) else l) ++ [plR r]
theorem plR_tb (r : Rd) : (plR r).tb = r.tb := by unfold plR; split <;> rfl
theorem plR_A (r : Rd) : plA r.tb r.fl r.lo r.hi = #[.string (plR r).tb, .string (plR r).fl, .string (plR r).lo, .string (plR r).hi] := by unfold plA plR; split <;> rfl
structure St (w : World) (base bs : Nat) (v : Value) (l : List Rd) : Prop where
  row : w.heap[bs]? = some (.cells #[v] 40 (0, 0))
  own : w.ownsRow base 25 4 v l.length (rows l)
  ne : v.ownBlock ≠ some bs
structure Ch (w w' : World) (bs : Nat) (v v' : Value) : Prop where
  os : w'.os = w.os
  tape : w'.tape = w.tape
  output : w'.output = w.output
  size : w.heap.size ≤ w'.heap.size
  block : ∀ k, k < w.heap.size → k ≠ bs → v.ownBlock ≠ some k → w'.heap[k]? = w.heap[k]?
  at' : v'.ownBlock = v.ownBlock ∨ ∃ g, v'.ownBlock = some g ∧ w.heap.size ≤ g
theorem Ch.of {w w' : World} (bs : Nat) (v : Value) (h : Below w.heap.size w w') : Ch w w' bs v v := ⟨h.os, h.tape, h.output, h.size, fun k hk _ _ => h.block k hk, .inl rfl⟩
theorem own_later {w w' : World} {base : Nat} {v : Value} {l : List Rd} (h : w.ownsRow base 25 4 v l.length (rows l)) (hk : ∀ k, v.ownBlock = some k → w'.heap[k]? = w.heap[k]?) : w'.ownsRow base 25 4 v l.length (rows l) := by
  refine ⟨h.1, ?_⟩
  rcases h.2 with hn | ⟨g, cap, cur, hv, hg, hr, rest⟩
  · exact .inl hn
  · exact .inr ⟨g, cap, cur, hv, hg, (hk g (by rw [hv]; rfl)).trans hr, rest⟩
theorem St.later {w w' : World} {base bs : Nat} {v : Value} {l : List Rd} (h : St w base bs v l) (hb : Below w.heap.size w w') : St w' base bs v l :=
  ⟨(hb.block bs (lt_of_row h.row)).trans h.row, own_later h.own (fun k hk => hb.block k (h.own.lt k hk).2), h.ne⟩
theorem at4_row {W : World} {z : Nat} {r : Rd} (h : W.heap[z]? = some (.cells #[.string r.tb, .string r.fl, .string r.lo, .string r.hi] 25 (0, 0))) : At4 W z 0 r :=
  ⟨cell_of_row W z 0 _ _ _ h, cell_of_row W z 1 _ _ _ h, cell_of_row W z 2 _ _ _ h, cell_of_row W z 3 _ _ _ h⟩
theorem Ch.below {w W w' : World} {bs : Nat} {v v' : Value} (hb : Below w.heap.size w W) (h : Ch W w' bs v v') : Ch w w' bs v v' :=
  ⟨h.os.trans hb.os, h.tape.trans hb.tape, h.output.trans hb.output, Nat.le_trans hb.size h.size, fun k hk h1 h2 => (h.block k (Nat.lt_of_lt_of_le hk hb.size) h1 h2).trans (hb.block k hk), h.at'.imp id (fun ⟨g, e, hg⟩ => ⟨g, e, Nat.le_trans hb.size hg⟩)⟩
theorem Ch.trans {w w1 w2 : World} {bs : Nat} {v v1 v2 : Value} (h : Ch w w1 bs v v1) (h2 : Ch w1 w2 bs v1 v2) : Ch w w2 bs v v2 := by
  refine ⟨h2.os.trans h.os, h2.tape.trans h.tape, h2.output.trans h.output, Nat.le_trans h.size h2.size, fun k hk h3 h4 => (h2.block k (Nat.lt_of_lt_of_le hk h.size) h3 ?_).trans (h.block k hk h3 h4), ?_⟩
  · rcases h.at' with e | ⟨g, e, hg⟩
    · rw [e]; exact h4
    · rw [e]; intro e2; injection e2 with e2; omega
  · rcases h2.at' with e | ⟨g, e, hg⟩
    · rcases h.at' with e1 | ⟨g, e1, hg⟩
      · exact .inl (e.trans e1)
      · exact .inr ⟨g, e.trans e1, hg⟩
    · exact .inr ⟨g, e, Nat.le_trans h.size hg⟩
theorem own_len7 {w : World} {base T z : Nat} {v : Value} {n : Nat} {L : List Value} (h : w.ownsRow base T z v n L) : ∃ q k, v = .slice q n k := by
  rcases h.2 with ⟨hv, hn⟩ | ⟨g, cap, cur, hv, _⟩
  · exact ⟨none, 0, by rw [hv, hn]⟩
  · exact ⟨_, _, hv⟩
theorem St.store {W w2 : World} {base bs : Nat} {v v2 : Value} {l k : List Rd} (hS : St W base bs v l) (hown : w2.ownsRow base 25 4 v2 k.length (rows k)) (hgr : W.grownBy w2 v.ownBlock) (hat : v2.ownBlock = v.ownBlock) :
    St (w2.setCell ⟨bs, 0, none⟩ v2) base bs v2 k ∧ Ch W (w2.setCell ⟨bs, 0, none⟩ v2) bs v v2 := by
  have hbs := lt_of_row hS.row
  have r2 := (hgr.block bs hbs (fun e => hS.ne e.symm)).trans hS.row
  refine ⟨⟨by simpa using heap_setCell_same w2 bs 0 #[v] 40 v2 r2, own_later hown (fun k hk => Below.heap_setCell _ _ _ k (fun e => hS.ne (by rw [← hat, hk, e]))), by rw [hat]; exact hS.ne⟩, ⟨hgr.os, hgr.tape, hgr.output, by simpa using hgr.size, fun k hk h1 h2 => (Below.heap_setCell _ _ _ k h1).trans (hgr.block k hk (fun e => h2 e.symm)), .inl hat⟩⟩
theorem St.app {W w2 : World} {base bs : Nat} {v : Value} {l : List Rd} (q : Rd) {o : Obj} {g1 cap1 : Nat} (hS : St W base bs v l) (hgr : (W.alloc o).drew.grownBy w2 v.ownBlock)
    (hown : w2.ownsRow base 25 4 (.slice (some ⟨g1, 0, none⟩) (l.length + 1) cap1) (l.length + 1) (rows l ++ q.cs)) (hat : v.ownBlock = some g1 ∨ g1 = W.heap.size + 1) :
    St (w2.setCell ⟨bs, 0, none⟩ (.slice (some ⟨g1, 0, none⟩) (l.length + 1) cap1)) base bs (.slice (some ⟨g1, 0, none⟩) (l.length + 1) cap1) (l ++ [q]) ∧ Ch W (w2.setCell ⟨bs, 0, none⟩ (.slice (some ⟨g1, 0, none⟩) (l.length + 1) cap1)) bs v (.slice (some ⟨g1, 0, none⟩) (l.length + 1) cap1) := by
  have hbs := lt_of_row hS.row
  have hold : ∀ k, k < W.heap.size → v.ownBlock ≠ some k → w2.heap[k]? = W.heap[k]? := fun k hk hv => (hgr.block k (by simp; omega) (fun e => hv e.symm)).trans (Below.heap_alloc W o k hk)
  have hne : bs ≠ g1 := by
    rcases hat with h | h
    · exact fun e => hS.ne (by rw [h, e])
    · omega
  have r2 := (hold bs hbs hS.ne).trans hS.row
  have hsz : W.heap.size ≤ w2.heap.size := Nat.le_trans (by simp) hgr.size
  have hlen : (l ++ [q]).length = l.length + 1 := by simp
  have hrw : rows (l ++ [q]) = rows l ++ q.cs := by rw [rows_app]; simp [rows]
  refine ⟨⟨by simpa using heap_setCell_same w2 bs 0 #[v] 40 (.slice (some ⟨g1, 0, none⟩) (l.length + 1) cap1) r2, ?_, fun e => hne (by injection e with e; exact e.symm)⟩, ⟨hgr.os, hgr.tape, hgr.output, by simpa using hsz, fun k hk h1 h2 => (Below.heap_setCell _ _ _ k h1).trans (hold k hk h2), ?_⟩⟩
  · rw [hlen, hrw]
    refine ⟨hown.1, ?_⟩
    rcases hown.2 with ⟨hv, -⟩ | ⟨g, cap, cur, hv, hg, hr, rest⟩
    · cases hv
    · refine .inr ⟨g, cap, cur, hv, hg, ?_, rest⟩
      injection hv with e1 e2 e3
      injection e1 with e1
      injection e1 with e1
      exact (Below.heap_setCell _ _ _ g (fun e => hne (by rw [e1]; exact e.symm))).trans hr
  · rcases hat with h | h
    · exact .inl (by rw [h]; rfl)
    · exact .inr ⟨g1, rfl, by omega⟩
end Go.Proofs.YtfcenidepkjdcaaDoor
