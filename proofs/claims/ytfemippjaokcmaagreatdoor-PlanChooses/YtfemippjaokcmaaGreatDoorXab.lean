/- A text between quotes (quoted), and the bytes of pairs of digits (unhex). Which words are the language's own (Key, the document's Key). Whether a text is a name of value's (value.Name). Rows of three cells that are stored cell by cell; results that lie in a cell; a text's part as a list. The words of each kind (strWord, hexWord, nameWord, signWord). Words that are names, keys and signs (nameWord, signWord). Words that are signs and numbers (signWord, numWord). -/
import Derived.Test.YtfemippjaokcmaaGreatDoorXaa
import Derived.Laws.Rows
namespace Go.Proofs.YtfemippjaokcmaaGreatDoor
open Go.RowKit Go.Shelf
theorem drop_at {l : List UInt8} {i : Nat} {c : UInt8} (h : l[i]? = some c) : l.drop i = c :: l.drop (i + 1) := by
  have hi : i < l.length := by
    rcases Nat.lt_or_ge i l.length with h2 | h2
    · exact h2
    · rw [List.getElem?_eq_none h2] at h; cases h
  rw [List.drop_eq_getElem_cons hi]
  rw [List.getElem?_eq_getElem hi] at h
  injection h with h
  rw [h]
def qT (x : Option (List UInt8 × Nat)) : ByteArray × Nat := match x with
  | none => (⟨#[]⟩, 0)
  | some y => (⟨y.1.toArray⟩, y.2 + 1)
/- What is known in the round: what stands behind place i makes, with what was taken, the whole. -/
structure QI (s : ByteArray) (i : Nat) (l : List UInt8) : Prop where
  one : 1 ≤ i
  le : l.length ≤ i
  all : qL (s.data.toList.drop 1) = (qL (s.data.toList.drop i)).map (fun x => (l ++ x.1, x.2 + (i - 1)))
theorem QI.start (s : ByteArray) : QI s 1 [] := ⟨Nat.le_refl _, Nat.zero_le _, by cases qL (s.data.toList.drop 1) <;> simp⟩
theorem QI.other {s : ByteArray} {i : Nat} {l : List UInt8} {c : UInt8} (h : QI s i l) (hc : s.data.toList[i]? = some c) (h39 : c ≠ 39) : QI s (i + 1) (l ++ [c]) := by
  refine ⟨by omega, by have := h.le; simp; omega, ?_⟩
  have h1 := h.one
  rw [h.all, drop_at hc, qL_other h39]
  cases qL (s.data.toList.drop (i + 1)) with
  | none => rfl
  | some x => simp; omega
theorem QI.two {s : ByteArray} {i : Nat} {l : List UInt8} (h : QI s i l) (hc : s.data.toList[i]? = some 39) (hd : s.data.toList[i + 1]? = some 39) : QI s (i + 1 + 1) (l ++ [39]) := by
  refine ⟨by omega, by have := h.le; simp; omega, ?_⟩
  have h1 := h.one
  rw [h.all, drop_at hc, drop_at hd, qL_two]
  cases qL (s.data.toList.drop (i + 1 + 1)) with
  | none => rfl
  | some x => simp; omega
theorem QI.done {s : ByteArray} {i : Nat} {l : List UInt8} (h : QI s i l) (hc : s.data.toList[i]? = some 39) (hd : s.data.toList[i + 1]? ≠ some 39) : qT (qL (s.data.toList.drop 1)) = (⟨l.toArray⟩, i + 1) := by
  have h1 := h.one
  rw [h.all, drop_at hc, qL_end (by rw [List.getElem?_drop]; exact hd)]
  simp [qT]
  omega
theorem QI.none {s : ByteArray} {i : Nat} {l : List UInt8} (h : QI s i l) (hc : s.data.toList.length ≤ i) : qT (qL (s.data.toList.drop 1)) = (⟨#[]⟩, 0) := by
  rw [h.all, List.drop_eq_nil_of_le hc]
  rfl
theorem byte_of {x : UInt8} {n : Nat} (h : (x.toNat : Int) = (n : Int)) (_ : n < 256) : x = UInt8.ofNat n := by
  have : x.toNat = n := by omega
  rw [← this]
  simp
set_option maxRecDepth 20000 in
set_option maxHeartbeats 4000000 in
theorem quoted_any (s : ByteArray) (hs : s.size ≤ 10000) (w : World) :
    Calls Tryz.prog 137 #[.string s] w fun e w' => e = .returned (.tuple #[.string (qT (qL (s.data.toList.drop 1))).1, .int .i64 ((qT (qL (s.data.toList.drop 1))).2 : Int)]) ∧ Below w.heap.size w w' := by
  obtain ⟨F, hF⟩ : ∃ F, qT (qL (s.data.toList.drop 1)) = F := ⟨_, rfl⟩
  rw [hF]
  have HF : Hid (qT (qL (s.data.toList.drop 1)) = F) := hF
  clear hF
  have hl := Lib.size_eq s
  have HL : Hid (s.size = s.data.toList.length) := hl
  clear hl
  go_enter Tryz.func137, Tryz.ntmps137
  go_wp2
  go_loopw [5] (fun c5 wr => ∃ (i : Nat) (l : List UInt8), i ≤ s.size + 1 ∧ c5 = .int .i64 (i : Int) ∧ Hid (QI s i l) ∧ Bld wr w.heap.size l ∧ Below w.heap.size w wr) (fun c5 _ => s.size + 1 - (intOf c5).toNat)
  case atStart => exact ⟨1, [], by omega, rfl, QI.start s, bld_new w, (Below.refl _ w).alloc (Nat.le_refl _) _⟩
  case round =>
    obtain ⟨i, l, hi, rfl, hq, hb, hB⟩ := hrel
    have hlen : Hid (l.length ≤ 1000000) := by
      have h1 := hq.out.le
      have : l.length ≤ 1000000 := by omega
      exact this
    have hone : 1 ≤ i := hq.out.one
    by_cases hlt : i < s.size
    · have hlt' : (i : Int) < (s.size : Int) := by omega
      obtain ⟨c, hc, he⟩ := at_chr hlt
      have HC : Hid (s.data.toList[i]? = some c) := hc
      have hce : ((s[i].toNat : Nat) : Int) = (c.toNat : Int) := by rw [chr_eq s i hlt, he]
      clear he hc
      by_cases h39 : c = 39
      · have h39' : ((s[i].toNat : Nat) : Int) = 39 := by rw [hce, h39]; rfl
        have HE : Hid (c = 39) := h39
        clear h39 hce
        by_cases hlast : i + 1 = s.size
        · have hlast' : (i : Int) + 1 = (s.size : Int) := by omega
          go_wp2_with (go_at_call 65; refine (b_str _ _ _ hb).mono ?_; rintro e w1 ⟨rfl, hb1⟩)
          go_ret2
          refine ⟨?_, hB.trans hb1⟩
          rw [← HF.out, hq.out.done (by rw [HC.out, HE.out]) (by rw [List.getElem?_eq_none (by have := HL.out; omega)]; simp)]
          simp
          omega
        · have hlast' : ¬ (i : Int) + 1 = (s.size : Int) := by omega
          have hlt1 : i + 1 < s.size := by omega
          obtain ⟨d, hd, hed⟩ := at_chr hlt1
          have HD : Hid (s.data.toList[i + 1]? = some d) := hd
          have hde : ((s[i + 1].toNat : Nat) : Int) = (d.toNat : Int) := by rw [chr_eq s (i + 1) hlt1, hed]
          clear hed hd
          have hlt1' : (i : Int) + 1 < (s.size : Int) := by omega
          by_cases hd39 : d = 39
          · have hd39' : ((s[i + 1].toNat : Nat) : Int) = 39 := by rw [hde, hd39]; rfl
            have HE2 : Hid (d = 39) := hd39
            clear hd39 hde
            go_wp2_with (go_at_call 93; refine (b_byte _ _ 39 _ hb hlen.out _ (by first | rfl | assumption)).mono ?_; rintro e w1 ⟨rfl, hb1, hb2⟩)
            go_roundw
            case rel => exact ⟨i + 1 + 1, l ++ [39], by omega, by go_num, hq.out.two (by rw [HC.out, HE.out]) (by rw [HD.out, HE2.out]), hb1, hB.trans hb2⟩
            case measure => simp [intOf]; omega
          · have hd39' : ¬ ((s[i + 1].toNat : Nat) : Int) = 39 := by
              rw [hde]
              intro e
              exact hd39 (byte_of e (by decide))
            have HE2 : Hid (d ≠ 39) := hd39
            clear hd39 hde
            go_wp2_with (go_at_call 65; refine (b_str _ _ _ hb).mono ?_; rintro e w1 ⟨rfl, hb1⟩)
            go_ret2
            refine ⟨?_, hB.trans hb1⟩
            rw [← HF.out, hq.out.done (by rw [HC.out, HE.out]) (by rw [HD.out]; exact fun e => HE2.out (Option.some.inj e))]
            simp
      · have h39' : ¬ ((s[i].toNat : Nat) : Int) = 39 := by
          rw [hce]
          intro e
          exact h39 (byte_of e (by decide))
        have HE : Hid (c ≠ 39) := h39
        have HCE : Hid (((s[i].toNat : Nat) : Int) = (c.toNat : Int)) := hce
        clear h39 hce
        go_wp2_with (go_at_call 93; refine (b_byte _ _ c _ hb hlen.out _ (by exact HCE.out)).mono ?_; rintro e w1 ⟨rfl, hb1, hb2⟩)
        go_roundw
        case rel => exact ⟨i + 1, l ++ [c], by omega, by go_num, hq.out.other HC.out HE.out, hb1, hB.trans hb2⟩
        case measure => simp [intOf]; omega
    · have hlt' : ¬ (i : Int) < (s.size : Int) := by omega
      go_wp2
      go_ret2
      refine ⟨?_, hB⟩
      rw [← HF.out, hq.out.none (by have := HL.out; omega)]
      rfl
def hT (x : Option (List UInt8)) : ByteArray × Bool := match x with
  | none => (⟨#[]⟩, false)
  | some y => (⟨y.toArray⟩, true)
theorem index_hex (c : UInt8) : Lib.indexByte [48, 49, 50, 51, 52, 53, 54, 55, 56, 57, 97, 98, 99, 100, 101, 102] c = if hexV c < 16 then (hexV c : Int) else -1 := by
  revert c
  have : ∀ n : Fin 256, Lib.indexByte [48, 49, 50, 51, 52, 53, 54, 55, 56, 57, 97, 98, 99, 100, 101, 102] (UInt8.ofNat n.val) = if hexV (UInt8.ofNat n.val) < 16 then (hexV (UInt8.ofNat n.val) : Int) else -1 := by decide +kernel
  intro c
  have h := this ⟨c.toNat, UInt8.toNat_lt c⟩
  simpa using h
structure HI (s : ByteArray) (i : Nat) (l : List UInt8) : Prop where
  le : l.length ≤ i
  all : hexL s.data.toList = (hexL (s.data.toList.drop i)).map (fun x => l ++ x)
theorem HI.start (s : ByteArray) : HI s 0 [] := ⟨Nat.le_refl _, by rw [List.drop_zero]; cases hexL s.data.toList <;> rfl⟩
theorem HI.step {s : ByteArray} {i : Nat} {l : List UInt8} {a b : UInt8} (h : HI s i l) (ha : s.data.toList[i]? = some a) (hb : s.data.toList[i + 1]? = some b) (h1 : hexV a < 16) (h2 : hexV b < 16) : HI s (i + 2) (l ++ [UInt8.ofNat (hexV a * 16 + hexV b)]) := by
  refine ⟨by have := h.le; simp; omega, ?_⟩
  rw [h.all, drop_at ha, drop_at hb, hexL, if_pos ⟨h1, h2⟩]
  cases hexL (s.data.toList.drop (i + 1 + 1)) with
  | none => rfl
  | some x => simp
theorem HI.bad {s : ByteArray} {i : Nat} {l : List UInt8} {a b : UInt8} (h : HI s i l) (ha : s.data.toList[i]? = some a) (hb : s.data.toList[i + 1]? = some b) (h1 : ¬ (hexV a < 16 ∧ hexV b < 16)) : hT (hexL s.data.toList) = (⟨#[]⟩, false) := by
  rw [h.all, drop_at ha, drop_at hb, hexL, if_neg h1]
  rfl
theorem HI.done {s : ByteArray} {i : Nat} {l : List UInt8} (h : HI s i l) (hi : s.data.toList.length ≤ i) : hT (hexL s.data.toList) = (⟨l.toArray⟩, true) := by
  rw [h.all, List.drop_eq_nil_of_le hi]
  simp [hexL, hT]
theorem hexT_odd {s : ByteArray} (h : s.data.toList.length % 2 = 1) : hT (hexL s.data.toList) = (⟨#[]⟩, false) := by
  rw [hexL_odd _ h]
  rfl
theorem index_at (c : UInt8) (x : Int) (hx : x = (c.toNat : Int)) (w : World) : Calls Tryz.prog 159 #[.string ⟨#[48, 49, 50, 51, 52, 53, 54, 55, 56, 57, 97, 98, 99, 100, 101, 102]⟩, .int .u8 x] w fun e w' => e = .returned (.int .i64 (if hexV c < 16 then (hexV c : Int) else -1)) ∧ w' = w := by
  refine (Tryz.strings_IndexByte _ x w).mono ?_
  rintro e w' ⟨rfl, rfl⟩
  refine ⟨?_, rfl⟩
  rw [← index_hex c, hx]
  simp
theorem glue_bits (a b : Nat) (ha : a < 16) (hb : b < 16) : Go.bits .or .i64 ((a : Int) * 16) (b : Int) % 256 = ((UInt8.ofNat (a * 16 + b)).toNat : Int) := by
  have : ∀ a : Fin 16, ∀ b : Fin 16, Go.bits .or .i64 ((a.val : Int) * 16) (b.val : Int) % 256 = ((UInt8.ofNat (a.val * 16 + b.val)).toNat : Int) := by decide +kernel
  exact this ⟨a, ha⟩ ⟨b, hb⟩
set_option maxRecDepth 20000 in
set_option maxHeartbeats 4000000 in
theorem unhex_any (s : ByteArray) (hs : s.size ≤ 10000) (w : World) :
    Calls Tryz.prog 138 #[.string s] w fun e w' => e = .returned (.tuple #[.string (hT (hexL s.data.toList)).1, .bool (hT (hexL s.data.toList)).2]) ∧ Below w.heap.size w w' := by
  obtain ⟨F, hF⟩ : ∃ F, hT (hexL s.data.toList) = F := ⟨_, rfl⟩
  rw [hF]
  have HF : Hid (hT (hexL s.data.toList) = F) := hF
  clear hF
  have hl := Lib.size_eq s
  have HL : Hid (s.size = s.data.toList.length) := hl
  clear hl
  by_cases hodd : s.size % 2 = 1
  · have hodd' : Int.tmod (s.size : Int) 2 = 1 := by rw [Int.tmod_eq_emod_of_nonneg (by omega)]; omega
    go_enter Tryz.func138, Tryz.ntmps138
    go_wp2
    go_ret2
    refine ⟨?_, Below.refl _ _⟩
    rw [← HF.out, hexT_odd (by rw [← HL.out]; exact hodd)]
    rfl
  · have hodd' : Int.tmod (s.size : Int) 2 = 0 := by rw [Int.tmod_eq_emod_of_nonneg (by omega)]; omega
    go_enter Tryz.func138, Tryz.ntmps138
    go_wp2
    go_loopw [5] (fun c5 wr => ∃ (i : Nat) (l : List UInt8), i ≤ s.size ∧ i % 2 = 0 ∧ c5 = .int .i64 (i : Int) ∧ Hid (HI s i l) ∧ Bld wr w.heap.size l ∧ Below w.heap.size w wr) (fun c5 _ => s.size - (intOf c5).toNat)
    case atStart => exact ⟨0, [], by omega, rfl, rfl, HI.start s, bld_new w, (Below.refl _ w).alloc (Nat.le_refl _) _⟩
    case round =>
      obtain ⟨i, l, hi, hev, rfl, hq, hb, hB⟩ := hrel
      have hlen : Hid (l.length ≤ 1000000) := by
        have h1 := hq.out.le
        have : l.length ≤ 1000000 := by omega
        exact this
      by_cases hlt : i < s.size
      · have hlt' : (i : Int) < (s.size : Int) := by omega
        have hlt1 : i + 1 < s.size := by omega
        have hlt1' : (i : Int) + 1 < (s.size : Int) := by omega
        obtain ⟨a, ha, hea⟩ := at_chr hlt
        obtain ⟨b, hb', heb⟩ := at_chr hlt1
        have HA : Hid (s.data.toList[i]? = some a) := ha
        have HB : Hid (s.data.toList[i + 1]? = some b) := hb'
        have HAE : Hid (((s[i].toNat : Nat) : Int) = (a.toNat : Int)) := by
          have : ((s[i].toNat : Nat) : Int) = (a.toNat : Int) := by rw [chr_eq s i hlt, hea]
          exact this
        have HBE : Hid (((s[i + 1].toNat : Nat) : Int) = (b.toNat : Int)) := by
          have : ((s[i + 1].toNat : Nat) : Int) = (b.toNat : Int) := by rw [chr_eq s (i + 1) hlt1, heb]
          exact this
        clear hea heb ha hb'
        by_cases hh : hexV a < 16 ∧ hexV b < 16
        · have c1 := index_at a _ HAE.out
          have c2 := index_at b _ HBE.out
          rw [if_pos hh.1] at c1
          rw [if_pos hh.2] at c2
          have hg := glue_bits (hexV a) (hexV b) hh.1 hh.2
          obtain ⟨x, hx⟩ : ∃ x, hexV a = x := ⟨_, rfl⟩
          obtain ⟨y, hy⟩ : ∃ y, hexV b = y := ⟨_, rfl⟩
          have HX : Hid (hexV a = x) := hx
          have HY : Hid (hexV b = y) := hy
          have HH : Hid (hexV a < 16 ∧ hexV b < 16) := hh
          rw [hx] at c1 hg hh
          rw [hy] at c2 hg hh
          clear hx hy
          go_wp2_with fail
          refine (c1 _).mono ?_
          rintro e w1 ⟨rfl, rfl⟩
          go_wp2_with fail
          refine (c2 _).mono ?_
          rintro e w1 ⟨rfl, rfl⟩
          have HG : Hid (Go.bits .or .i64 ((x : Int) * 16) (y : Int) % 256 = ((UInt8.ofNat (x * 16 + y)).toNat : Int)) := hg
          clear hg
          have hyd : decide ((y : Int) < 0) = false := decide_eq_false (by omega)
          have hxd : decide ((x : Int) < 0) = false := decide_eq_false (by omega)
          go_wp2_with fail
          refine (b_byte _ _ (UInt8.ofNat (x * 16 + y)) _ hb hlen.out _ HG.out).mono ?_
          rintro e w1 ⟨rfl, hb1, hb2⟩
          go_wp2_with fail
          go_roundw
          case rel => exact ⟨i + 2, l ++ [UInt8.ofNat (x * 16 + y)], by omega, by omega, by go_num, (by rw [← HX.out, ← HY.out]; exact hq.out.step HA.out HB.out HH.out.1 HH.out.2), hb1, hB.trans hb2⟩
          case measure => simp [intOf]; omega
        · have hbad := hq.out.bad HA.out HB.out hh
          have HBAD : Hid (hT (hexL s.data.toList) = (⟨#[]⟩, false)) := hbad
          clear hbad
          have c1 := index_at a _ HAE.out
          have c2 := index_at b _ HBE.out
          by_cases h1 : hexV a < 16
          · rw [if_pos h1] at c1
            rw [if_neg (fun h2 => hh ⟨h1, h2⟩)] at c2
            obtain ⟨x, hx⟩ : ∃ x, hexV a = x := ⟨_, rfl⟩
            rw [hx] at c1
            clear hx hh h1
            have hxd : decide ((x : Int) < 0) = false := decide_eq_false (by omega)
            have hxn : ¬ (x : Int) < 0 := by omega
            go_wp2_with fail
            refine (c1 _).mono ?_
            rintro e w1 ⟨rfl, rfl⟩
            go_wp2_with fail
            refine (c2 _).mono ?_
            rintro e w1 ⟨rfl, rfl⟩
            go_wp2
            go_ret2
            refine ⟨?_, hB⟩
            rw [← HF.out, HBAD.out]
            rfl
          · rw [if_neg h1] at c1
            obtain ⟨y, hy⟩ : ∃ y, (if hexV b < 16 then (hexV b : Int) else -1) = y := ⟨_, rfl⟩
            rw [hy] at c2
            clear hy hh h1
            go_wp2_with fail
            refine (c1 _).mono ?_
            rintro e w1 ⟨rfl, rfl⟩
            go_wp2_with fail
            refine (c2 _).mono ?_
            rintro e w1 ⟨rfl, rfl⟩
            go_wp2
            go_ret2
            refine ⟨?_, hB⟩
            rw [← HF.out, HBAD.out]
            rfl
      · have hlt' : ¬ (i : Int) < (s.size : Int) := by omega
        go_wp2_with (go_at_call 65; refine (b_str _ _ _ hb).mono ?_; rintro e w1 ⟨rfl, hb1⟩)
        go_ret2
        refine ⟨?_, hB.trans hb1⟩
        rw [← HF.out, hq.out.done (by have := HL.out; omega)]
        rfl
end Go.Proofs.YtfemippjaokcmaaGreatDoor
namespace Go.Proofs.YtfemippjaokcmaaGreatDoor
open Go.RowKit Go.Shelf
set_option maxRecDepth 20000 in
set_option maxHeartbeats 4000000 in
theorem key_any (s : ByteArray) (w : World) : Calls Tryz.prog 139 #[.string s] w fun e w' => e = .returned (.bool (keyB s.data.toList)) ∧ w' = w := by
  obtain ⟨F, hF⟩ : ∃ F, keyB s.data.toList = F := ⟨_, rfl⟩
  rw [hF]
  have HF : Hid (keyB s.data.toList = F) := hF
  clear hF
  go_enter Tryz.func139, Tryz.ntmps139
  go_wp2
  all_goals
    go_ret
    refine ⟨?_, rfl⟩
    rw [← HF.out]
    simp only [keyB, keysL, List.contains_cons, List.contains_nil, ← Lib.toList_data]
    simp_all
end Go.Proofs.YtfemippjaokcmaaGreatDoor
namespace Go.Proofs.YtfemippjaokcmaaGreatDoor
open Go.RowKit Go.Shelf
def okB (x : Int) : Bool := letB x || digitB x || decide (x = 95)
def nameB (s : ByteArray) : Bool := decide (0 < s.size) && decide (s.size ≤ 16) && !digitB (chr s 0) && decide (∀ i, i < s.size → okB (chr s i) = true)
theorem empty_size (s : ByteArray) : s.toList.isEmpty = decide (s.size = 0) := by
  rw [Lib.toList_data]
  have := Lib.size_eq s
  cases h : s.data.toList with
  | nil => rw [h] at this; simp at this; simp [this]
  | cons a l => rw [h] at this; simp at this; simp [this]
theorem nameB_no {s : ByteArray} {i : Nat} (h : i < s.size) (h1 : letB (chr s i) = false) (h2 : digitB (chr s i) = false) (h3 : (chr s i != 95) = true) : nameB s = false := by
  have : decide (∀ i, i < s.size → okB (chr s i) = true) = false := by
    rw [decide_eq_false_iff_not]
    intro hh
    have := hh i h
    unfold okB at this
    rw [h1, h2] at this
    simp_all
  unfold nameB
  rw [this, Bool.and_false]
theorem nameB_yes {s : ByteArray} (h0 : 0 < s.size) (h1 : s.size ≤ 16) (h2 : digitB (chr s 0) = false) (h3 : ∀ i, i < s.size → okB (chr s i) = true) : nameB s = true := by
  unfold nameB
  rw [h2, decide_eq_true h0, decide_eq_true h1, decide_eq_true h3]; rfl
theorem okB_step {s : ByteArray} {i : Nat} (h : ∀ j, j < i → okB (chr s j) = true) (h1 : okB (chr s i) = true) : ∀ j, j < i + 1 → okB (chr s j) = true := fun j hj => by
  rcases Nat.lt_or_ge j i with k | k
  · exact h j k
  · obtain rfl : j = i := by omega
    exact h1
set_option maxHeartbeats 1000000 in
theorem name_in (s : ByteArray) (h2 : 0 < s.size) (h1 : s.size ≤ 16) (w : World) : Calls Tryz.prog 130 #[.string s] w fun e w' => e = .returned (.bool (nameB s)) ∧ w' = w := by
  have h0 : s.toList.isEmpty = false := by rw [empty_size]; exact decide_eq_false (by omega)
  have h1' : (s.size : Int) ≤ 16 := by omega
  have h2' : 0 < (s.size : Int) := by omega
  obtain ⟨F, hF⟩ : ∃ F, nameB s = F := ⟨_, rfl⟩
  rw [hF]
  have HF : Hid (nameB s = F) := hF
  clear hF
  go_enter Tryz.func130, Tryz.ntmps130
  go_wp2_with fail
  refine (vdigit_any _ _).mono ?_
  rintro e w ⟨rfl, rfl⟩
  rw [chr_eq s 0 h2]
  cases hd : digitB (chr s 0) with
  | true =>
    go_wp2
    go_ret
    refine ⟨?_, rfl⟩
    have := HF.out
    unfold nameB at this
    rw [hd, Bool.not_true, Bool.and_false, Bool.false_and] at this
    rw [← this]
    rfl
  | false =>
    have HD : Hid (digitB (chr s 0) = false) := hd
    clear hd
    go_wp2_with fail
    go_loopw [18] (fun c18 wr => ∃ i : Nat, i ≤ s.size ∧ c18 = .int .i64 (i : Int) ∧ (∀ j, j < i → okB (chr s j) = true) ∧ wr = w) (fun c18 _ => s.size - (intOf c18).toNat)
    case atStart => exact ⟨0, by omega, rfl, fun j hj => by omega, rfl⟩
    case round =>
      obtain ⟨i, hi, rfl, hj, rfl⟩ := hrel
      have HJ : Hid (∀ j, j < i → okB (chr s j) = true) := hj
      clear hj
      go_wp2_with (first | (go_at_call 155; refine (vdigit_any _ _).mono ?_; rintro e w ⟨rfl, rfl⟩) | (go_at_call 156; refine (vletter_any _ _).mono ?_; rintro e w ⟨rfl, rfl⟩))
      · have a1 : i < s.size := by assumption
        have a2 : letB (chr s i) = false := by rw [← chr_eq s i a1]; assumption
        have a3 : digitB (chr s i) = false := by rw [← chr_eq s i a1]; assumption
        have a4 : (chr s i != 95) = true := by rw [← chr_eq s i a1]; assumption
        go_ret
        exact ⟨by rw [← HF.out, nameB_no a1 a2 a3 a4]; rfl, rfl⟩
      · have a1 : i < s.size := by assumption
        have a4 : (chr s i != 95) = false := by rw [← chr_eq s i a1]; assumption
        go_roundw
        case rel =>
          refine ⟨i + 1, by omega, by go_num, okB_step HJ.out ?_, by trivial⟩
          unfold okB
          rw [bne_eq_false_iff_eq] at a4
          rw [a4]; rfl
        case measure => simp [intOf]; omega
      · have a1 : i < s.size := by assumption
        have a3 : digitB (chr s i) = true := by rw [← chr_eq s i a1]; assumption
        go_roundw
        case rel =>
          refine ⟨i + 1, by omega, by go_num, okB_step HJ.out ?_, by trivial⟩
          unfold okB
          rw [a3]; simp
        case measure => simp [intOf]; omega
      · have a1 : i < s.size := by assumption
        have a2 : letB (chr s i) = true := by rw [← chr_eq s i a1]; assumption
        go_roundw
        case rel =>
          refine ⟨i + 1, by omega, by go_num, okB_step HJ.out ?_, by trivial⟩
          unfold okB
          rw [a2]; simp
        case measure => simp [intOf]; omega
      · go_ret
        obtain rfl : i = s.size := by omega
        exact ⟨by rw [← HF.out, nameB_yes h2 h1 HD.out HJ.out]; rfl, rfl⟩
set_option maxHeartbeats 1000000 in
theorem name_any (s : ByteArray) (w : World) : Calls Tryz.prog 130 #[.string s] w fun e w' => e = .returned (.bool (nameB s)) ∧ w' = w := by
  by_cases h2 : 0 < s.size
  · by_cases h1 : s.size ≤ 16
    · exact name_in s h2 h1 w
    · have hN : nameB s = false := by unfold nameB; rw [decide_eq_false h1]; simp
      rw [hN]
      clear hN
      have h0 : s.toList.isEmpty = false := by rw [empty_size]; exact decide_eq_false (by omega)
      have h1' : ¬ (s.size : Int) ≤ 16 := by omega
      have h1'' : (16 : Int) < (s.size : Int) := by omega
      go_enter Tryz.func130, Tryz.ntmps130
      go_wp2
      go_ret
      exact ⟨rfl, rfl⟩
  · have hN : nameB s = false := by unfold nameB; rw [decide_eq_false h2]; simp
    rw [hN]
    clear hN
    have h0 : s.toList.isEmpty = true := by rw [empty_size]; exact decide_eq_true (by omega)
    go_enter Tryz.func130, Tryz.ntmps130
    go_wp2
    go_ret
    exact ⟨rfl, rfl⟩
theorem nameB_run {s : ByteArray} (h0 : 0 < s.size) (h1 : digitB (chr s 0) = false) (h2 : ∀ c ∈ s.data.toList, inNameB (c.toNat : Int) = true) : nameB s = decide (s.size ≤ 16) := by
  have h3 : decide (∀ i, i < s.size → okB (chr s i) = true) = true := by
    refine decide_eq_true (fun i hi => ?_)
    obtain ⟨c, hc, he⟩ := at_chr hi
    rw [he]
    exact h2 c (List.mem_of_getElem? hc)
  unfold nameB
  rw [h1, h3, decide_eq_true h0]
  simp
end Go.Proofs.YtfemippjaokcmaaGreatDoor
namespace Go.Proofs.YtfemippjaokcmaaGreatDoor
open Go.RowKit Go.Shelf
theorem row_setCell {W : World} {g k : Nat} {cs : Array Value} {t : TypeId} {fr : Nat × Nat} (h : W.heap[g]? = some (.cells cs t fr)) (v : Value) : (W.setCell ⟨g, k, none⟩ v).heap[g]? = some (.cells (cs.setIfInBounds k v) t fr) := by
  have hl := lt_of_row h
  rw [Array.getElem?_eq_getElem hl] at h
  injection h with h
  unfold World.setCell
  rw [Array.getElem?_modify]
  simp [hl, h]
def set3 (w : World) (z : Nat) (c0 c1 c2 : Value) : World := (((w.setCell ⟨z, 0, none⟩ c0).setCell ⟨z, 1, none⟩ c1).setCell ⟨z, 2, none⟩ c2)
theorem set3_below {B : Nat} {a w : World} (hb : Below B a w) (z : Nat) (hz : B ≤ z) (c0 c1 c2 : Value) : Below B a (set3 w z c0 c1 c2) := (((hb.setCell (p := ⟨z, 0, none⟩) hz c0).setCell (p := ⟨z, 1, none⟩) hz c1).setCell (p := ⟨z, 2, none⟩) hz c2)
theorem set3_row {w : World} {z : Nat} {t : TypeId} {fr : Nat × Nat} {a0 a1 a2 : Value} (h : w.heap[z]? = some (.cells #[a0, a1, a2] t fr)) (c0 c1 c2 : Value) : (set3 w z c0 c1 c2).heap[z]? = some (.cells #[c0, c1, c2] t fr) := by
  have h0 := row_setCell (k := 0) h c0
  simp only [List.setIfInBounds_toArray, List.set_cons_zero] at h0
  have h1 := row_setCell (k := 1) h0 c1
  simp only [List.setIfInBounds_toArray, List.set_cons_zero, List.set_cons_succ] at h1
  have h2 := row_setCell (k := 2) h1 c2
  simp only [List.setIfInBounds_toArray, List.set_cons_zero, List.set_cons_succ] at h2
  exact h2
theorem results_row_tmp {P : Program} {fn : Func} {p q : Tmp} {ty : TypeId} (h : fn.results = #[.cell p ty, .tmp q]) (tmps : Array Value) (w : World) (g : Nat) (t : TypeId) (cs : Array Value) (fr : Nat × Nat) (d : TypeDesc)
    (hp : tmps.getD p undef = .pointer (some ⟨g, 0, none⟩)) (hg : w.heap[g]? = some (.cells cs t fr))
    (hu : P.underlying ty = some d) (hd : (match d with | .struct _ | .array _ _ => true | _ => false) = true) (hi : (P.info? ty).map (·.size) = some cs.size) :
    (results fn tmps).run P w = .ok (.tuple #[.agg cs, tmps.getD q undef]) w := by
  have hp' : tmps[p]?.getD undef = .pointer (some ⟨g, 0, none⟩) := by simpa using hp
  simp [results, h, hp', asAddr, run_loadVar_row w g t ty cs fr d hg hu hd hi]
theorem ext_list (s : ByteArray) (i j : Nat) : (s.extract i j).data.toList = (s.data.toList.drop i).take (j - i) := by
  rw [ByteArray.data_extract, Array.toList_extract]
theorem ext_drop (s : ByteArray) (i : Nat) : (s.extract i s.size).data.toList = s.data.toList.drop i := by
  rw [ext_list, List.take_of_length_le]
  have := Lib.size_eq s
  simp
theorem ext_take (s : ByteArray) (j : Nat) : (s.extract 0 j).data.toList = s.data.toList.take j := by
  rw [ext_list]
  simp
theorem ba_eq {s : ByteArray} {l : List UInt8} (h : s.data.toList = l) : s = ⟨l.toArray⟩ := by
  subst h
  cases s
  simp
abbrev Fo := Option (Nat × List UInt8 × Nat)
def wK (x : Fo) : Nat := match x with
  | none => 0
  | some y => y.1
def wS (x : Fo) : ByteArray := match x with
  | none => ⟨#[]⟩
  | some y => ⟨y.2.1.toArray⟩
def wN (x : Fo) : Nat := match x with
  | none => 0
  | some y => y.2.2
def wV (x : Fo) : Value := .tuple #[.agg #[.int .i64 (wK x : Int), .string (wS x), .int .i64 0], .int .i64 (wN x : Int)]
/- A row of three cells at b, of an empty word. -/
def Z3 (w : World) (b T : Nat) : Prop := w.heap[b]? = some (.cells #[.int .i64 0, .string ⟨#[]⟩, .int .i64 0] T (0, 0))
theorem Z3.new (w : World) (T : Nat) : Z3 (w.alloc (.cells #[.int .i64 0, .string ⟨#[]⟩, .int .i64 0] T)) w.heap.size T := heap_alloc_new w _
theorem Z3.later {w w' : World} {b T : Nat} (h : Z3 w b T) (hb : Below w.heap.size w w') : Z3 w' b T := (hb.block b (lt_of_row h)).trans h
end Go.Proofs.YtfemippjaokcmaaGreatDoor
namespace Go.Proofs.YtfemippjaokcmaaGreatDoor
open Go.RowKit Go.Shelf
def strA (l : List UInt8) : Fo := (qL (l.drop 1)).map (fun x => (4, x.1, x.2 + 1))
set_option maxRecDepth 20000 in
set_option maxHeartbeats 4000000 in
theorem strWord_any (s : ByteArray) (hs : s.size ≤ 10000) (w : World) :
    Calls Tryz.prog 114 #[.string s] w fun e w' => e = .returned (wV (strA s.data.toList)) ∧ Below w.heap.size w w' := by
  have hq := quoted_any s hs (w.alloc (.cells #[.int .i64 0, .string ⟨#[]⟩, .int .i64 0] 128))
  have hV : Hid (wV (strA s.data.toList) = if (qT (qL (s.data.toList.drop 1))).2 = 0 then wV none else .tuple #[.agg #[.int .i64 4, .string (qT (qL (s.data.toList.drop 1))).1, .int .i64 0], .int .i64 ((qT (qL (s.data.toList.drop 1))).2 : Int)]) := by
    have : wV (strA s.data.toList) = if (qT (qL (s.data.toList.drop 1))).2 = 0 then wV none else .tuple #[.agg #[.int .i64 4, .string (qT (qL (s.data.toList.drop 1))).1, .int .i64 0], .int .i64 ((qT (qL (s.data.toList.drop 1))).2 : Int)] := by
      unfold strA
      cases qL (s.data.toList.drop 1) with
      | none => rfl
      | some x => rw [if_neg (by simp [qT])]; rfl
    exact this
  obtain ⟨⟨t, n⟩, hF⟩ : ∃ F, qT (qL (s.data.toList.drop 1)) = F := ⟨_, rfl⟩
  obtain ⟨V, hVV⟩ : ∃ V, wV (strA s.data.toList) = V := ⟨_, rfl⟩
  rw [hF, hVV] at hV
  rw [hVV]
  rw [hF] at hq
  simp only at hq hV
  clear hF hVV
  go_enter Tryz.func114, Tryz.ntmps114
  go_wp2_with fail
  refine hq.mono ?_
  rintro e w1 ⟨rfl, hb1⟩
  have hz : Z3 w1 w.heap.size 128 := (Z3.new w 128).later hb1
  have hB : Below w.heap.size w w1 := ((Below.refl _ w).alloc (Nat.le_refl _) _).trans (hb1.mono (by simp))
  have f0 := frozen_of_row w1 _ 0 _ _ hz
  have f1 := frozen_of_row w1 _ 1 _ _ hz
  have f2 := frozen_of_row w1 _ 2 _ _ hz
  have c0 := cell_of_row w1 _ 0 _ _ _ hz
  have c1 := cell_of_row w1 _ 1 _ _ _ hz
  have c2 := cell_of_row w1 _ 2 _ _ _ hz
  clear hq hb1
  by_cases h0 : n = 0
  · have hV2 := hV.out
    rw [if_pos h0] at hV2
    subst h0
    have HV : Hid (V = wV none) := hV2
    clear hV hV2
    go_wp2
    refine bodyPost_ret (results_row_tmp Tryz.results114 _ _ w.heap.size 128 _ (0, 0) _ rfl (set3_row hz _ _ _) Tryz.underlying128 rfl (by kernel_rfl)) rfl ⟨?_, set3_below hB _ (Nat.le_refl _) _ _ _⟩
    rw [HV.out]
    rfl
  · have hV2 := hV.out
    rw [if_neg h0] at hV2
    have HV : Hid (V = .tuple #[.agg #[.int .i64 4, .string t, .int .i64 0], .int .i64 (n : Int)]) := hV2
    clear hV hV2
    have h0' : ¬ (n : Int) = 0 := by omega
    go_wp2
    refine bodyPost_ret (results_row_tmp Tryz.results114 _ _ w.heap.size 128 _ (0, 0) _ rfl (set3_row hz _ _ _) Tryz.underlying128 rfl (by kernel_rfl)) rfl ⟨?_, set3_below hB _ (Nat.le_refl _) _ _ _⟩
    rw [HV.out]
    rfl
def hexA (l : List UInt8) : Fo := (qL (l.drop 2)).bind (fun x => (hexL x.1).map (fun t => (5, t, x.2 + 2)))
theorem hexA_val (l : List UInt8) : wV (hexA l) = if (qT (qL (l.drop 2))).2 = 0 ∨ (hT (hexL (qT (qL (l.drop 2))).1.data.toList)).2 = false then wV none else .tuple #[.agg #[.int .i64 5, .string (hT (hexL (qT (qL (l.drop 2))).1.data.toList)).1, .int .i64 0], .int .i64 (1 + ((qT (qL (l.drop 2))).2 : Int))] := by
  unfold hexA
  cases qL (l.drop 2) with
  | none => rfl
  | some x =>
    obtain ⟨t, n⟩ := x
    cases hx : hexL t with
    | none => simp [hx, qT, hT]
    | some u =>
      simp [hx, qT, hT, wV, wK, wS, wN]
      omega
theorem qT_size (l : List UInt8) : (qT (qL l)).1.size ≤ l.length ∧ (qT (qL l)).2 ≤ l.length + 1 := by
  cases h : qL l with
  | none => exact ⟨Nat.zero_le _, Nat.zero_le _⟩
  | some x =>
    obtain ⟨t, n⟩ := x
    have := qL_le l t n h
    show t.toArray.size ≤ _ ∧ n + 1 ≤ _
    simp; omega
set_option maxRecDepth 20000 in
set_option maxHeartbeats 4000000 in
theorem hexWord_any (s : ByteArray) (hs : s.size ≤ 10000) (h1 : 1 ≤ s.size) (w : World) :
    Calls Tryz.prog 109 #[.string s] w fun e w' => e = .returned (wV (hexA s.data.toList)) ∧ Below w.heap.size w w' := by
  have hs1 : (s.extract 1 s.size).size ≤ 10000 := by rw [ByteArray.size_extract]; omega
  have hq := quoted_any (s.extract 1 s.size) hs1 (w.alloc (.cells #[.int .i64 0, .string ⟨#[]⟩, .int .i64 0] 128))
  rw [ext_drop, List.drop_drop] at hq
  have hsz := qT_size (s.data.toList.drop 2)
  have hV : Hid (wV (hexA s.data.toList) = _) := hexA_val s.data.toList
  have hl := Lib.size_eq s
  rw [List.length_drop] at hsz
  obtain ⟨⟨t, n⟩, hF⟩ : ∃ F, qT (qL (s.data.toList.drop 2)) = F := ⟨_, rfl⟩
  obtain ⟨V, hVV⟩ : ∃ V, wV (hexA s.data.toList) = V := ⟨_, rfl⟩
  rw [hF, hVV] at hV
  rw [hVV]
  rw [hF] at hq hsz
  simp only at hq hV hsz
  have hts : t.size ≤ 10000 := by omega
  have hn : n ≤ 100000 := by omega
  clear hF hVV hsz hl
  have hu := unhex_any t hts
  obtain ⟨⟨u, ok⟩, hG⟩ : ∃ G, hT (hexL t.data.toList) = G := ⟨_, rfl⟩
  rw [hG] at hV
  rw [hG] at hu
  simp only at hu hV
  clear hG
  have h1' : 1 ≤ (s.size : Int) := by omega
  go_enter Tryz.func109, Tryz.ntmps109
  go_wp2_with fail
  refine hq.mono ?_
  rintro e w0 ⟨rfl, hb0⟩
  go_wp2_with fail
  refine (hu w0).mono ?_
  rintro e w1 ⟨rfl, hb1⟩
  have hz : Z3 w1 w.heap.size 128 := ((Z3.new w 128).later hb0).later hb1
  have hB : Below w.heap.size w w1 := (((Below.refl _ w).alloc (Nat.le_refl _) _).trans (hb0.mono (by simp))).trans (hb1.mono (by have := hb0.size; simp at this; omega))
  have f0 := frozen_of_row w1 _ 0 _ _ hz
  have f1 := frozen_of_row w1 _ 1 _ _ hz
  have f2 := frozen_of_row w1 _ 2 _ _ hz
  have c0 := cell_of_row w1 _ 0 _ _ _ hz
  have c1 := cell_of_row w1 _ 1 _ _ _ hz
  have c2 := cell_of_row w1 _ 2 _ _ _ hz
  clear hq hu hb0 hb1
  by_cases h0 : n = 0
  · have hV2 := hV.out
    rw [if_pos (Or.inl h0)] at hV2
    subst h0
    have HV : Hid (V = wV none) := hV2
    clear hV hV2
    go_wp2
    refine bodyPost_ret (results_row_tmp Tryz.results109 _ _ w.heap.size 128 _ (0, 0) _ rfl (set3_row hz _ _ _) Tryz.underlying128 rfl (by kernel_rfl)) rfl ⟨?_, set3_below hB _ (Nat.le_refl _) _ _ _⟩
    rw [HV.out]
    rfl
  · have h0' : ¬ (n : Int) = 0 := by omega
    cases ok with
    | false =>
      have hV2 := hV.out
      rw [if_pos (Or.inr rfl)] at hV2
      have HV : Hid (V = wV none) := hV2
      clear hV hV2
      go_wp2
      refine bodyPost_ret (results_row_tmp Tryz.results109 _ _ w.heap.size 128 _ (0, 0) _ rfl (set3_row hz _ _ _) Tryz.underlying128 rfl (by kernel_rfl)) rfl ⟨?_, set3_below hB _ (Nat.le_refl _) _ _ _⟩
      rw [HV.out]
      rfl
    | true =>
      have hV2 := hV.out
      rw [if_neg (by simp [h0])] at hV2
      have HV : Hid (V = .tuple #[.agg #[.int .i64 5, .string u, .int .i64 0], .int .i64 (1 + (n : Int))]) := hV2
      clear hV hV2
      go_wp2
      refine bodyPost_ret (results_row_tmp Tryz.results109 _ _ w.heap.size 128 _ (0, 0) _ rfl (set3_row hz _ _ _) Tryz.underlying128 rfl (by kernel_rfl)) rfl ⟨?_, set3_below hB _ (Nat.le_refl _) _ _ _⟩
      rw [HV.out]
      rfl
end Go.Proofs.YtfemippjaokcmaaGreatDoor
namespace Go.Proofs.YtfemippjaokcmaaGreatDoor
open Go.RowKit Go.Shelf
def nameA (l : List UInt8) : Fo := if keyB (l.take (runL inNameB l)) = true then some (2, l.take (runL inNameB l), runL inNameB l) else if (l.take (runL inNameB l)).length ≤ 16 then some (1, l.take (runL inNameB l), runL inNameB l) else none
set_option maxRecDepth 20000 in
set_option maxHeartbeats 4000000 in
theorem nameWord_any (s : ByteArray) (hs : s.size ≤ 10000) (h0 : 0 < s.size) (hd : digitB (chr s 0) = false) (hi : inNameB (chr s 0) = true) (w : World) :
    Calls Tryz.prog 112 #[.string s] w fun e w' => e = .returned (wV (nameA s.data.toList)) ∧ Below w.heap.size w w' := by
  have hr := run_any 110 inNameB en21 inName_any s (by omega)
  have hl := Lib.size_eq s
  have hle := runL_le inNameB s.data.toList
  have hpos : 0 < runL inNameB s.data.toList := by
    obtain ⟨c, hc, he⟩ := at_chr h0
    rw [he] at hi
    have := drop_at hc
    rw [List.drop_zero] at this
    rw [this, runL_pos _ _ hi]
    omega
  have hk := key_any (s.extract 0 (runL inNameB s.data.toList))
  have hn := name_any (s.extract 0 (runL inNameB s.data.toList))
  have hsz : (s.extract 0 (runL inNameB s.data.toList)).size = runL inNameB s.data.toList := by rw [ByteArray.size_extract]; omega
  have hnm : nameB (s.extract 0 (runL inNameB s.data.toList)) = decide (runL inNameB s.data.toList ≤ 16) := by
    rw [nameB_run (by omega), hsz]
    · rw [← hd]
      unfold chr
      rw [ext_take, List.getD_eq_getElem?_getD, List.getD_eq_getElem?_getD, List.getElem?_take, if_pos hpos]
    · rw [ext_take]
      exact runL_take inNameB _
  rw [hnm] at hn
  have hb : s.extract 0 (runL inNameB s.data.toList) = ⟨(s.data.toList.take (runL inNameB s.data.toList)).toArray⟩ := ba_eq (ext_take _ _)
  have hV : wV (nameA s.data.toList) = if keyB (s.extract 0 (runL inNameB s.data.toList)).data.toList = true then .tuple #[.agg #[.int .i64 2, .string (s.extract 0 (runL inNameB s.data.toList)), .int .i64 0], .int .i64 (runL inNameB s.data.toList : Int)] else if runL inNameB s.data.toList ≤ 16 then .tuple #[.agg #[.int .i64 1, .string (s.extract 0 (runL inNameB s.data.toList)), .int .i64 0], .int .i64 (runL inNameB s.data.toList : Int)] else wV none := by
    unfold nameA
    rw [hb, List.length_take, Nat.min_eq_left hle]
    show _ = if keyB ((s.data.toList.take (runL inNameB s.data.toList)).toArray.toList) = true then _ else _
    rw [List.toList_toArray]
    split
    · rfl
    · split <;> rfl
  obtain ⟨V, hVV⟩ : ∃ V, wV (nameA s.data.toList) = V := ⟨_, rfl⟩
  rw [hVV] at hV ⊢
  obtain ⟨K, hK⟩ : ∃ K, keyB (s.extract 0 (runL inNameB s.data.toList)).data.toList = K := ⟨_, rfl⟩
  rw [hK] at hV hk
  clear hK hVV hb hsz hnm hd hi
  obtain ⟨r, hrr⟩ : ∃ r, runL inNameB s.data.toList = r := ⟨_, rfl⟩
  rw [hrr] at hr hle hpos hk hn hV
  have hrs : (r : Int) ≤ (s.size : Int) := by omega
  clear hrr hle hl
  go_enter Tryz.func112, Tryz.ntmps112
  go_wp2_with fail
  refine (hr _).mono ?_
  rintro e w2 ⟨rfl, rfl⟩
  obtain ⟨w1, hw1⟩ : ∃ w1, w1 = w.alloc (.cells #[.int .i64 0, .string ⟨#[]⟩, .int .i64 0] 128) := ⟨_, rfl⟩
  have hz : Z3 w1 w.heap.size 128 := by rw [hw1]; exact Z3.new w 128
  have hB : Below w.heap.size w w1 := by rw [hw1]; exact (Below.refl _ w).alloc (Nat.le_refl _) _
  have f0 := frozen_of_row w1 _ 0 _ _ hz
  have f1 := frozen_of_row w1 _ 1 _ _ hz
  have f2 := frozen_of_row w1 _ 2 _ _ hz
  have c0 := cell_of_row w1 _ 0 _ _ _ hz
  have c1 := cell_of_row w1 _ 1 _ _ _ hz
  have c2 := cell_of_row w1 _ 2 _ _ _ hz
  rw [← hw1]
  clear hw1
  go_wp2_with fail
  refine (hk _).mono ?_
  rintro e w3 ⟨rfl, rfl⟩
  cases K with
  | true =>
    rw [if_pos rfl] at hV
    have HV : Hid (V = _) := hV
    clear hV
    go_wp2
    refine bodyPost_ret (results_row_tmp Tryz.results112 _ _ w.heap.size 128 _ (0, 0) _ rfl (set3_row hz _ _ _) Tryz.underlying128 rfl (by kernel_rfl)) rfl ⟨?_, set3_below hB _ (Nat.le_refl _) _ _ _⟩
    rw [HV.out]
    rfl
  | false =>
    rw [if_neg (by simp)] at hV
    by_cases h16 : r ≤ 16
    · rw [if_pos h16] at hV
      rw [decide_eq_true h16] at hn
      have HV : Hid (V = _) := hV
      clear hV
      go_wp2_with (go_at_call 130; refine (hn _).mono ?_; rintro e w4 ⟨rfl, rfl⟩)
      refine bodyPost_ret (results_row_tmp Tryz.results112 _ _ w.heap.size 128 _ (0, 0) _ rfl (set3_row hz _ _ _) Tryz.underlying128 rfl (by kernel_rfl)) rfl ⟨?_, set3_below hB _ (Nat.le_refl _) _ _ _⟩
      rw [HV.out]
      rfl
    · rw [if_neg h16] at hV
      rw [decide_eq_false h16] at hn
      have HV : Hid (V = _) := hV
      clear hV
      go_wp2_with (go_at_call 130; refine (hn _).mono ?_; rintro e w4 ⟨rfl, rfl⟩)
      refine bodyPost_ret (results_row_tmp Tryz.results112 _ _ w.heap.size 128 _ (0, 0) _ rfl (set3_row hz _ _ _) Tryz.underlying128 rfl (by kernel_rfl)) rfl ⟨?_, set3_below hB _ (Nat.le_refl _) _ _ _⟩
      rw [HV.out]
      rfl
end Go.Proofs.YtfemippjaokcmaaGreatDoor
namespace Go.Proofs.YtfemippjaokcmaaGreatDoor
open Go.RowKit Go.Shelf
theorem index_sign (c : UInt8) : decide (0 ≤ Lib.indexByte [61, 60, 62, 43, 45, 42, 40, 41, 123, 125, 91, 93, 44, 58, 46] c) = signsL.contains c := by
  have : ∀ n : Fin 256, decide (0 ≤ Lib.indexByte [61, 60, 62, 43, 45, 42, 40, 41, 123, 125, 91, 93, 44, 58, 46] (UInt8.ofNat n.val)) = signsL.contains (UInt8.ofNat n.val) := by decide +kernel
  have h := this ⟨c.toNat, UInt8.toNat_lt c⟩
  simpa using h
theorem index_one (c : UInt8) (x : Int) (hx : x = (c.toNat : Int)) (w : World) : Calls Tryz.prog 159 #[.string ⟨#[61, 60, 62, 43, 45, 42, 40, 41, 123, 125, 91, 93, 44, 58, 46]⟩, .int .u8 x] w fun e w' => (∃ v : Int, e = .returned (.int .i64 v) ∧ decide (0 ≤ v) = signsL.contains c) ∧ w' = w := by
  refine (Tryz.strings_IndexByte _ x w).mono ?_
  rintro e w' ⟨rfl, rfl⟩
  refine ⟨⟨_, rfl, ?_⟩, rfl⟩
  rw [← index_sign c, hx]
  simp
set_option maxRecDepth 20000 in
set_option maxHeartbeats 4000000 in
theorem signSize_any (s : ByteArray) (h0 : 0 < s.size) (w : World) :
    Calls Tryz.prog 141 #[.string s] w fun e w' => e = .returned (.int .i64 (signN s.data.toList : Int)) ∧ w' = w := by
  obtain ⟨c, hc, he⟩ := at_chr h0
  have hce : ((s[0].toNat : Nat) : Int) = (c.toNat : Int) := by rw [chr_eq s 0 h0, he]
  have hi := index_one c _ hce
  have hd := drop_at hc
  rw [List.drop_zero] at hd
  have p1 := Tryz.strings_HasPrefix s ⟨#[60, 62]⟩
  have p2 := Tryz.strings_HasPrefix s ⟨#[60, 61]⟩
  have p3 := Tryz.strings_HasPrefix s ⟨#[62, 61]⟩
  have hV : signN s.data.toList = if (Lib.hasPrefix s.data.toList [60, 62] || Lib.hasPrefix s.data.toList [60, 61] || Lib.hasPrefix s.data.toList [62, 61]) = true then 2 else if signsL.contains c = true then 1 else 0 := by
    rw [hd]
    rfl
  simp only at p1 p2 p3
  obtain ⟨V, hVV⟩ : ∃ V, signN s.data.toList = V := ⟨_, rfl⟩
  obtain ⟨A, hA⟩ : ∃ A, Lib.hasPrefix s.data.toList [60, 62] = A := ⟨_, rfl⟩
  obtain ⟨B, hB⟩ : ∃ B, Lib.hasPrefix s.data.toList [60, 61] = B := ⟨_, rfl⟩
  obtain ⟨D, hD⟩ : ∃ D, Lib.hasPrefix s.data.toList [62, 61] = D := ⟨_, rfl⟩
  obtain ⟨S, hS⟩ : ∃ S, signsL.contains c = S := ⟨_, rfl⟩
  rw [hVV] at hV ⊢
  rw [hA, hB, hD, hS] at hV
  rw [hS] at hi
  rw [hA] at p1
  rw [hB] at p2
  rw [hD] at p3
  have HV : Hid (V = _) := hV
  have h0' : 0 < (s.size : Int) := by omega
  clear hVV hA hB hD hS hV hc he hce hd
  go_enter Tryz.func141, Tryz.ntmps141
  go_wp2_with fail
  refine (p1 _).mono ?_
  rintro e w2 ⟨rfl, rfl⟩
  cases A with
  | true =>
    go_wp2
    go_ret
    rw [HV.out]
    exact ⟨rfl, rfl⟩
  | false =>
    go_wp2_with fail
    refine (p2 _).mono ?_
    rintro e w2 ⟨rfl, rfl⟩
    cases B with
    | true =>
      go_wp2
      go_ret
      rw [HV.out]
      exact ⟨rfl, rfl⟩
    | false =>
      go_wp2_with fail
      refine (p3 _).mono ?_
      rintro e w2 ⟨rfl, rfl⟩
      cases D with
      | true =>
        go_wp2
        go_ret
        rw [HV.out]
        exact ⟨rfl, rfl⟩
      | false =>
        go_wp2_with fail
        refine (hi _).mono ?_
        rintro e w2 ⟨⟨v, rfl, hv⟩, rfl⟩
        cases S with
        | true =>
          have hv' : 0 ≤ v := by simpa using hv
          go_wp2
          go_ret
          rw [HV.out]
          exact ⟨rfl, rfl⟩
        | false =>
          have hv' : ¬ 0 ≤ v := by simpa using hv
          go_wp2
          go_ret
          rw [HV.out]
          exact ⟨rfl, rfl⟩
def signA (l : List UInt8) : Fo := if signN l = 0 then none else some (6, l.take (signN l), signN l)
set_option maxRecDepth 20000 in
set_option maxHeartbeats 4000000 in
theorem signWord_any (s : ByteArray) (h0 : 0 < s.size) (w : World) :
    Calls Tryz.prog 115 #[.string s] w fun e w' => e = .returned (wV (signA s.data.toList)) ∧ Below w.heap.size w w' := by
  have hr := signSize_any s h0
  have hl := Lib.size_eq s
  have hle := signN_le s.data.toList
  have hb : s.extract 0 (signN s.data.toList) = ⟨(s.data.toList.take (signN s.data.toList)).toArray⟩ := ba_eq (ext_take _ _)
  have hV : wV (signA s.data.toList) = if signN s.data.toList = 0 then wV none else .tuple #[.agg #[.int .i64 6, .string (s.extract 0 (signN s.data.toList)), .int .i64 0], .int .i64 (signN s.data.toList : Int)] := by
    unfold signA
    rw [hb]
    split <;> rfl
  obtain ⟨V, hVV⟩ : ∃ V, wV (signA s.data.toList) = V := ⟨_, rfl⟩
  rw [hVV] at hV ⊢
  obtain ⟨r, hrr⟩ : ∃ r, signN s.data.toList = r := ⟨_, rfl⟩
  rw [hrr] at hr hle hV
  have hrs : (r : Int) ≤ (s.size : Int) := by omega
  clear hrr hle hl hb hVV
  go_enter Tryz.func115, Tryz.ntmps115
  go_wp2_with fail
  refine (hr _).mono ?_
  rintro e w2 ⟨rfl, rfl⟩
  obtain ⟨w1, hw1⟩ : ∃ w1, w1 = w.alloc (.cells #[.int .i64 0, .string ⟨#[]⟩, .int .i64 0] 128) := ⟨_, rfl⟩
  have hz : Z3 w1 w.heap.size 128 := by rw [hw1]; exact Z3.new w 128
  have hB : Below w.heap.size w w1 := by rw [hw1]; exact (Below.refl _ w).alloc (Nat.le_refl _) _
  have f0 := frozen_of_row w1 _ 0 _ _ hz
  have f1 := frozen_of_row w1 _ 1 _ _ hz
  have f2 := frozen_of_row w1 _ 2 _ _ hz
  have c0 := cell_of_row w1 _ 0 _ _ _ hz
  have c1 := cell_of_row w1 _ 1 _ _ _ hz
  have c2 := cell_of_row w1 _ 2 _ _ _ hz
  rw [← hw1]
  clear hw1
  by_cases hz0 : r = 0
  · subst hz0
    rw [if_pos rfl] at hV
    have HV : Hid (V = _) := hV
    clear hV
    go_wp2
    refine bodyPost_ret (results_row_tmp Tryz.results115 _ _ w.heap.size 128 _ (0, 0) _ rfl (set3_row hz _ _ _) Tryz.underlying128 rfl (by kernel_rfl)) rfl ⟨?_, set3_below hB _ (Nat.le_refl _) _ _ _⟩
    rw [HV.out]
    rfl
  · rw [if_neg hz0] at hV
    have HV : Hid (V = _) := hV
    clear hV
    have hz1 : ¬ (r : Int) = 0 := by omega
    go_wp2
    refine bodyPost_ret (results_row_tmp Tryz.results115 _ _ w.heap.size 128 _ (0, 0) _ rfl (set3_row hz _ _ _) Tryz.underlying128 rfl (by kernel_rfl)) rfl ⟨?_, set3_below hB _ (Nat.le_refl _) _ _ _⟩
    rw [HV.out]
    rfl
/- Numbers: what ParseInt says of digits. -/
theorem parseM_cons (M a : Nat) (c : UInt8) (r : List UInt8) (h : 48 ≤ c.toNat ∧ c.toNat ≤ 57) : Lib.parseUintM M a (c :: r) = if 1844674407370955162 ≤ a then .range else if M < a * 10 + (c.toNat - 48) then .range else Lib.parseUintM M (a * 10 + (c.toNat - 48)) r := by
  simp only [Lib.parseUintM, if_pos h]
theorem parseM_digits (M : Nat) (hM : M = 18446744073709551615) : ∀ (l : List UInt8) (a : Nat), (∀ c ∈ l, digitB (c.toNat : Int) = true) → a ≤ M → Lib.parseUintM M a l = if valL a l ≤ M then .ok (valL a l) else .range
  | [], a, _, ha => by
    show Lib.NumEnd.ok a = if a ≤ M then .ok a else .range
    rw [if_pos ha]
  | c :: r, a, h, ha => by
    have hc := h c (by simp)
    unfold digitB at hc
    have hc1 : 48 ≤ c.toNat ∧ c.toNat ≤ 57 := by simp at hc; omega
    rw [parseM_cons M a c r hc1, valL_cons, show stp a c = a * 10 + (c.toNat - 48) from rfl]
    obtain ⟨y, hy⟩ : ∃ y, a * 10 + (c.toNat - 48) = y := ⟨_, rfl⟩
    rw [hy]
    have hg := valL_ge r y
    by_cases h1 : 1844674407370955162 ≤ a
    · rw [if_pos h1, if_neg (by omega)]
    · rw [if_neg h1]
      by_cases h2 : M < y
      · rw [if_pos h2, if_neg (by omega)]
      · rw [if_neg h2, parseM_digits M hM r _ (fun d hd => h d (List.mem_cons_of_mem _ hd)) (by omega)]
theorem parse_digits {l : List UInt8} (h0 : l ≠ []) (h : ∀ c ∈ l, digitB (c.toNat : Int) = true) : Lib.parseIntB 64 l = if valL 0 l ≤ 9223372036854775807 then .ok (valL 0 l : Int) else .range := by
  cases l with
  | nil => exact absurd rfl h0
  | cons c r =>
    have hc := h c (by simp)
    unfold digitB at hc
    have hc1 : 48 ≤ c.toNat ∧ c.toNat ≤ 57 := by simp at hc; omega
    rw [Lib.parseIntB_plain 64 c r (by omega) (by omega)]
    unfold Lib.parseUintB
    rw [if_neg (List.cons_ne_nil c r), parseM_digits _ (by decide) _ 0 h (Nat.zero_le _)]
    obtain ⟨v, hv⟩ : ∃ v, valL 0 (c :: r) = v := ⟨_, rfl⟩
    rw [hv]
    by_cases h1 : v ≤ 9223372036854775807
    · rw [if_pos h1, if_pos (by omega)]
      unfold Lib.signlessC
      simp only
      rw [if_neg (by omega)]
    · rw [if_neg h1]
      by_cases h2 : v ≤ 2 ^ 64 - 1
      · rw [if_pos h2]
        unfold Lib.signlessC
        simp only
        rw [if_pos (by omega)]
      · rw [if_neg h2]
        rfl
end Go.Proofs.YtfemippjaokcmaaGreatDoor
