/- A text between quotes (quoted), and the bytes of pairs of digits (unhex). -/
import Derived.Test.YthgagldpjledgaaGreatDoorBy
namespace Go.Proofs.YthgagldpjledgaaGreatDoor
open Go.RowKit Go.Shelf
theorem drop_at {l : List UInt8} {i : Nat} {c : UInt8} (h : l[i]? = some c) : l.drop i = c :: l.drop (i + 1) := by
  have hi : i < l.length := by
    rcases Nat.lt_or_ge i l.length with h2 | h2
    · exact h2
    · rw [List.getElem?_eq_none h2] at h; cases h
  rw [List.drop_eq_getElem_cons hi]
  rw [List.getElem?_eq_getElem hi] at h
  injection h with h
  rw [h]
def qT (x : Option (List UInt8 × Nat)) : ByteArray × Nat := match x with
  | none => (⟨#[]⟩, 0)
  | some y => (⟨y.1.toArray⟩, y.2 + 1)
/- What is known in the round: what stands behind place i makes, with what was taken, the whole. -/
structure QI (s : ByteArray) (i : Nat) (l : List UInt8) : Prop where
  one : 1 ≤ i
  le : l.length ≤ i
  all : qL (s.data.toList.drop 1) = (qL (s.data.toList.drop i)).map (fun x => (l ++ x.1, x.2 + (i - 1)))
theorem QI.start (s : ByteArray) : QI s 1 [] := ⟨Nat.le_refl _, Nat.zero_le _, by cases qL (s.data.toList.drop 1) <;> simp⟩
theorem QI.other {s : ByteArray} {i : Nat} {l : List UInt8} {c : UInt8} (h : QI s i l) (hc : s.data.toList[i]? = some c) (h39 : c ≠ 39) : QI s (i + 1) (l ++ [c]) := by
  refine ⟨by omega, by have := h.le; simp; omega, ?_⟩
  have h1 := h.one
  rw [h.all, drop_at hc, qL_other h39]
  cases qL (s.data.toList.drop (i + 1)) with
  | none => rfl
  | some x => simp; omega
theorem QI.two {s : ByteArray} {i : Nat} {l : List UInt8} (h : QI s i l) (hc : s.data.toList[i]? = some 39) (hd : s.data.toList[i + 1]? = some 39) : QI s (i + 1 + 1) (l ++ [39]) := by
  refine ⟨by omega, by have := h.le; simp; omega, ?_⟩
  have h1 := h.one
  rw [h.all, drop_at hc, drop_at hd, qL_two]
  cases qL (s.data.toList.drop (i + 1 + 1)) with
  | none => rfl
  | some x => simp; omega
theorem QI.done {s : ByteArray} {i : Nat} {l : List UInt8} (h : QI s i l) (hc : s.data.toList[i]? = some 39) (hd : s.data.toList[i + 1]? ≠ some 39) : qT (qL (s.data.toList.drop 1)) = (⟨l.toArray⟩, i + 1) := by
  have h1 := h.one
  rw [h.all, drop_at hc, qL_end (by rw [List.getElem?_drop]; exact hd)]
  simp [qT]
  omega
theorem QI.none {s : ByteArray} {i : Nat} {l : List UInt8} (h : QI s i l) (hc : s.data.toList.length ≤ i) : qT (qL (s.data.toList.drop 1)) = (⟨#[]⟩, 0) := by
  rw [h.all, List.drop_eq_nil_of_le hc]
  rfl
theorem byte_of {x : UInt8} {n : Nat} (h : (x.toNat : Int) = (n : Int)) (_ : n < 256) : x = UInt8.ofNat n := by
  have : x.toNat = n := by omega
  rw [← this]
  simp
set_option maxRecDepth 20000 in
set_option maxHeartbeats 4000000 in
theorem quoted_any (s : ByteArray) (hs : s.size ≤ 10000) (w : World) :
    Calls Tryz.prog 83 #[.string s] w fun e w' => e = .returned (.tuple #[.string (qT (qL (s.data.toList.drop 1))).1, .int .i64 ((qT (qL (s.data.toList.drop 1))).2 : Int)]) ∧ Below w.heap.size w w' := by
  obtain ⟨F, hF⟩ : ∃ F, qT (qL (s.data.toList.drop 1)) = F := ⟨_, rfl⟩
  rw [hF]
  have HF : Hid (qT (qL (s.data.toList.drop 1)) = F) := hF
  clear hF
  have hl := Lib.size_eq s
  have HL : Hid (s.size = s.data.toList.length) := hl
  clear hl
  go_enter Tryz.func83, Tryz.ntmps83
  go_wp2
  go_loopw [5] (fun c5 wr => ∃ (i : Nat) (l : List UInt8), i ≤ s.size + 1 ∧ c5 = .int .i64 (i : Int) ∧ Hid (QI s i l) ∧ Bld wr w.heap.size l ∧ Below w.heap.size w wr) (fun c5 _ => s.size + 1 - (intOf c5).toNat)
  case atStart => exact ⟨1, [], by omega, rfl, QI.start s, bld_new w, (Below.refl _ w).alloc (Nat.le_refl _) _⟩
  case round =>
    obtain ⟨i, l, hi, rfl, hq, hb, hB⟩ := hrel
    have hlen : Hid (l.length ≤ 1000000) := by
      have h1 := hq.out.le
      have : l.length ≤ 1000000 := by omega
      exact this
    have hone : 1 ≤ i := hq.out.one
    by_cases hlt : i < s.size
    · have hlt' : (i : Int) < (s.size : Int) := by omega
      obtain ⟨c, hc, he⟩ := at_chr hlt
      have HC : Hid (s.data.toList[i]? = some c) := hc
      have hce : ((s[i].toNat : Nat) : Int) = (c.toNat : Int) := by rw [chr_eq s i hlt, he]
      clear he hc
      by_cases h39 : c = 39
      · have h39' : ((s[i].toNat : Nat) : Int) = 39 := by rw [hce, h39]; rfl
        have HE : Hid (c = 39) := h39
        clear h39 hce
        by_cases hlast : i + 1 = s.size
        · have hlast' : (i : Int) + 1 = (s.size : Int) := by omega
          go_wp2_with (go_at_call 105; refine (b_str _ _ _ hb).mono ?_; rintro e w1 ⟨rfl, hb1⟩)
          go_ret2
          refine ⟨?_, hB.trans hb1⟩
          rw [← HF.out, hq.out.done (by rw [HC.out, HE.out]) (by rw [List.getElem?_eq_none (by have := HL.out; omega)]; simp)]
          simp
          omega
        · have hlast' : ¬ (i : Int) + 1 = (s.size : Int) := by omega
          have hlt1 : i + 1 < s.size := by omega
          obtain ⟨d, hd, hed⟩ := at_chr hlt1
          have HD : Hid (s.data.toList[i + 1]? = some d) := hd
          have hde : ((s[i + 1].toNat : Nat) : Int) = (d.toNat : Int) := by rw [chr_eq s (i + 1) hlt1, hed]
          clear hed hd
          have hlt1' : (i : Int) + 1 < (s.size : Int) := by omega
          by_cases hd39 : d = 39
          · have hd39' : ((s[i + 1].toNat : Nat) : Int) = 39 := by rw [hde, hd39]; rfl
            have HE2 : Hid (d = 39) := hd39
            clear hd39 hde
            go_wp2_with (go_at_call 106; refine (b_byte _ _ 39 _ hb hlen.out _ (by first | rfl | assumption)).mono ?_; rintro e w1 ⟨rfl, hb1, hb2⟩)
            go_roundw
            case rel => exact ⟨i + 1 + 1, l ++ [39], by omega, by go_num, hq.out.two (by rw [HC.out, HE.out]) (by rw [HD.out, HE2.out]), hb1, hB.trans hb2⟩
            case measure => simp [intOf]; omega
          · have hd39' : ¬ ((s[i + 1].toNat : Nat) : Int) = 39 := by
              rw [hde]
              intro e
              exact hd39 (byte_of e (by decide))
            have HE2 : Hid (d ≠ 39) := hd39
            clear hd39 hde
            go_wp2_with (go_at_call 105; refine (b_str _ _ _ hb).mono ?_; rintro e w1 ⟨rfl, hb1⟩)
            go_ret2
            refine ⟨?_, hB.trans hb1⟩
            rw [← HF.out, hq.out.done (by rw [HC.out, HE.out]) (by rw [HD.out]; exact fun e => HE2.out (Option.some.inj e))]
            simp
      · have h39' : ¬ ((s[i].toNat : Nat) : Int) = 39 := by
          rw [hce]
          intro e
          exact h39 (byte_of e (by decide))
        have HE : Hid (c ≠ 39) := h39
        have HCE : Hid (((s[i].toNat : Nat) : Int) = (c.toNat : Int)) := hce
        clear h39 hce
        go_wp2_with (go_at_call 106; refine (b_byte _ _ c _ hb hlen.out _ (by exact HCE.out)).mono ?_; rintro e w1 ⟨rfl, hb1, hb2⟩)
        go_roundw
        case rel => exact ⟨i + 1, l ++ [c], by omega, by go_num, hq.out.other HC.out HE.out, hb1, hB.trans hb2⟩
        case measure => simp [intOf]; omega
    · have hlt' : ¬ (i : Int) < (s.size : Int) := by omega
      go_wp2
      go_ret2
      refine ⟨?_, hB⟩
      rw [← HF.out, hq.out.none (by have := HL.out; omega)]
      rfl
def hT (x : Option (List UInt8)) : ByteArray × Bool := match x with
  | none => (⟨#[]⟩, false)
  | some y => (⟨y.toArray⟩, true)
theorem hexV_le (c : UInt8) : hexV c ≤ 16 := by unfold hexV; split <;> (try split) <;> omega
theorem index_hex (c : UInt8) : Lib.indexByte [48, 49, 50, 51, 52, 53, 54, 55, 56, 57, 97, 98, 99, 100, 101, 102] c = if hexV c < 16 then (hexV c : Int) else -1 := by
  revert c
  have : ∀ n : Fin 256, Lib.indexByte [48, 49, 50, 51, 52, 53, 54, 55, 56, 57, 97, 98, 99, 100, 101, 102] (UInt8.ofNat n.val) = if hexV (UInt8.ofNat n.val) < 16 then (hexV (UInt8.ofNat n.val) : Int) else -1 := by decide +kernel
  intro c
  have h := this ⟨c.toNat, UInt8.toNat_lt c⟩
  simpa using h
structure HI (s : ByteArray) (i : Nat) (l : List UInt8) : Prop where
  le : l.length ≤ i
  all : hexL s.data.toList = (hexL (s.data.toList.drop i)).map (fun x => l ++ x)
theorem HI.start (s : ByteArray) : HI s 0 [] := ⟨Nat.le_refl _, by rw [List.drop_zero]; cases hexL s.data.toList <;> rfl⟩
theorem HI.step {s : ByteArray} {i : Nat} {l : List UInt8} {a b : UInt8} (h : HI s i l) (ha : s.data.toList[i]? = some a) (hb : s.data.toList[i + 1]? = some b) (h1 : hexV a < 16) (h2 : hexV b < 16) : HI s (i + 2) (l ++ [UInt8.ofNat (hexV a * 16 + hexV b)]) := by
  refine ⟨by have := h.le; simp; omega, ?_⟩
  rw [h.all, drop_at ha, drop_at hb, hexL, if_pos ⟨h1, h2⟩]
  cases hexL (s.data.toList.drop (i + 1 + 1)) with
  | none => rfl
  | some x => simp
theorem HI.bad {s : ByteArray} {i : Nat} {l : List UInt8} {a b : UInt8} (h : HI s i l) (ha : s.data.toList[i]? = some a) (hb : s.data.toList[i + 1]? = some b) (h1 : ¬ (hexV a < 16 ∧ hexV b < 16)) : hT (hexL s.data.toList) = (⟨#[]⟩, false) := by
  rw [h.all, drop_at ha, drop_at hb, hexL, if_neg h1]
  rfl
theorem HI.odd {s : ByteArray} {i : Nat} {l : List UInt8} {a : UInt8} (h : HI s i l) (ha : s.data.toList[i]? = some a) (hb : s.data.toList[i + 1]? = none) : hT (hexL s.data.toList) = (⟨#[]⟩, false) := by
  rw [h.all, drop_at ha, List.drop_eq_nil_of_le (by simpa using hb)]
  rfl
theorem HI.done {s : ByteArray} {i : Nat} {l : List UInt8} (h : HI s i l) (hi : s.data.toList.length ≤ i) : hT (hexL s.data.toList) = (⟨l.toArray⟩, true) := by
  rw [h.all, List.drop_eq_nil_of_le hi]
  simp [hexL, hT]
theorem hexT_odd {s : ByteArray} (h : s.data.toList.length % 2 = 1) : hT (hexL s.data.toList) = (⟨#[]⟩, false) := by
  rw [hexL_odd _ h]
  rfl
theorem index_at (c : UInt8) (x : Int) (hx : x = (c.toNat : Int)) (w : World) : Calls Tryz.prog 107 #[.string ⟨#[48, 49, 50, 51, 52, 53, 54, 55, 56, 57, 97, 98, 99, 100, 101, 102]⟩, .int .u8 x] w fun e w' => e = .returned (.int .i64 (if hexV c < 16 then (hexV c : Int) else -1)) ∧ w' = w := by
  refine (Tryz.strings_IndexByte _ x w).mono ?_
  rintro e w' ⟨rfl, rfl⟩
  refine ⟨?_, rfl⟩
  rw [← index_hex c, hx]
  simp
theorem glue_bits (a b : Nat) (ha : a < 16) (hb : b < 16) : Go.bits .or .i64 ((a : Int) * 16) (b : Int) % 256 = ((UInt8.ofNat (a * 16 + b)).toNat : Int) := by
  have : ∀ a : Fin 16, ∀ b : Fin 16, Go.bits .or .i64 ((a.val : Int) * 16) (b.val : Int) % 256 = ((UInt8.ofNat (a.val * 16 + b.val)).toNat : Int) := by decide +kernel
  exact this ⟨a, ha⟩ ⟨b, hb⟩
set_option maxRecDepth 20000 in
set_option maxHeartbeats 4000000 in
theorem unhex_any (s : ByteArray) (hs : s.size ≤ 10000) (w : World) :
    Calls Tryz.prog 84 #[.string s] w fun e w' => e = .returned (.tuple #[.string (hT (hexL s.data.toList)).1, .bool (hT (hexL s.data.toList)).2]) ∧ Below w.heap.size w w' := by
  obtain ⟨F, hF⟩ : ∃ F, hT (hexL s.data.toList) = F := ⟨_, rfl⟩
  rw [hF]
  have HF : Hid (hT (hexL s.data.toList) = F) := hF
  clear hF
  have hl := Lib.size_eq s
  have HL : Hid (s.size = s.data.toList.length) := hl
  clear hl
  by_cases hodd : s.size % 2 = 1
  · have hodd' : Int.tmod (s.size : Int) 2 = 1 := by rw [Int.tmod_eq_emod_of_nonneg (by omega)]; omega
    go_enter Tryz.func84, Tryz.ntmps84
    go_wp2
    go_ret2
    refine ⟨?_, Below.refl _ _⟩
    rw [← HF.out, hexT_odd (by rw [← HL.out]; exact hodd)]
    rfl
  · have hodd' : Int.tmod (s.size : Int) 2 = 0 := by rw [Int.tmod_eq_emod_of_nonneg (by omega)]; omega
    go_enter Tryz.func84, Tryz.ntmps84
    go_wp2
    go_loopw [5] (fun c5 wr => ∃ (i : Nat) (l : List UInt8), i ≤ s.size ∧ i % 2 = 0 ∧ c5 = .int .i64 (i : Int) ∧ Hid (HI s i l) ∧ Bld wr w.heap.size l ∧ Below w.heap.size w wr) (fun c5 _ => s.size - (intOf c5).toNat)
    case atStart => exact ⟨0, [], by omega, rfl, rfl, HI.start s, bld_new w, (Below.refl _ w).alloc (Nat.le_refl _) _⟩
    case round =>
      obtain ⟨i, l, hi, hev, rfl, hq, hb, hB⟩ := hrel
      have hlen : Hid (l.length ≤ 1000000) := by
        have h1 := hq.out.le
        have : l.length ≤ 1000000 := by omega
        exact this
      by_cases hlt : i < s.size
      · have hlt' : (i : Int) < (s.size : Int) := by omega
        have hlt1 : i + 1 < s.size := by omega
        have hlt1' : (i : Int) + 1 < (s.size : Int) := by omega
        obtain ⟨a, ha, hea⟩ := at_chr hlt
        obtain ⟨b, hb', heb⟩ := at_chr hlt1
        have HA : Hid (s.data.toList[i]? = some a) := ha
        have HB : Hid (s.data.toList[i + 1]? = some b) := hb'
        have HAE : Hid (((s[i].toNat : Nat) : Int) = (a.toNat : Int)) := by
          have : ((s[i].toNat : Nat) : Int) = (a.toNat : Int) := by rw [chr_eq s i hlt, hea]
          exact this
        have HBE : Hid (((s[i + 1].toNat : Nat) : Int) = (b.toNat : Int)) := by
          have : ((s[i + 1].toNat : Nat) : Int) = (b.toNat : Int) := by rw [chr_eq s (i + 1) hlt1, heb]
          exact this
        clear hea heb ha hb'
        by_cases hh : hexV a < 16 ∧ hexV b < 16
        · have c1 := index_at a _ HAE.out
          have c2 := index_at b _ HBE.out
          rw [if_pos hh.1] at c1
          rw [if_pos hh.2] at c2
          have hg := glue_bits (hexV a) (hexV b) hh.1 hh.2
          obtain ⟨x, hx⟩ : ∃ x, hexV a = x := ⟨_, rfl⟩
          obtain ⟨y, hy⟩ : ∃ y, hexV b = y := ⟨_, rfl⟩
          have HX : Hid (hexV a = x) := hx
          have HY : Hid (hexV b = y) := hy
          have HH : Hid (hexV a < 16 ∧ hexV b < 16) := hh
          rw [hx] at c1 hg hh
          rw [hy] at c2 hg hh
          clear hx hy
          go_wp2_with fail
          refine (c1 _).mono ?_
          rintro e w1 ⟨rfl, rfl⟩
          go_wp2_with fail
          refine (c2 _).mono ?_
          rintro e w1 ⟨rfl, rfl⟩
          have HG : Hid (Go.bits .or .i64 ((x : Int) * 16) (y : Int) % 256 = ((UInt8.ofNat (x * 16 + y)).toNat : Int)) := hg
          clear hg
          have hyd : decide ((y : Int) < 0) = false := decide_eq_false (by omega)
          have hxd : decide ((x : Int) < 0) = false := decide_eq_false (by omega)
          go_wp2_with fail
          refine (b_byte _ _ (UInt8.ofNat (x * 16 + y)) _ hb hlen.out _ HG.out).mono ?_
          rintro e w1 ⟨rfl, hb1, hb2⟩
          go_wp2_with fail
          go_roundw
          case rel => exact ⟨i + 2, l ++ [UInt8.ofNat (x * 16 + y)], by omega, by omega, by go_num, (by rw [← HX.out, ← HY.out]; exact hq.out.step HA.out HB.out HH.out.1 HH.out.2), hb1, hB.trans hb2⟩
          case measure => simp [intOf]; omega
        · have hbad := hq.out.bad HA.out HB.out hh
          have HBAD : Hid (hT (hexL s.data.toList) = (⟨#[]⟩, false)) := hbad
          clear hbad
          have c1 := index_at a _ HAE.out
          have c2 := index_at b _ HBE.out
          by_cases h1 : hexV a < 16
          · rw [if_pos h1] at c1
            rw [if_neg (fun h2 => hh ⟨h1, h2⟩)] at c2
            obtain ⟨x, hx⟩ : ∃ x, hexV a = x := ⟨_, rfl⟩
            rw [hx] at c1
            clear hx hh h1
            have hxd : decide ((x : Int) < 0) = false := decide_eq_false (by omega)
            have hxn : ¬ (x : Int) < 0 := by omega
            go_wp2_with fail
            refine (c1 _).mono ?_
            rintro e w1 ⟨rfl, rfl⟩
            go_wp2_with fail
            refine (c2 _).mono ?_
            rintro e w1 ⟨rfl, rfl⟩
            go_wp2
            go_ret2
            refine ⟨?_, hB⟩
            rw [← HF.out, HBAD.out]
            rfl
          · rw [if_neg h1] at c1
            obtain ⟨y, hy⟩ : ∃ y, (if hexV b < 16 then (hexV b : Int) else -1) = y := ⟨_, rfl⟩
            rw [hy] at c2
            clear hy hh h1
            go_wp2_with fail
            refine (c1 _).mono ?_
            rintro e w1 ⟨rfl, rfl⟩
            go_wp2_with fail
            refine (c2 _).mono ?_
            rintro e w1 ⟨rfl, rfl⟩
            go_wp2
            go_ret2
            refine ⟨?_, hB⟩
            rw [← HF.out, HBAD.out]
            rfl
      · have hlt' : ¬ (i : Int) < (s.size : Int) := by omega
        go_wp2_with (go_at_call 105; refine (b_str _ _ _ hb).mono ?_; rintro e w1 ⟨rfl, hb1⟩)
        go_ret2
        refine ⟨?_, hB.trans hb1⟩
        rw [← HF.out, hq.out.done (by have := HL.out; omega)]
        rfl
end Go.Proofs.YthgagldpjledgaaGreatDoor
