/- LexNumbers, called. -/
import Derived.Test.YticmoapmolmcjaaDoorAw
import Derived.Test.YticmoapmolmcjaaDoorNu
import Derived.Laws.Bits64
import Derived.Laws.BitsLemmas
namespace Go.Proofs.YticmoapmolmcjaaDoor
open Go.RowKit Go.Shelf
theorem i64_and3 (n : Int) : bits .and .i64 n 3 = n % 4 := by
  have h3 : (BitVec.ofInt 64 3).toNat = 2 ^ 2 - 1 := by decide
  have key : (BitVec.ofInt 64 n &&& BitVec.ofInt 64 3).toNat = (n % ((2 ^ 64 : Nat) : Int)).toNat % 2 ^ 2 := by
    rw [BitVec.toNat_and, BitVec.toNat_ofInt, h3, Nat.and_two_pow_sub_one_eq_mod]
  show IntKind.i64.wrap ((BitVec.ofInt 64 n &&& BitVec.ofInt 64 3).toNat : Nat) = n % 4
  rw [key, IntKind.wrap_i64]
  omega
theorem conv1w (W : World) (g : Nat) (b : UInt8) (v : Int) (hv : v = (b.toNat : Int)) (hc : W.cell? ⟨g, 0, none⟩ = some (.int .u8 v)) : (convert 37 9 (.slice (some ⟨g, 0, none⟩) 1 1)).run Tryd.prog W = .ok (.string ⟨#[b]⟩) W := by
  refine run_convert_bytes_back (P := Tryd.prog) W 37 9 5 ⟨g, 0, none⟩ 1 [b] Tryd.underlying37 Tryd.underlying5 Tryd.underlying9 (fun j hj => ?_)
  obtain rfl : j = 0 := by simp at hj; omega
  have e : (⟨g, 0, none⟩ : Addr).add 0 = ⟨g, 0, none⟩ := by unfold Addr.add; split <;> simp_all
  rw [e, hc, hv]; rfl
theorem conv1 (W : World) (b : UInt8) (t : TypeId) (v : Int) (hv : v = (b.toNat : Int)) : (convert 37 9 (.slice (some ⟨W.heap.size, 0, none⟩) 1 1)).run Tryd.prog (W.alloc (.cells #[.int .u8 v] t)) = .ok (.string ⟨#[b]⟩) (W.alloc (.cells #[.int .u8 v] t)) :=
  conv1w _ _ b v hv (cell_of_row _ _ 0 _ _ _ (heap_alloc_new _ _))
theorem ba_app (l m : List UInt8) : (⟨l.toArray⟩ ++ ⟨m.toArray⟩ : ByteArray) = ⟨(l ++ m).toArray⟩ := by
  apply ba_eq
  rw [ByteArray.data_append]
  simp
def strN (v : Value) : Nat := match v with
  | .string s => if s.size = 0 then 1 else 0
  | _ => 0
set_option maxRecDepth 20000 in
set_option maxHeartbeats 8000000 in
theorem numbers_walk (n : Nat) (hn : n < 18446744073709551616) (z : Int) (W : World) (he : Er W) : Calls Tryd.prog 7 #[.int .u64 (n : Int), .int .i64 z] W fun e w' => e = .returned (.bool true) ∧ Below W.heap.size W w' := by
  have ha := i64_and3 z
  obtain ⟨m, hm, hm4⟩ : ∃ m : Nat, z % 4 = (m : Int) ∧ m ≤ 3 := ⟨(z % 4).toNat, by omega, by omega⟩
  rw [hm] at ha
  clear hm
  go_enter Tryd.func7, Tryd.ntmps7
  go_wp2
  go_loopw [5, 6] (fun c5 c6 wr => ∃ (k : Nat) (d : List UInt8), c5 = .string ⟨d.toArray⟩ ∧ c6 = .int .u64 (k : Int) ∧ Hid (DI n k d) ∧ k ≤ n ∧ Below W.heap.size W wr) (fun c5 c6 _ => 2 * (intOf c6).toNat + strN c5)
  case atStart => exact ⟨n, [], rfl, rfl, DI.start n, Nat.le_refl _, Below.refl _ _⟩
  case round =>
    obtain ⟨k, d, rfl, rfl, hd, hkn, hB⟩ := hrel
    by_cases hc : 0 < k ∨ d = []
    · have hst := hd.out.step hn hc
      have hdlen : d.length ≤ 20 := hd.out.len
      have hcv := conv1 wr (UInt8.ofNat (48 + k % 10)) 5 (48 + (k : Int) % 10) (by rw [dig_val (Nat.mod_lt _ (by decide))]; omega)
      have happ := ba_app [UInt8.ofNat (48 + k % 10)] d
      have HST : Hid (DI n (k / 10) (UInt8.ofNat (48 + k % 10) :: d)) := hst
      have hB2 : ∀ o, Below W.heap.size W (wr.alloc o) := fun o => hB.alloc hB.size o
      obtain ⟨x, hx⟩ : ∃ x, UInt8.ofNat (48 + k % 10) = x := ⟨_, rfl⟩
      rw [hx] at hcv happ HST
      have hsz : ((⟨(x :: d).toArray⟩ : ByteArray)).size ≠ 0 := by
        show (x :: d).toArray.size ≠ 0
        simp
      have hdl : ((⟨d.toArray⟩ : ByteArray)).size = d.length := by
        show d.toArray.size = _
        simp
      have HM : Hid (2 * (k / 10) + strN (.string ⟨(x :: d).toArray⟩) < 2 * k + strN (.string ⟨d.toArray⟩)) := by
        have : 2 * (k / 10) + strN (.string ⟨(x :: d).toArray⟩) < 2 * k + strN (.string ⟨d.toArray⟩) := by
          unfold strN
          simp only
          rw [if_neg hsz, hdl]
          rcases hc with h | h
          · omega
          · rw [h]; simp; omega
        exact this
      clear hx hst hsz hdl
      have HAP : Hid ((⟨#[x]⟩ ++ ⟨d.toArray⟩ : ByteArray) = ⟨(x :: d).toArray⟩) := happ
      clear happ
      by_cases hk : 0 < k
      · have hk' : (0 : Int) < (k : Int) := by omega
        clear hc
        go_wp2
        refine ⟨⟨k / 10, x :: d, by rw [HAP.out], by go_num, HST, by omega, hB2 _⟩, ?_⟩
        have h1 : (intOf (Value.int IntKind.u64 ((k : Int) / 10))).toNat = k / 10 := by show ((k : Int) / 10).toNat = k / 10; omega
        have h2 : (intOf (Value.int IntKind.u64 (k : Int))).toNat = k := by show ((k : Int)).toNat = k; omega
        rw [HAP.out, h1, h2]
        exact HM.out
      · have hk' : ¬ (0 : Int) < (k : Int) := by omega
        obtain rfl : d = [] := by rcases hc with h | h; exact absurd h hk; exact h
        clear hc
        go_wp2
        refine ⟨⟨k / 10, [x], rfl, by go_num, HST, by omega, hB2 _⟩, ?_⟩
        have h1 : (intOf (Value.int IntKind.u64 ((k : Int) / 10))).toNat = k / 10 := by show ((k : Int) / 10).toNat = k / 10; omega
        have h2 : (intOf (Value.int IntKind.u64 (k : Int))).toNat = k := by show ((k : Int)).toNat = k; omega
        rw [h1, h2]
        exact HM.out
    · have hk0 : k = 0 := by omega
      obtain ⟨c, r, rfl⟩ : ∃ c r, d = c :: r := by
        cases d with
        | nil => exact absurd (Or.inr rfl) hc
        | cons c r => exact ⟨c, r, rfl⟩
      subst hk0
      clear hc
      have hcz : ((0 : Nat) : Int) = 0 := rfl
      go_wp2
      go_loopw [7, 8] (fun c7 c8 w2 => ∃ (i : Nat) (zl : List UInt8), i ≤ m ∧ zl.length ≤ 3 ∧ c7 = .string ⟨zl.toArray⟩ ∧ c8 = .int .i64 (i : Int) ∧ Hid (zl = List.replicate i 48) ∧ w2 = wr) (fun _ c8 _ => m - (intOf c8).toNat)
      case atStart => exact ⟨0, [], by omega, by decide, rfl, rfl, (show [] = List.replicate 0 48 from rfl), rfl⟩
      case round =>
        obtain ⟨i, zl, hi, hzl, rfl, rfl, hz, hw2⟩ := hrel
        have hw2' := hw2.symm
        subst hw2'
        clear hw2
        by_cases hlt : i < m
        · have hlt' : (i : Int) < (m : Int) := by omega
          have HAP : Hid ((⟨zl.toArray⟩ ++ ⟨#[48]⟩ : ByteArray) = ⟨(zl ++ [48]).toArray⟩) := ba_app zl [48]
          have hzi : zl.length = i := by rw [hz.out]; simp
          have HZ : Hid (zl.length = i) := hzi
          clear hzi
          go_wp2
          refine ⟨⟨i + 1, zl ++ [48], by omega, by have := HZ.out; simp; omega, by rw [HAP.out], by go_num, ?_, trivial⟩, ?_⟩
          · show zl ++ [48] = List.replicate (i + 1) 48
            rw [hz.out, ← List.replicate_succ']
          · simp [intOf]
            omega
        · obtain rfl : m = i := by omega
          have hlt' : ¬ (m : Int) < (m : Int) := by omega
          have hrl : r.length ≤ 19 := by have := hd.out.len; simp at this; omega
          have happ := ba_app zl (c :: r)
          have HAP : Hid ((⟨zl.toArray⟩ ++ ⟨(c :: r).toArray⟩ : ByteArray) = ⟨(zl ++ c :: r).toArray⟩) := happ
          have hsz : (⟨zl.toArray⟩ ++ ⟨(c :: r).toArray⟩ : ByteArray).size ≤ 10000 := by
            rw [happ]
            show (zl ++ c :: r).toArray.size ≤ _
            simp; omega
          have hw := words_any (⟨zl.toArray⟩ ++ ⟨(c :: r).toArray⟩) hsz wr (he.later hB)
          have hdt : (⟨zl.toArray⟩ ++ ⟨(c :: r).toArray⟩ : ByteArray).data.toList = zl ++ c :: r := by rw [happ]
          rw [hdt] at hw
          clear happ hsz hdt
          have hnw := num_words hd.out (by simp) hz.out hm4
          have hzm : zl = [] ↔ m = 0 := by
            rw [hz.out]
            simp
          by_cases hbad : m ≠ 0 ∨ 9223372036854775807 < n
          · rw [if_pos hbad] at hnw
            rw [hnw] at hw
            go_wp2_with fail
            refine hw.mono ?_
            rintro e w1 ⟨p, cc, rfl, _, hb1⟩
            have haw := awake_any w1 ((he.later hB).later hb1)
            clear hnw hw
            cases zl with
            | nil =>
              have hn' : (9223372036854775807 : Int) < (n : Int) := by
                have := hzm.1 rfl
                omega
              clear hbad hzm
              go_wp2_with (go_at_call 11; refine haw.mono ?_; rintro e w2 ⟨rfl, hb2⟩)
              go_ret
              exact ⟨by simp, (hB.trans (hb1.mono hB.size)).trans (hb2.mono (Nat.le_trans hB.size hb1.size))⟩
            | cons x zr =>
              clear hbad hzm
              go_wp2_with (go_at_call 11; refine haw.mono ?_; rintro e w2 ⟨rfl, hb2⟩)
              go_ret
              exact ⟨by simp, (hB.trans (hb1.mono hB.size)).trans (hb2.mono (Nat.le_trans hB.size hb1.size))⟩
          · rw [if_neg hbad] at hnw
            rw [hnw] at hw
            obtain rfl : zl = [] := hzm.2 (by omega)
            have hn' : ¬ (9223372036854775807 : Int) < (n : Int) := by omega
            go_wp2_with fail
            refine hw.mono ?_
            rintro e w1 ⟨p, cc, rfl, hsl, hb1⟩
            have haw := awake_any w1 ((he.later hB).later hb1)
            clear hnw hw hbad hzm
            go_wp2_with fail
            refine haw.mono ?_
            rintro e w2 ⟨rfl, hb2⟩
            have hsl2 := hsl.later hb2
            obtain ⟨b, rfl, hlb, hcells⟩ := hsl2.lies (by simp)
            have c0 := hcells 0 _ rfl
            have c1 := hcells 1 _ rfl
            have hcap := hsl2.cap
            simp only [List.length_cons, List.length_nil] at hcap
            clear hsl hsl2 hcells haw
            go_wp2
            go_ret
            exact ⟨by simp, (hB.trans (hb1.mono hB.size)).trans (hb2.mono (Nat.le_trans hB.size hb1.size))⟩
end Go.Proofs.YticmoapmolmcjaaDoor
