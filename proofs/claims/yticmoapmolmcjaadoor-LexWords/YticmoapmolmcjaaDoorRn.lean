/- The document's bytes and number. -/
import Derived.Test.YticmoapmolmcjaaDoorRc
import Derived.Test.YticmoapmolmcjaaDoorNu
import Derived.Test.YticmoapmolmcjaaDoorAny
import Derived.Laws.BitsLemmas
namespace Go.Proofs.YticmoapmolmcjaaDoor
open Go.RowKit Go.Shelf
theorem rconv1w (W : World) (g : Nat) (b : UInt8) (v : Int) (hv : v = (b.toNat : Int)) (hc : W.cell? ⟨g, 0, none⟩ = some (.int .u8 v)) : (convert 37 9 (.slice (some ⟨g, 0, none⟩) 1 1)).run Tryd.prog W = .ok (.string ⟨#[b]⟩) W := by
  refine run_convert_bytes_back (P := Tryd.prog) W 37 9 5 ⟨g, 0, none⟩ 1 [b] Tryd.underlying37 Tryd.underlying5 Tryd.underlying9 (fun j hj => ?_)
  obtain rfl : j = 0 := by simp at hj; omega
  have e : (⟨g, 0, none⟩ : Addr).add 0 = ⟨g, 0, none⟩ := by unfold Addr.add; split <;> simp_all
  rw [e, hc, hv]; rfl
theorem rconv1 (W : World) (b : UInt8) (t : TypeId) (v : Int) (hv : v = (b.toNat : Int)) : (convert 37 9 (.slice (some ⟨W.heap.size, 0, none⟩) 1 1)).run Tryd.prog (W.alloc (.cells #[.int .u8 v] t)) = .ok (.string ⟨#[b]⟩) (W.alloc (.cells #[.int .u8 v] t)) :=
  rconv1w _ _ b v hv (cell_of_row _ _ 0 _ _ _ (heap_alloc_new _ _))
/- A slice of one byte, in whatever block. -/
def One1 (u : Int) (v : Value) (W : World) : Prop := ∃ g, v = .slice (some ⟨g, 0, none⟩) 1 1 ∧ g < W.heap.size ∧ W.cell? ⟨g, 0, none⟩ = some (.int .u8 u)
theorem One1.later (u : Int) : ∀ v W W', One1 u v W → Below W.heap.size W W' → One1 u v W' := by
  rintro v W W' ⟨g, rfl, hg, hc⟩ hb
  exact ⟨g, rfl, Nat.lt_of_lt_of_le hg hb.size, (cell_later hb hg).trans hc⟩
theorem One1.new (u : Int) (W : World) (t : TypeId) : One1 u (.slice (some ⟨W.heap.size, 0, none⟩) 1 1) (W.alloc (.cells #[.int .u8 u] t)) := ⟨_, rfl, by simp, cell_of_row _ _ 0 _ _ _ (heap_alloc_new _ _)⟩
set_option maxRecDepth 20000 in
set_option maxHeartbeats 4000000 in
theorem rbytes_any (s : ByteArray) (hs : s.size ≤ 10000) (w : World) :
    Calls Tryd.prog 28 #[.string s] w fun e w' => e = .returned (.tuple #[.string (hT (hexL s.data.toList)).1, .bool (hT (hexL s.data.toList)).2]) ∧ Below w.heap.size w w' := by
  obtain ⟨F, hF⟩ : ∃ F, hT (hexL s.data.toList) = F := ⟨_, rfl⟩
  rw [hF]
  have HF : Hid (hT (hexL s.data.toList) = F) := hF
  clear hF
  have hl := Lib.size_eq s
  have HL : Hid (s.size = s.data.toList.length) := hl
  clear hl
  go_enter Tryd.func28, Tryd.ntmps28
  go_wp2
  go_loopw [4, 5] (fun c4 c5 wr => ∃ (i : Nat) (l : List UInt8), i ≤ s.size + 1 ∧ l.length ≤ 10001 ∧ c4 = .string ⟨l.toArray⟩ ∧ c5 = .int .i64 (i : Int) ∧ Hid (HI s i l) ∧ Below w.heap.size w wr) (fun _ c5 _ => s.size + 2 - (intOf c5).toNat)
  case atStart => exact ⟨0, [], by omega, by simp, rfl, rfl, HI.start s, Below.refl _ _⟩
  case round =>
    obtain ⟨i, l, hi, hll, rfl, rfl, hq, hB⟩ := hrel
    have hle : l.length ≤ i := hq.out.le
    by_cases hlt : i < s.size
    · have hlt' : (i : Int) < (s.size : Int) := by omega
      obtain ⟨a, ha, hea⟩ := at_chr hlt
      have HA : Hid (s.data.toList[i]? = some a) := ha
      have HAE : Hid (((s[i].toNat : Nat) : Int) = (a.toNat : Int)) := by
        have : ((s[i].toNat : Nat) : Int) = (a.toNat : Int) := by rw [chr_eq s i hlt, hea]
        exact this
      clear hea ha
      by_cases hlt1 : i + 1 < s.size
      · have hlt1' : ¬ (s.size : Int) ≤ (i : Int) + 1 := by omega
        have hlt1'' : (i : Int) + 1 < (s.size : Int) := by omega
        obtain ⟨b, hb', heb⟩ := at_chr hlt1
        have HB : Hid (s.data.toList[i + 1]? = some b) := hb'
        have HBE : Hid (((s[i + 1].toNat : Nat) : Int) = (b.toNat : Int)) := by
          have : ((s[i + 1].toNat : Nat) : Int) = (b.toNat : Int) := by rw [chr_eq s (i + 1) hlt1, heb]
          exact this
        clear heb hb'
        have c1 := half_any a _ HAE.out
        have c2 := half_any b _ HBE.out
        obtain ⟨ai, hai⟩ : ∃ ai : Int, ((s[i].toNat : Nat) : Int) = ai := ⟨_, rfl⟩
        obtain ⟨bi, hbi⟩ : ∃ bi : Int, ((s[i + 1].toNat : Nat) : Int) = bi := ⟨_, rfl⟩
        rw [hai] at c1
        rw [hbi] at c2
        have hx16 := hexV_le a
        have hy16 := hexV_le b
        by_cases hh : hexV a < 16 ∧ hexV b < 16
        · have hg : ((UInt8.ofNat (hexV a * 16 + hexV b)).toNat : Int) = (hexV a : Int) * 16 + (hexV b : Int) := by
            rw [UInt8.toNat_ofNat']
            omega
          have HST : Hid (HI s (i + 2) (l ++ [UInt8.ofNat (hexV a * 16 + hexV b)])) := hq.out.step HA.out HB.out hh.1 hh.2
          obtain ⟨x, hx⟩ : ∃ x, hexV a = x := ⟨_, rfl⟩
          obtain ⟨y, hy⟩ : ∃ y, hexV b = y := ⟨_, rfl⟩
          obtain ⟨z, hz⟩ : ∃ z, UInt8.ofNat (hexV a * 16 + hexV b) = z := ⟨_, rfl⟩
          rw [hz] at HST hg
          rw [hx] at c1 hg hh
          rw [hy] at c2 hg hh
          have HG : Hid (((z.toNat : Nat) : Int) = (x : Int) * 16 + (y : Int)) := hg
          have HAP : Hid ((⟨l.toArray⟩ ++ ⟨#[z]⟩ : ByteArray) = ⟨(l ++ [z]).toArray⟩) := rba_app l [z]
          have hx' : ¬ (15 : Int) < (x : Int) := by omega
          have hy' : ¬ (15 : Int) < (y : Int) := by omega
          have hxb : x < 16 := hh.1
          have hyb : y < 16 := hh.2
          clear hx hy hz hh hg hx16 hy16 hq
          go_wp2_with fail
          refine (c1 _).mono ?_
          rintro e w1 ⟨rfl, hw1⟩
          have hw1' := hw1.symm
          subst hw1'
          clear hw1
          go_wp2_with fail
          refine (c2 _).mono ?_
          rintro e w1 ⟨rfl, hw1⟩
          have hw1' := hw1.symm
          subst hw1'
          clear hw1
          go_wp2
          refine any_tail (by kernel_rfl) 16 (by exact Nat.le_of_ble_eq_true rfl) (fun i => i + 32) (mixR [(13, One1 ((x : Int) * 16 + (y : Int)))] [.string ⟨l.toArray⟩, .string s, .int .i64 (i : Int), .int .u8 ai, .int .i64 (x : Int), .int .i64 ((x : Int) * 16), .string s, .int .i64 (i : Int), .int .i64 ((i : Int) + 1), .int .u8 bi, .int .i64 (y : Int), .int .i64 ((x : Int) * 16 + (y : Int)), .int .u8 ((x : Int) * 16 + (y : Int)), undef, .string ⟨#[z]⟩, .string ((⟨l.toArray⟩ : ByteArray) ++ (⟨#[z]⟩ : ByteArray))]) (by kernel_rfl) (by kernel_rfl) (by kernel_rfl) (by kernel_rfl) (mixR_later _ _ (stab_cons (One1.later _) stab_nil)) ?step ?post
          case step =>
            intro iq hiq a W hrest hb hk
            have hp4 : a.eval (.tmp 4) = .string ⟨l.toArray⟩ := (hrest 4 (by intro iq2 hiq2; (repeat' split) <;> omega)).trans rfl
            have fp4 := ev hp4
            have hp0 : a.eval (.tmp 0) = .string s := (hrest 0 (by intro iq2 hiq2; (repeat' split) <;> omega)).trans rfl
            have fp0 := ev hp0
            have hp5 : a.eval (.tmp 5) = .int .i64 (i : Int) := (hrest 5 (by intro iq2 hiq2; (repeat' split) <;> omega)).trans rfl
            have fp5 := ev hp5
            clear hrest
            obtain rfl | rfl | rfl | rfl | rfl | rfl | rfl | rfl | rfl | rfl | rfl | rfl | rfl | rfl | rfl | rfl : iq = 0 ∨ iq = 1 ∨ iq = 2 ∨ iq = 3 ∨ iq = 4 ∨ iq = 5 ∨ iq = 6 ∨ iq = 7 ∨ iq = 8 ∨ iq = 9 ∨ iq = 10 ∨ iq = 11 ∨ iq = 12 ∨ iq = 13 ∨ iq = 14 ∨ iq = 15 := by omega
            · clear hiq
              clear hk
              refine ⟨_, rfl, rfl, rfl, wp_value (v := .string ⟨l.toArray⟩) (w' := W) ?_ ⟨_, rfl, Below.refl _ _, rfl⟩⟩
              go_simp
            · clear hiq
              clear hk
              refine ⟨_, rfl, rfl, rfl, wp_value (v := .string s) (w' := W) ?_ ⟨_, rfl, Below.refl _ _, rfl⟩⟩
              go_simp
            · clear hiq
              clear hk
              refine ⟨_, rfl, rfl, rfl, wp_value (v := .int .i64 (i : Int)) (w' := W) ?_ ⟨_, rfl, Below.refl _ _, rfl⟩⟩
              go_simp
            · clear hiq
              have e1 : a.eval (.tmp 33) = .string s := hk 1 (mem_of (by kernel_rfl))
              have f1 := ev e1
              have e2 : a.eval (.tmp 34) = .int .i64 (i : Int) := hk 2 (mem_of (by kernel_rfl))
              have f2 := ev e2
              clear hk
              refine ⟨_, rfl, rfl, rfl, wp_value (v := .int .u8 ai) (w' := W) ?_ ⟨_, rfl, Below.refl _ _, rfl⟩⟩
              go_simp
            · clear hiq
              have e3 : a.eval (.tmp 35) = .int .u8 ai := hk 3 (mem_of (by kernel_rfl))
              have f3 := ev e3
              clear hk
              refine ⟨_, rfl, rfl, rfl, wp_enter (f := 36) (args := #[.int .u8 ai]) ?_ ((c1 W).mono ?_)⟩
              · go_simp
              · rintro e w2 ⟨rfl, rfl⟩
                exact ⟨_, rfl, _, rfl, Below.refl _ _, rfl⟩
            · clear hiq
              have e4 : a.eval (.tmp 36) = .int .i64 (x : Int) := hk 4 (mem_of (by kernel_rfl))
              have f4 := ev e4
              clear hk
              refine ⟨_, rfl, rfl, rfl, wp_value (v := .int .i64 ((x : Int) * 16)) (w' := W) ?_ ⟨_, rfl, Below.refl _ _, rfl⟩⟩
              go_simp
              rw [IntKind.wrap_i64]; omega
            · clear hiq
              clear hk
              refine ⟨_, rfl, rfl, rfl, wp_value (v := .string s) (w' := W) ?_ ⟨_, rfl, Below.refl _ _, rfl⟩⟩
              go_simp
            · clear hiq
              clear hk
              refine ⟨_, rfl, rfl, rfl, wp_value (v := .int .i64 (i : Int)) (w' := W) ?_ ⟨_, rfl, Below.refl _ _, rfl⟩⟩
              go_simp
            · clear hiq
              have e7 : a.eval (.tmp 39) = .int .i64 (i : Int) := hk 7 (mem_of (by kernel_rfl))
              have f7 := ev e7
              clear hk
              refine ⟨_, rfl, rfl, rfl, wp_value (v := .int .i64 ((i : Int) + 1)) (w' := W) ?_ ⟨_, rfl, Below.refl _ _, rfl⟩⟩
              go_simp
              rw [IntKind.wrap_i64]; omega
            · clear hiq
              have e6 : a.eval (.tmp 38) = .string s := hk 6 (mem_of (by kernel_rfl))
              have f6 := ev e6
              have e8 : a.eval (.tmp 40) = .int .i64 ((i : Int) + 1) := hk 8 (mem_of (by kernel_rfl))
              have f8 := ev e8
              clear hk
              refine ⟨_, rfl, rfl, rfl, wp_value (v := .int .u8 bi) (w' := W) ?_ ⟨_, rfl, Below.refl _ _, rfl⟩⟩
              go_simp
              intro h; omega
            · clear hiq
              have e9 : a.eval (.tmp 41) = .int .u8 bi := hk 9 (mem_of (by kernel_rfl))
              have f9 := ev e9
              clear hk
              refine ⟨_, rfl, rfl, rfl, wp_enter (f := 36) (args := #[.int .u8 bi]) ?_ ((c2 W).mono ?_)⟩
              · go_simp
              · rintro e w2 ⟨rfl, rfl⟩
                exact ⟨_, rfl, _, rfl, Below.refl _ _, rfl⟩
            · clear hiq
              have e5 : a.eval (.tmp 37) = .int .i64 ((x : Int) * 16) := hk 5 (mem_of (by kernel_rfl))
              have f5 := ev e5
              have e10 : a.eval (.tmp 42) = .int .i64 (y : Int) := hk 10 (mem_of (by kernel_rfl))
              have f10 := ev e10
              clear hk
              refine ⟨_, rfl, rfl, rfl, wp_value (v := .int .i64 ((x : Int) * 16 + (y : Int))) (w' := W) ?_ ⟨_, rfl, Below.refl _ _, rfl⟩⟩
              go_simp
              rw [IntKind.wrap_i64]; omega
            · clear hiq
              have e11 : a.eval (.tmp 43) = .int .i64 ((x : Int) * 16 + (y : Int)) := hk 11 (mem_of (by kernel_rfl))
              have f11 := ev e11
              clear hk
              refine ⟨_, rfl, rfl, rfl, wp_value (v := .int .u8 ((x : Int) * 16 + (y : Int))) (w' := W) ?_ ⟨_, rfl, Below.refl _ _, rfl⟩⟩
              go_simp
              rw [IntKind.wrap_u8]; omega
            · clear hiq
              have e12 : a.eval (.tmp 44) = .int .u8 ((x : Int) * 16 + (y : Int)) := hk 12 (mem_of (by kernel_rfl))
              have f12 := ev e12
              clear hk
              refine ⟨_, rfl, rfl, rfl, wp_value (v := .slice (some ⟨W.heap.size, 0, none⟩) 1 1) (w' := W.alloc (.cells #[.int .u8 ((x : Int) * 16 + (y : Int))] 5)) ?_ ⟨_, rfl, (Below.refl _ _).alloc (Nat.le_refl _) _, One1.new _ W 5⟩⟩
              go_simp
            · clear hiq
              obtain ⟨g13, e13, hg13, hc13⟩ := show One1 ((x : Int) * 16 + (y : Int)) (a.eval (.tmp 45)) W from hk 13 (mem_of (by kernel_rfl))
              have f13 := ev e13
              have hcv := rconv1w W g13 z _ HG.out.symm hc13
              clear hk
              refine ⟨_, rfl, rfl, rfl, wp_value (v := .string ⟨#[z]⟩) (w' := W) ?_ ⟨_, rfl, Below.refl _ _, rfl⟩⟩
              go_simp
            · clear hiq
              have e0 : a.eval (.tmp 32) = .string ⟨l.toArray⟩ := hk 0 (mem_of (by kernel_rfl))
              have f0 := ev e0
              have e14 : a.eval (.tmp 46) = .string ⟨#[z]⟩ := hk 14 (mem_of (by kernel_rfl))
              have f14 := ev e14
              clear hk
              refine ⟨_, rfl, rfl, rfl, wp_value (v := .string ((⟨l.toArray⟩ : ByteArray) ++ (⟨#[z]⟩ : ByteArray))) (w' := W) ?_ ⟨_, rfl, Below.refl _ _, rfl⟩⟩
              go_simp
              omega
          case post =>
            intro V W hbW hV
            have e15 : V 15 = .string ((⟨l.toArray⟩ : ByteArray) ++ (⟨#[z]⟩ : ByteArray)) := hV 15 (by omega)
            clear hV
            simp only [putAll, Nat.reduceAdd]
            rw [e15]
            simp only [Act.put, List.setIfInBounds_toArray, List.set_cons_zero, List.set_cons_succ]
            go_wp2
            refine ⟨⟨i + 2, l ++ [z], by omega, by simp; omega, by rw [HAP.out], by go_num, HST, hB.trans (hbW.mono hB.size)⟩, ?_⟩
            simp [intOf]
            omega
        · have hbad := hq.out.bad HA.out HB.out hh
          have HBAD : Hid (hT (hexL s.data.toList) = (⟨#[]⟩, false)) := hbad
          clear hbad
          obtain ⟨x, hx⟩ : ∃ x, hexV a = x := ⟨_, rfl⟩
          obtain ⟨y, hy⟩ : ∃ y, hexV b = y := ⟨_, rfl⟩
          rw [hx] at c1 hh
          rw [hy] at c2 hh
          clear hx hy hx16 hy16 hq
          by_cases hx15 : x < 16
          · have hx' : ¬ (15 : Int) < (x : Int) := by omega
            have hy' : (15 : Int) < (y : Int) := by omega
            clear hh
            go_wp2_with fail
            refine (c1 _).mono ?_
            rintro e w1 ⟨rfl, hw1⟩
            have hw1' := hw1.symm
            subst hw1'
            clear hw1
            go_wp2_with fail
            refine (c2 _).mono ?_
            rintro e w1 ⟨rfl, hw1⟩
            have hw1' := hw1.symm
            subst hw1'
            clear hw1
            go_wp2
            go_ret2
            refine ⟨?_, hB⟩
            rw [← HF.out, HBAD.out]
            rfl
          · have hx' : (15 : Int) < (x : Int) := by omega
            clear hh
            go_wp2_with fail
            refine (c1 _).mono ?_
            rintro e w1 ⟨rfl, hw1⟩
            have hw1' := hw1.symm
            subst hw1'
            clear hw1
            go_wp2
            go_ret2
            refine ⟨?_, hB⟩
            rw [← HF.out, HBAD.out]
            rfl
      · have hodd := hq.out.odd HA.out (List.getElem?_eq_none (by have := HL.out; omega))
        have HODD : Hid (hT (hexL s.data.toList) = (⟨#[]⟩, false)) := hodd
        clear hodd hq
        have hlt1' : (s.size : Int) ≤ (i : Int) + 1 := by omega
        go_wp2
        go_ret2
        refine ⟨?_, hB⟩
        rw [← HF.out, HODD.out]
        rfl
    · have hlt' : ¬ (i : Int) < (s.size : Int) := by omega
      go_wp2
      go_ret2
      refine ⟨?_, hB⟩
      rw [← HF.out, hq.out.done (by have := HL.out; omega)]
      rfl
end Go.Proofs.YticmoapmolmcjaaDoor
