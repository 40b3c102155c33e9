/- LexQuotes, called. -/
import Derived.Test.YticmoapmolmcjaaDoorAw
import Derived.Test.YticmoapmolmcjaaDoorBl
import Derived.Test.YticmoapmolmcjaaDoorNul
namespace Go.Proofs.YticmoapmolmcjaaDoor
open Go.RowKit Go.Shelf
theorem ext_one {t : ByteArray} {i : Nat} {c : UInt8} (hc : t.data.toList[i]? = some c) : t.extract i (i + 1) = ⟨#[c]⟩ := by
  have : (t.extract i (i + 1)).data.toList = [c] := by
    rw [ext_list, drop_at hc, Nat.add_sub_cancel_left]
    rfl
  exact ba_eq this
theorem take_one {l : List UInt8} {i : Nat} {c : UInt8} (hc : l[i]? = some c) : l.take (i + 1) = l.take i ++ [c] := by
  rw [List.take_add_one, hc]
  rfl
theorem dig_ext (n : Nat) (h : n < 16) : (⟨#[48, 49, 50, 51, 52, 53, 54, 55, 56, 57, 97, 98, 99, 100, 101, 102]⟩ : ByteArray).extract n (n + 1) = ⟨#[hexD n]⟩ := by
  refine ext_one ?_
  unfold hexD
  rw [List.getD_eq_getElem?_getD]
  have hl : n < ([48, 49, 50, 51, 52, 53, 54, 55, 56, 57, 97, 98, 99, 100, 101, 102] : List UInt8).length := h
  show ([48, 49, 50, 51, 52, 53, 54, 55, 56, 57, 97, 98, 99, 100, 101, 102] : List UInt8)[n]? = _
  rw [List.getElem?_eq_getElem hl]
  rfl
theorem ba_data (l m : List UInt8) : (⟨l.toArray⟩ ++ ⟨m.toArray⟩ : ByteArray).data.toList = l ++ m := by rw [ba_app]
theorem ba_size (l m : List UInt8) : (⟨l.toArray⟩ ++ ⟨m.toArray⟩ : ByteArray).size = l.length + m.length := by
  rw [Lib.size_eq, ba_data, List.length_append]
set_option maxRecDepth 20000 in
set_option maxHeartbeats 8000000 in
theorem quotes_walk (s : ByteArray) (W : World) (he : Er W) : Calls Tryd.prog 6 #[.string s] W fun e w' => e = .returned (.bool true) ∧ Below W.heap.size W w' := by
  by_cases h400 : 400 < s.size
  · have h400' : (400 : Int) < (s.size : Int) := by omega
    have h400l : (400 : Int) ≤ (s.size : Int) := by omega
    have htz : (s.extract 0 400).size = 400 := by rw [ByteArray.size_extract]; omega
    obtain ⟨t, ht⟩ : ∃ t, s.extract 0 400 = t := ⟨_, rfl⟩
    rw [ht] at htz
    have htz' : t.size ≤ 400 := by omega
    clear htz
    have hls := Lib.size_eq t
    have HLS : Hid (t.size = t.data.toList.length) := hls
    clear hls
    go_enter Tryd.func6, Tryd.ntmps6
    go_wp2
    go_loopw [4, 5, 6] (fun c4 c5 c6 wr => ∃ (i : Nat) (ql xl : List UInt8), i ≤ t.size ∧ ql.length ≤ 801 ∧ xl.length ≤ 802 ∧ c4 = .string ⟨ql.toArray⟩ ∧ c5 = .string ⟨xl.toArray⟩ ∧ c6 = .int .i64 (i : Int) ∧ Hid (ql = 39 :: esc (t.data.toList.take i)) ∧ Hid (xl = 120 :: 39 :: hexE (t.data.toList.take i)) ∧ Below W.heap.size W wr) (fun _ _ c6 _ => t.size - (intOf c6).toNat)
    case atStart => exact ⟨0, [39], [120, 39], by omega, by decide, by decide, rfl, rfl, rfl, (show [39] = 39 :: esc (t.data.toList.take 0) from rfl), (show [120, 39] = 120 :: 39 :: hexE (t.data.toList.take 0) from rfl), Below.refl _ _⟩
    case round =>
      obtain ⟨i, ql, xl, hi, hql, hxl, rfl, rfl, rfl, hq, hx, hB⟩ := hrel
      by_cases hlt : i < t.size
      · have hlt' : (i : Int) < (t.size : Int) := by omega
        have hlt1 : (i : Int) + 1 ≤ (t.size : Int) := by omega
        obtain ⟨c, hc, hec⟩ := at_chr hlt
        have hce : ((t[i].toNat : Nat) : Int) = (c.toNat : Int) := by rw [chr_eq t i hlt, hec]
        have hcb := UInt8.toNat_lt c
        have h1 := ext_one hc
        have HC : Hid (t.data.toList[i]? = some c) := hc
        obtain ⟨a, hae, ha16, haE⟩ : ∃ a : Nat, (c.toNat : Int) / 16 = (a : Int) ∧ a < 16 ∧ c.toNat / 16 = a := ⟨c.toNat / 16, by omega, by omega, rfl⟩
        obtain ⟨b, hbe, hb16, hbE⟩ : ∃ b : Nat, (c.toNat : Int) % 16 = (b : Int) ∧ b < 16 ∧ c.toNat % 16 = b := ⟨c.toNat % 16, by omega, by omega, rfl⟩
        have HAE : Hid (c.toNat / 16 = a) := haE
        have HBE : Hid (c.toNat % 16 = b) := hbE
        have hda := dig_ext a ha16
        have hdb := dig_ext b hb16
        clear haE hbE hec hc
        by_cases h39 : c = 39
        · have h39' : ((c.toNat : Nat) : Int) = 39 := by rw [h39]; rfl
          obtain rfl : a = 2 := by omega
          obtain rfl : b = 7 := by omega
          have HAY : Hid ((⟨xl.toArray⟩ ++ ((⟨#[48, 49, 50, 51, 52, 53, 54, 55, 56, 57, 97, 98, 99, 100, 101, 102]⟩ : ByteArray).extract 2 3 ++ (⟨#[48, 49, 50, 51, 52, 53, 54, 55, 56, 57, 97, 98, 99, 100, 101, 102]⟩ : ByteArray).extract 7 8) : ByteArray) = (⟨xl.toArray⟩ ++ (⟨#[hexD 2]⟩ ++ ⟨#[hexD 7]⟩))) := by
            have h := congrArg (fun y => (⟨xl.toArray⟩ ++ y : ByteArray)) (congr (congrArg HAppend.hAppend hda) hdb)
            exact h
          clear hda hdb
          have HAP : Hid ((⟨ql.toArray⟩ ++ ⟨#[c]⟩ : ByteArray) = ⟨(ql ++ [c]).toArray⟩) := ba_app ql [c]
          have HAP2 : Hid ((⟨(ql ++ [c]).toArray⟩ ++ ⟨#[39]⟩ : ByteArray) = ⟨(ql ++ [c] ++ [39]).toArray⟩) := ba_app (ql ++ [c]) [39]
          have HAX : Hid ((⟨xl.toArray⟩ ++ (⟨#[hexD 2]⟩ ++ ⟨#[hexD 7]⟩) : ByteArray) = ⟨(xl ++ [hexD 2, hexD 7]).toArray⟩) := by
            have h1 : (⟨#[hexD 2]⟩ ++ ⟨#[hexD 7]⟩ : ByteArray) = ⟨#[hexD 2, hexD 7]⟩ := ba_app [hexD 2] [hexD 7]
            have h2 : (⟨xl.toArray⟩ ++ (⟨#[hexD 2]⟩ ++ ⟨#[hexD 7]⟩) : ByteArray) = ⟨(xl ++ [hexD 2, hexD 7]).toArray⟩ := by
              rw [h1]
              exact ba_app xl [hexD 2, hexD 7]
            exact h2
          have HQ : Hid (ql ++ [c] ++ [39] = 39 :: esc (t.data.toList.take (i + 1))) := by
            have h : ql ++ [c] ++ [39] = 39 :: esc (t.data.toList.take (i + 1)) := by
              rw [take_one HC.out, esc_snoc, if_pos h39, hq.out]
              rw [h39]; simp
            exact h
          have HX : Hid (xl ++ [hexD 2, hexD 7] = 120 :: 39 :: hexE (t.data.toList.take (i + 1))) := by
            have h : xl ++ [hexD 2, hexD 7] = 120 :: 39 :: hexE (t.data.toList.take (i + 1)) := by
              rw [take_one HC.out, hexE_snoc, HAE.out, HBE.out, hx.out]
              rfl
            exact h
          have HN : Hid ((ql ++ [c] ++ [39]).length ≤ 801 ∧ (xl ++ [hexD 2, hexD 7]).length ≤ 802) := by
            have h : (ql ++ [c] ++ [39]).length ≤ 801 ∧ (xl ++ [hexD 2, hexD 7]).length ≤ 802 := by
              rw [HQ.out, HX.out]
              have e1 := esc_len (t.data.toList.take (i + 1))
              have e2 := hexE_len (t.data.toList.take (i + 1))
              rw [List.length_take] at e1 e2
              simp only [List.length_cons]
              omega
            exact h
          clear h39 hq hx
          go_wp2
          go_quiet (fail)
          go_wp2
          refine ⟨⟨i + 1, ql ++ [c] ++ [39], xl ++ [hexD 2, hexD 7], by omega, HN.out.1, HN.out.2, by rw [HAP.out, HAP2.out], by rw [HAY.out, HAX.out], by go_num, HQ, HX, below_drewN hB _⟩, ?_⟩
          simp [intOf]
          omega
        · have h39' : ¬ ((c.toNat : Nat) : Int) = 39 := fun e => h39 (byte_of e (by decide))
          have HAP : Hid ((⟨ql.toArray⟩ ++ ⟨#[c]⟩ : ByteArray) = ⟨(ql ++ [c]).toArray⟩) := ba_app ql [c]
          have HAP2 : Hid ((⟨(ql ++ [c]).toArray⟩ ++ ⟨#[39]⟩ : ByteArray) = ⟨(ql ++ [c] ++ [39]).toArray⟩) := ba_app (ql ++ [c]) [39]
          have HAX : Hid ((⟨xl.toArray⟩ ++ (⟨#[hexD a]⟩ ++ ⟨#[hexD b]⟩) : ByteArray) = ⟨(xl ++ [hexD a, hexD b]).toArray⟩) := by
            have h1 : (⟨#[hexD a]⟩ ++ ⟨#[hexD b]⟩ : ByteArray) = ⟨#[hexD a, hexD b]⟩ := ba_app [hexD a] [hexD b]
            have h2 : (⟨xl.toArray⟩ ++ (⟨#[hexD a]⟩ ++ ⟨#[hexD b]⟩) : ByteArray) = ⟨(xl ++ [hexD a, hexD b]).toArray⟩ := by
              rw [h1]
              exact ba_app xl [hexD a, hexD b]
            exact h2
          have HQ : Hid (ql ++ [c] = 39 :: esc (t.data.toList.take (i + 1))) := by
            have h : ql ++ [c] = 39 :: esc (t.data.toList.take (i + 1)) := by
              rw [take_one HC.out, esc_snoc, if_neg h39, hq.out]
              rfl
            exact h
          have HX : Hid (xl ++ [hexD a, hexD b] = 120 :: 39 :: hexE (t.data.toList.take (i + 1))) := by
            have h : xl ++ [hexD a, hexD b] = 120 :: 39 :: hexE (t.data.toList.take (i + 1)) := by
              rw [take_one HC.out, hexE_snoc, HAE.out, HBE.out, hx.out]
              rfl
            exact h
          have HN : Hid ((ql ++ [c]).length ≤ 801 ∧ (xl ++ [hexD a, hexD b]).length ≤ 802) := by
            have h : (ql ++ [c]).length ≤ 801 ∧ (xl ++ [hexD a, hexD b]).length ≤ 802 := by
              rw [HQ.out, HX.out]
              have e1 := esc_len (t.data.toList.take (i + 1))
              have e2 := hexE_len (t.data.toList.take (i + 1))
              rw [List.length_take] at e1 e2
              simp only [List.length_cons]
              omega
            exact h
          clear h39 hq hx
          go_wp2
          go_quiet (fail)
          go_wp2
          refine ⟨⟨i + 1, ql ++ [c], xl ++ [hexD a, hexD b], by omega, HN.out.1, HN.out.2, by rw [HAP.out], by rw [HAX.out], by go_num, HQ, HX, below_drewN hB _⟩, ?_⟩
          simp [intOf]
          omega
      · have hlt' : ¬ (i : Int) < (t.size : Int) := by omega
        have hfull : t.data.toList.take i = t.data.toList := List.take_of_length_le (by have := HLS.out; omega)
        have hlen : t.data.toList.length ≤ 400 := by have := HLS.out; omega
        have hwq := words_quote hlen
        have hwx := words_hex hlen
        rw [← List.cons_append, ← hfull, ← hq.out] at hwq
        rw [← List.cons_append, ← List.cons_append, ← hfull, ← hx.out] at hwx
        rw [hfull] at hwq hwx
        have w1 := words_any (⟨ql.toArray⟩ ++ ⟨[39].toArray⟩) (by rw [ba_size]; simp; omega)
        have w2 := words_any (⟨xl.toArray⟩ ++ ⟨[39].toArray⟩) (by rw [ba_size]; simp; omega)
        rw [ba_data, hwq] at w1
        rw [ba_data, hwx] at w2
        have HT : Hid ((⟨t.data.toList.toArray⟩ : ByteArray) = t) := (ba_eq rfl).symm
        obtain ⟨tl, htl⟩ : ∃ tl, t.data.toList = tl := ⟨_, rfl⟩
        rw [htl] at w1 w2
        have HTL : Hid (t.data.toList = tl) := htl
        have hcmp : (tl == t.toList) = true := by rw [← htl, Lib.toList_data]; simp
        clear hfull hwq hwx hq hx htl
        go_wp2_with fail
        refine (w1 _ (he.later hB)).mono ?_
        rintro e wa ⟨p, cc, rfl, hsl1, hb1⟩
        go_wp2_with fail
        refine (w2 _ ((he.later hB).later hb1)).mono ?_
        rintro e wb ⟨p2, cc2, rfl, hsl2, hb2⟩
        go_wp2_with fail
        refine (awake_any _ (((he.later hB).later hb1).later hb2)).mono ?_
        rintro e wc ⟨rfl, hb3⟩
        have hs1 := (hsl1.later hb2).later hb3
        have hs2 := hsl2.later hb3
        obtain ⟨b1, rfl, hl1, hc1⟩ := hs1.lies (by simp)
        obtain ⟨b2, rfl, hl2, hc2⟩ := hs2.lies (by simp)
        have k10 := hc1 0 _ rfl
        have k11 := hc1 1 _ rfl
        have k20 := hc2 0 _ rfl
        have k21 := hc2 1 _ rfl
        have hcap1 := hs1.cap
        have hcap2 := hs2.cap
        simp only [List.length_cons, List.length_nil] at hcap1 hcap2
        clear hsl1 hsl2 hs1 hs2 hc1 hc2 w1 w2
        go_wp2
        go_ret
        have hs0 := hB.size
        have hs1' := hb1.size
        have hs2' := hb2.size
        exact ⟨by simp, ((hB.trans (hb1.mono hs0)).trans (hb2.mono (by omega))).trans (hb3.mono (by omega))⟩
  · have h400' : ¬ (400 : Int) < (s.size : Int) := by omega
    have hls := Lib.size_eq s
    have HLS : Hid (s.size = s.data.toList.length) := hls
    clear hls
    go_enter Tryd.func6, Tryd.ntmps6
    go_wp2
    go_loopw [4, 5, 6] (fun c4 c5 c6 wr => ∃ (i : Nat) (ql xl : List UInt8), i ≤ s.size ∧ ql.length ≤ 801 ∧ xl.length ≤ 802 ∧ c4 = .string ⟨ql.toArray⟩ ∧ c5 = .string ⟨xl.toArray⟩ ∧ c6 = .int .i64 (i : Int) ∧ Hid (ql = 39 :: esc (s.data.toList.take i)) ∧ Hid (xl = 120 :: 39 :: hexE (s.data.toList.take i)) ∧ Below W.heap.size W wr) (fun _ _ c6 _ => s.size - (intOf c6).toNat)
    case atStart => exact ⟨0, [39], [120, 39], by omega, by decide, by decide, rfl, rfl, rfl, (show [39] = 39 :: esc (s.data.toList.take 0) from rfl), (show [120, 39] = 120 :: 39 :: hexE (s.data.toList.take 0) from rfl), Below.refl _ _⟩
    case round =>
      obtain ⟨i, ql, xl, hi, hql, hxl, rfl, rfl, rfl, hq, hx, hB⟩ := hrel
      by_cases hlt : i < s.size
      · have hlt' : (i : Int) < (s.size : Int) := by omega
        have hlt1 : (i : Int) + 1 ≤ (s.size : Int) := by omega
        obtain ⟨c, hc, hec⟩ := at_chr hlt
        have hce : ((s[i].toNat : Nat) : Int) = (c.toNat : Int) := by rw [chr_eq s i hlt, hec]
        have hcb := UInt8.toNat_lt c
        have h1 := ext_one hc
        have HC : Hid (s.data.toList[i]? = some c) := hc
        obtain ⟨a, hae, ha16, haE⟩ : ∃ a : Nat, (c.toNat : Int) / 16 = (a : Int) ∧ a < 16 ∧ c.toNat / 16 = a := ⟨c.toNat / 16, by omega, by omega, rfl⟩
        obtain ⟨b, hbe, hb16, hbE⟩ : ∃ b : Nat, (c.toNat : Int) % 16 = (b : Int) ∧ b < 16 ∧ c.toNat % 16 = b := ⟨c.toNat % 16, by omega, by omega, rfl⟩
        have HAE : Hid (c.toNat / 16 = a) := haE
        have HBE : Hid (c.toNat % 16 = b) := hbE
        have hda := dig_ext a ha16
        have hdb := dig_ext b hb16
        clear haE hbE hec hc
        by_cases h39 : c = 39
        · have h39' : ((c.toNat : Nat) : Int) = 39 := by rw [h39]; rfl
          obtain rfl : a = 2 := by omega
          obtain rfl : b = 7 := by omega
          have HAY : Hid ((⟨xl.toArray⟩ ++ ((⟨#[48, 49, 50, 51, 52, 53, 54, 55, 56, 57, 97, 98, 99, 100, 101, 102]⟩ : ByteArray).extract 2 3 ++ (⟨#[48, 49, 50, 51, 52, 53, 54, 55, 56, 57, 97, 98, 99, 100, 101, 102]⟩ : ByteArray).extract 7 8) : ByteArray) = (⟨xl.toArray⟩ ++ (⟨#[hexD 2]⟩ ++ ⟨#[hexD 7]⟩))) := by
            have h := congrArg (fun y => (⟨xl.toArray⟩ ++ y : ByteArray)) (congr (congrArg HAppend.hAppend hda) hdb)
            exact h
          clear hda hdb
          have HAP : Hid ((⟨ql.toArray⟩ ++ ⟨#[c]⟩ : ByteArray) = ⟨(ql ++ [c]).toArray⟩) := ba_app ql [c]
          have HAP2 : Hid ((⟨(ql ++ [c]).toArray⟩ ++ ⟨#[39]⟩ : ByteArray) = ⟨(ql ++ [c] ++ [39]).toArray⟩) := ba_app (ql ++ [c]) [39]
          have HAX : Hid ((⟨xl.toArray⟩ ++ (⟨#[hexD 2]⟩ ++ ⟨#[hexD 7]⟩) : ByteArray) = ⟨(xl ++ [hexD 2, hexD 7]).toArray⟩) := by
            have h1 : (⟨#[hexD 2]⟩ ++ ⟨#[hexD 7]⟩ : ByteArray) = ⟨#[hexD 2, hexD 7]⟩ := ba_app [hexD 2] [hexD 7]
            have h2 : (⟨xl.toArray⟩ ++ (⟨#[hexD 2]⟩ ++ ⟨#[hexD 7]⟩) : ByteArray) = ⟨(xl ++ [hexD 2, hexD 7]).toArray⟩ := by
              rw [h1]
              exact ba_app xl [hexD 2, hexD 7]
            exact h2
          have HQ : Hid (ql ++ [c] ++ [39] = 39 :: esc (s.data.toList.take (i + 1))) := by
            have h : ql ++ [c] ++ [39] = 39 :: esc (s.data.toList.take (i + 1)) := by
              rw [take_one HC.out, esc_snoc, if_pos h39, hq.out]
              rw [h39]; simp
            exact h
          have HX : Hid (xl ++ [hexD 2, hexD 7] = 120 :: 39 :: hexE (s.data.toList.take (i + 1))) := by
            have h : xl ++ [hexD 2, hexD 7] = 120 :: 39 :: hexE (s.data.toList.take (i + 1)) := by
              rw [take_one HC.out, hexE_snoc, HAE.out, HBE.out, hx.out]
              rfl
            exact h
          have HN : Hid ((ql ++ [c] ++ [39]).length ≤ 801 ∧ (xl ++ [hexD 2, hexD 7]).length ≤ 802) := by
            have h : (ql ++ [c] ++ [39]).length ≤ 801 ∧ (xl ++ [hexD 2, hexD 7]).length ≤ 802 := by
              rw [HQ.out, HX.out]
              have e1 := esc_len (s.data.toList.take (i + 1))
              have e2 := hexE_len (s.data.toList.take (i + 1))
              rw [List.length_take] at e1 e2
              simp only [List.length_cons]
              omega
            exact h
          clear h39 hq hx
          go_wp2
          go_quiet (fail)
          go_wp2
          refine ⟨⟨i + 1, ql ++ [c] ++ [39], xl ++ [hexD 2, hexD 7], by omega, HN.out.1, HN.out.2, by rw [HAP.out, HAP2.out], by rw [HAY.out, HAX.out], by go_num, HQ, HX, below_drewN hB _⟩, ?_⟩
          simp [intOf]
          omega
        · have h39' : ¬ ((c.toNat : Nat) : Int) = 39 := fun e => h39 (byte_of e (by decide))
          have HAP : Hid ((⟨ql.toArray⟩ ++ ⟨#[c]⟩ : ByteArray) = ⟨(ql ++ [c]).toArray⟩) := ba_app ql [c]
          have HAP2 : Hid ((⟨(ql ++ [c]).toArray⟩ ++ ⟨#[39]⟩ : ByteArray) = ⟨(ql ++ [c] ++ [39]).toArray⟩) := ba_app (ql ++ [c]) [39]
          have HAX : Hid ((⟨xl.toArray⟩ ++ (⟨#[hexD a]⟩ ++ ⟨#[hexD b]⟩) : ByteArray) = ⟨(xl ++ [hexD a, hexD b]).toArray⟩) := by
            have h1 : (⟨#[hexD a]⟩ ++ ⟨#[hexD b]⟩ : ByteArray) = ⟨#[hexD a, hexD b]⟩ := ba_app [hexD a] [hexD b]
            have h2 : (⟨xl.toArray⟩ ++ (⟨#[hexD a]⟩ ++ ⟨#[hexD b]⟩) : ByteArray) = ⟨(xl ++ [hexD a, hexD b]).toArray⟩ := by
              rw [h1]
              exact ba_app xl [hexD a, hexD b]
            exact h2
          have HQ : Hid (ql ++ [c] = 39 :: esc (s.data.toList.take (i + 1))) := by
            have h : ql ++ [c] = 39 :: esc (s.data.toList.take (i + 1)) := by
              rw [take_one HC.out, esc_snoc, if_neg h39, hq.out]
              rfl
            exact h
          have HX : Hid (xl ++ [hexD a, hexD b] = 120 :: 39 :: hexE (s.data.toList.take (i + 1))) := by
            have h : xl ++ [hexD a, hexD b] = 120 :: 39 :: hexE (s.data.toList.take (i + 1)) := by
              rw [take_one HC.out, hexE_snoc, HAE.out, HBE.out, hx.out]
              rfl
            exact h
          have HN : Hid ((ql ++ [c]).length ≤ 801 ∧ (xl ++ [hexD a, hexD b]).length ≤ 802) := by
            have h : (ql ++ [c]).length ≤ 801 ∧ (xl ++ [hexD a, hexD b]).length ≤ 802 := by
              rw [HQ.out, HX.out]
              have e1 := esc_len (s.data.toList.take (i + 1))
              have e2 := hexE_len (s.data.toList.take (i + 1))
              rw [List.length_take] at e1 e2
              simp only [List.length_cons]
              omega
            exact h
          clear h39 hq hx
          go_wp2
          go_quiet (fail)
          go_wp2
          refine ⟨⟨i + 1, ql ++ [c], xl ++ [hexD a, hexD b], by omega, HN.out.1, HN.out.2, by rw [HAP.out], by rw [HAX.out], by go_num, HQ, HX, below_drewN hB _⟩, ?_⟩
          simp [intOf]
          omega
      · have hlt' : ¬ (i : Int) < (s.size : Int) := by omega
        have hfull : s.data.toList.take i = s.data.toList := List.take_of_length_le (by have := HLS.out; omega)
        have hlen : s.data.toList.length ≤ 400 := by have := HLS.out; omega
        have hwq := words_quote hlen
        have hwx := words_hex hlen
        rw [← List.cons_append, ← hfull, ← hq.out] at hwq
        rw [← List.cons_append, ← List.cons_append, ← hfull, ← hx.out] at hwx
        rw [hfull] at hwq hwx
        have w1 := words_any (⟨ql.toArray⟩ ++ ⟨[39].toArray⟩) (by rw [ba_size]; simp; omega)
        have w2 := words_any (⟨xl.toArray⟩ ++ ⟨[39].toArray⟩) (by rw [ba_size]; simp; omega)
        rw [ba_data, hwq] at w1
        rw [ba_data, hwx] at w2
        have HT : Hid ((⟨s.data.toList.toArray⟩ : ByteArray) = s) := (ba_eq rfl).symm
        obtain ⟨tl, htl⟩ : ∃ tl, s.data.toList = tl := ⟨_, rfl⟩
        rw [htl] at w1 w2
        have HTL : Hid (s.data.toList = tl) := htl
        have hcmp : (tl == s.toList) = true := by rw [← htl, Lib.toList_data]; simp
        clear hfull hwq hwx hq hx htl
        go_wp2_with fail
        refine (w1 _ (he.later hB)).mono ?_
        rintro e wa ⟨p, cc, rfl, hsl1, hb1⟩
        go_wp2_with fail
        refine (w2 _ ((he.later hB).later hb1)).mono ?_
        rintro e wb ⟨p2, cc2, rfl, hsl2, hb2⟩
        go_wp2_with fail
        refine (awake_any _ (((he.later hB).later hb1).later hb2)).mono ?_
        rintro e wc ⟨rfl, hb3⟩
        have hs1 := (hsl1.later hb2).later hb3
        have hs2 := hsl2.later hb3
        obtain ⟨b1, rfl, hl1, hc1⟩ := hs1.lies (by simp)
        obtain ⟨b2, rfl, hl2, hc2⟩ := hs2.lies (by simp)
        have k10 := hc1 0 _ rfl
        have k11 := hc1 1 _ rfl
        have k20 := hc2 0 _ rfl
        have k21 := hc2 1 _ rfl
        have hcap1 := hs1.cap
        have hcap2 := hs2.cap
        simp only [List.length_cons, List.length_nil] at hcap1 hcap2
        clear hsl1 hsl2 hs1 hs2 hc1 hc2 w1 w2
        go_wp2
        go_ret
        have hs0 := hB.size
        have hs1' := hb1.size
        have hs2' := hb2.size
        exact ⟨by simp, ((hB.trans (hb1.mono hs0)).trans (hb2.mono (by omega))).trans (hb3.mono (by omega))⟩
end Go.Proofs.YticmoapmolmcjaaDoor
