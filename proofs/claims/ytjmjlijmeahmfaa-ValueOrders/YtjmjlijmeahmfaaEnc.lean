/- A value's bytes, or why it has none (Encode, Check). -/
import Derived.Test.YtjmjlijmeahmfaaPutv
namespace Go.Proofs.Ytjmjlijmeahmfaa
open Go.RowKit
def checkT (t : Tr) : Int := if soundT t 1 = 0 then (if 1024 < (bytesT t).length then 3 else 0) else soundT t 1
def encT (t : Tr) : ByteArray := if checkT t = 0 then ⟨(bytesT t).toArray⟩ else ⟨#[]⟩
theorem bytesT_ne (t : Tr) : bytesT t ≠ [] := by cases t <;> rw [bytesT] <;> simp
set_option maxRecDepth 100000 in
set_option maxHeartbeats 4000000 in
theorem encode_any {t : Tr} {B : Nat} {w : World} {x : Ad} (hL : Lies B w t x) (hB : B ≤ w.heap.size) (hsm : small t) :
    Calls Try.prog 14 #[t.val x] w fun e w' => e = .returned (.tuple #[.string (encT t), .int .i64 (checkT t)]) ∧ Below w.heap.size w w' := by
  obtain ⟨C, hC⟩ : ∃ C, checkT t = C := ⟨_, rfl⟩
  obtain ⟨X, hX⟩ : ∃ X, encT t = X := ⟨_, rfl⟩
  rw [hC, hX]
  have HC : Hid (checkT t = C) := hC
  have HX : Hid (encT t = X) := hX
  clear hC hX
  obtain ⟨E, hE⟩ : ∃ E, soundT t 1 = E := ⟨_, rfl⟩
  have hso := fun (W : World) (hb : Below B w W) (hs : B ≤ W.heap.size) => sound_any t B W x 1 (by decide) (by decide) (hL.later hb) hs
  rw [hE] at hso
  have HE : Hid (soundT t 1 = E) := hE
  clear hE
  obtain ⟨bs, hbs⟩ : ∃ bs, bytesT t = bs := ⟨_, rfl⟩
  have HB : Hid (bytesT t = bs) := hbs
  have hne := bytesT_ne t
  rw [hbs] at hne
  clear hbs
  have hpt := put_all t 1
  rw [PutC, HB.out] at hpt
  have hV : t.val x = .agg #[.int .i64 t.k, .bool t.b, .int .i64 t.n, .string t.s, .slice x.pa t.m x.pc, .slice x.na t.q x.nc] := rfl
  rw [hV] at hso ⊢
  have hbel : Below w.heap.size w (w.alloc (.cells #[.int .i64 t.k, .bool t.b, .int .i64 t.n, .string t.s, .slice x.pa t.m x.pc, .slice x.na t.q x.nc] 25)) := (Below.refl _ w).alloc (Nat.le_refl _) _
  have hrow := (heap_alloc_new w (.cells #[.int .i64 t.k, .bool t.b, .int .i64 t.n, .string t.s, .slice x.pa t.m x.pc, .slice x.na t.q x.nc] 25))
  by_cases h0 : E = 0
  · subst h0
    go_enter Try.func14, Try.ntmps14
    go_wp2_with fail
    refine (hso _ (hbel.mono hB) (by simp; omega)).mono ?_
    rintro e w1 ⟨rfl, hb1⟩
    replace hrow := (hb1.block _ (by simp)).trans hrow
    replace hbel := hbel.trans (hb1.mono (by simp))
    clear hb1
    have hlt := lt_of_row hrow
    have hbl := bld_new w1
    have hb2 : Below w1.heap.size w1 (w1.alloc (.cells #[.pointer none, .slice none 0 0] 66)) := (Below.refl _ w1).alloc (Nat.le_refl _) _
    have hrow2 := (hb2.block _ hlt).trans hrow
    have c0 := cell_of_row _ _ 0 _ _ _ hrow2
    have c1 := cell_of_row _ _ 1 _ _ _ hrow2
    have c2 := cell_of_row _ _ 2 _ _ _ hrow2
    have c3 := cell_of_row _ _ 3 _ _ _ hrow2
    have c4 := cell_of_row _ _ 4 _ _ _ hrow2
    have c5 := cell_of_row _ _ 5 _ _ _ hrow2
    have hLx := hL.later ((hbel.trans (hb2.mono (by omega))).mono hB)
    have hBb : B ≤ w1.heap.size := by omega
    go_wp2_with fail
    refine (hpt HE.out hsm B _ x _ [] hLx hBb hbl (by simp)).mono ?_
    rintro e w3 ⟨rfl, ⟨l3, hbl3, haf, hl3⟩, hbb3, ht3⟩
    have hfin : Below w.heap.size w w3 := (hbel.trans (hb2.mono (by omega))).trans (hbb3.mono (by omega))
    clear c0 c1 c2 c3 c4 c5
    go_wp2_with fail
    refine (b_len _ l3 _ hbl3).mono ?_
    rintro e w3 ⟨rfl, rfl⟩
    by_cases hbig : 1024 < l3.length
    · have hbig' : (1024 : Int) < (l3.length : Int) := by omega
      have hx : 1024 < bs.length := by
        rcases Nat.lt_or_ge 1024 bs.length with k | k
        · exact k
        · have := haf.1 (by simpa using k); rw [List.nil_append] at this; rw [this] at hbig; omega
      have hc : checkT t = 3 := by unfold checkT; rw [if_pos HE.out, HB.out, if_pos hx]
      have he : encT t = ⟨#[]⟩ := by unfold encT; rw [hc]; rfl
      obtain rfl := hc.symm.trans HC.out
      obtain rfl := he.symm.trans HX.out
      go_wp2
      go_ret2
      exact ⟨rfl, hfin⟩
    · have hbig' : (l3.length : Int) ≤ 1024 := by omega
      have hx : l3 = bs := by have := haf.exact (by omega); simpa using this
      subst hx
      have hc : checkT t = 0 := by unfold checkT; rw [if_pos HE.out, HB.out, if_neg hbig]
      have he : encT t = ⟨l3.toArray⟩ := by unfold encT; rw [hc, if_pos rfl, HB.out]
      obtain rfl := hc.symm.trans HC.out
      obtain rfl := he.symm.trans HX.out
      go_wp2_with fail
      refine (b_string _ l3 _ hbl3 hne).mono ?_
      rintro e w4 ⟨rfl, hb4⟩
      go_wp2
      go_ret2
      exact ⟨rfl, hfin.trans (hb4.mono (by omega))⟩
  · have hc : checkT t = E := by unfold checkT; rw [HE.out, if_neg h0]
    have he : encT t = ⟨#[]⟩ := by unfold encT; rw [hc, if_neg h0]
    obtain rfl := hc.symm.trans HC.out
    obtain rfl := he.symm.trans HX.out
    clear hpt
    have h0' : (E != 0) = true := by simpa using h0
    go_enter Try.func14, Try.ntmps14
    go_wp2_with fail
    refine (hso _ (hbel.mono hB) (by simp; omega)).mono ?_
    rintro e w1 ⟨rfl, hb1⟩
    go_wp2
    go_ret2
    exact ⟨rfl, hbel.trans (hb1.mono (by simp))⟩
set_option maxRecDepth 100000 in
set_option maxHeartbeats 1000000 in
theorem check_any {t : Tr} {B : Nat} {w : World} {x : Ad} (hL : Lies B w t x) (hB : B ≤ w.heap.size) (hsm : small t) :
    Calls Try.prog 11 #[t.val x] w fun e w' => e = .returned (.int .i64 (checkT t)) ∧ Below w.heap.size w w' := by
  have hen := fun (W : World) (hb : Below B w W) (hs : B ≤ W.heap.size) => encode_any (hL.later hb) hs hsm
  have hV : t.val x = .agg #[.int .i64 t.k, .bool t.b, .int .i64 t.n, .string t.s, .slice x.pa t.m x.pc, .slice x.na t.q x.nc] := rfl
  rw [hV] at hen ⊢
  have hbel : Below w.heap.size w (w.alloc (.cells #[.int .i64 t.k, .bool t.b, .int .i64 t.n, .string t.s, .slice x.pa t.m x.pc, .slice x.na t.q x.nc] 25)) := (Below.refl _ w).alloc (Nat.le_refl _) _
  go_enter Try.func11, Try.ntmps11
  go_wp2_with fail
  refine (hen _ (hbel.mono hB) (by simp; omega)).mono ?_
  rintro e w1 ⟨rfl, hb1⟩
  go_wp2
  go_ret
  exact ⟨rfl, hbel.trans (hb1.mono (by simp))⟩
end Go.Proofs.Ytjmjlijmeahmfaa
