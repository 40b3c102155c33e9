/- A map of texts to texts: what is found in it; the laws' said: the sides change places where the literal stands first. The laws' said: the sides change places where the literal stands first. The laws' said: its front: two sides in boxes; what has not two sides. The laws' said of any part. What the laws' said answers beside what the program's says: plain. -/
import Derived.Test.YtfemippjaokcmaaGreatDoorXba
import Derived.Maps.OwnSet
import Derived.Maps.Views
import Derived.Maps.Keyed
import Derived.BigFrame
namespace Go.Proofs.YtfemippjaokcmaaGreatDoor
open Go.RowKit Go.Shelf
attribute [local go_sem] Oper.semAt_some fw0 fw1 fw2
def heldR (v : Value) : Option (DataW Value × List MemPlace) := some (.held v, [])
theorem keyed9 : Maps.Keyed Tryz.prog 9 := Maps.string_keyed Tryz.underlying9
theorem zero9t (w : World) : (zeroValue 9).run Tryz.prog w = .ok (.string ⟨#[]⟩) w := by kernel_rfl
theorem key9m {s : ByteArray} (h : s.size ≤ maxLen) : keyOf Tryz.prog 9 (.string s) = some (.string s.data.toList)   := WideMaps.keyOf_string_mk Tryz.underlying9 h
structure Mf (w : World) (b n : Nat) (F : List UInt8 → Option Value) : Prop where
  ex : ∃ D, w.ownsMap Tryz.prog 9 heldR b n D ∧ Maps.IsMap D ∧ ∀ s, Maps.has D (.string s) = (F s).isSome ∧ ∀ z, D.atKey (.string s) (.held z) = .held ((F s).getD z)
theorem Mf.made (w : World) : Mf (w.alloc (.map #[] 0)) w.heap.size 0 (fun _ => none) := ⟨.map [], World.ownsMap_made w _ _ _, ⟨_, rfl⟩, fun _ => ⟨rfl, fun _ => rfl⟩⟩
theorem Mf.lt {w : World} {b n : Nat} {F : List UInt8 → Option Value} (h : Mf w b n F) : b < w.heap.size := by
  obtain ⟨D, h1, -⟩ := h.ex
  exact h1.lt
theorem Mf.later {w w' : World} {b n : Nat} {F : List UInt8 → Option Value} (h : Mf w b n F) (hb : Below w.heap.size w w') : Mf w' b n F := by
  obtain ⟨D, h1, h2⟩ := h.ex
  exact ⟨D, h1.kept (row := none) ⟨hb.os, hb.tape, hb.output, hb.size, fun k hk _ => hb.block k hk⟩ (by simp), h2⟩
theorem Mf.find {w : World} {b n : Nat} {F : List UInt8 → Option Value} (h : Mf w b n F) {s : ByteArray} (hs : s.size ≤ maxLen) : (Instr.lookup 107 (.map (some b)) (.string s) false).run Tryz.prog w = .ok ((F s.data.toList).getD (.string ⟨#[]⟩)) w := by
  obtain ⟨D, h1, -, h3⟩ := h.ex
  obtain ⟨v, ps, hr, hv⟩ := h1.lookup keyed9 Tryz.underlying107 (zero9t w) (R := heldR) (zd := .held (.string ⟨#[]⟩)) (zp := []) rfl (key9m hs)
  rw [(h3 _).2] at hv
  have e : v = (F s.data.toList).getD (.string ⟨#[]⟩) := by
    simp only [heldR, Option.some.injEq, Prod.mk.injEq, DataW.held.injEq] at hv
    exact hv.1
  rw [hr, e]
theorem Mf.put {w : World} {b n : Nat} {F : List UInt8 → Option Value} (h : Mf w b n F) (hn : n < maxLen) {s : ByteArray} (hs : s.size ≤ maxLen) (v : Value) : ∃ w', (Instr.mapUpdate 107 (.map (some b)) (.string s) v).run Tryz.prog w = .ok () w' ∧ Mf w' b (n + 1) (fun k => if k = s.data.toList then some v else F k) ∧ w.grownBy w' (some b) := by
  obtain ⟨D, h1, h2, h3⟩ := h.ex
  obtain ⟨w', hr, ho, hg⟩ := h1.update keyed9 Tryz.underlying107 hn (key9m hs) (R := heldR) (val := v) rfl
  refine ⟨w', hr, ⟨D.put (.string s.data.toList) (.held v), ho, ?_, fun k => ?_⟩, hg⟩
  · obtain ⟨es, rfl⟩ := h2
    exact ⟨_, rfl⟩
  · by_cases hk : k = s.data.toList
    · subst hk
      simp only [if_true]
      exact ⟨Maps.has_put_same h2 (k := Lit.string s.data.toList) (by exact trivial) _, fun z => Maps.atKey_put_same h2 (k := Lit.string s.data.toList) (by exact trivial) _ _⟩
    · simp only [if_neg hk]
      have hne : (Lit.string k) ≠ .string s.data.toList := fun e => hk (by injection e)
      rw [Maps.has_put_other hne]
      refine ⟨(h3 k).1, fun z => ?_⟩
      rw [Maps.atKey_put_other hne]
      exact (h3 k).2 z
theorem make107 (w : World) : (Instr.makeMap 107 none).run Tryz.prog w = .ok (.map (some w.heap.size)) (w.alloc (.map #[] 0)) := by kernel_rfl
def turnM (l : List UInt8) : ByteArray := if l = [61] then ⟨#[61]⟩ else if l = [62, 61] then ⟨#[60, 61]⟩ else if l = [60, 61] then ⟨#[62, 61]⟩ else if l = [62] then ⟨#[60]⟩ else if l = [60] then ⟨#[62]⟩ else ⟨#[]⟩
end Go.Proofs.YtfemippjaokcmaaGreatDoor
namespace Go.Proofs.YtfemippjaokcmaaGreatDoor
open Go.RowKit Go.Shelf
attribute [local go_sem] Oper.semAt_some fw0 fw1 fw2
def mapF : List UInt8 → Option Value := fun k => if k = [61] then some (.string ⟨#[61]⟩) else if k = [62, 61] then some (.string ⟨#[60, 61]⟩) else if k = [60, 61] then some (.string ⟨#[62, 61]⟩) else if k = [62] then some (.string ⟨#[60]⟩) else if k = [60] then some (.string ⟨#[62]⟩) else none
theorem mapF_turn (l : List UInt8) : (mapF l).getD (.string ⟨#[]⟩) = .string (turnM l) := by
  unfold mapF turnM
  repeat' split
  all_goals rfl
theorem five_map (W : World) : ∃ w1 w2 w3 w4 w5, (Instr.mapUpdate 107 (.map (some W.heap.size)) (.string ⟨#[60]⟩) (.string ⟨#[62]⟩)).run Tryz.prog (W.alloc (.map #[] 0)) = .ok () w1 ∧ (Instr.mapUpdate 107 (.map (some W.heap.size)) (.string ⟨#[62]⟩) (.string ⟨#[60]⟩)).run Tryz.prog w1 = .ok () w2 ∧ (Instr.mapUpdate 107 (.map (some W.heap.size)) (.string ⟨#[60, 61]⟩) (.string ⟨#[62, 61]⟩)).run Tryz.prog w2 = .ok () w3 ∧ (Instr.mapUpdate 107 (.map (some W.heap.size)) (.string ⟨#[62, 61]⟩) (.string ⟨#[60, 61]⟩)).run Tryz.prog w3 = .ok () w4 ∧ (Instr.mapUpdate 107 (.map (some W.heap.size)) (.string ⟨#[61]⟩) (.string ⟨#[61]⟩)).run Tryz.prog w4 = .ok () w5 ∧ Mf w5 W.heap.size 5 mapF ∧ Below W.heap.size W w5 := by
  have b0 : Below W.heap.size W (W.alloc (.map #[] 0)) := (Below.refl _ W).alloc (Nat.le_refl _) _
  obtain ⟨w1, h1, m1, g1⟩ := (Mf.made W).put (by decide) (s := ⟨#[60]⟩) (by decide) (.string ⟨#[62]⟩)
  have b1 := b0.grown g1 b0.size (fun k hk => by injection hk with hk; omega)
  obtain ⟨w2, h2, m2, g2⟩ := m1.put (by decide) (s := ⟨#[62]⟩) (by decide) (.string ⟨#[60]⟩)
  have b2 := b1.grown g2 b1.size (fun k hk => by injection hk with hk; omega)
  obtain ⟨w3, h3, m3, g3⟩ := m2.put (by decide) (s := ⟨#[60, 61]⟩) (by decide) (.string ⟨#[62, 61]⟩)
  have b3 := b2.grown g3 b2.size (fun k hk => by injection hk with hk; omega)
  obtain ⟨w4, h4, m4, g4⟩ := m3.put (by decide) (s := ⟨#[62, 61]⟩) (by decide) (.string ⟨#[60, 61]⟩)
  have b4 := b3.grown g4 b3.size (fun k hk => by injection hk with hk; omega)
  obtain ⟨w5, h5, m5, g5⟩ := m4.put (by decide) (s := ⟨#[61]⟩) (by decide) (.string ⟨#[61]⟩)
  have b5 := b4.grown g5 b4.size (fun k hk => by injection hk with hk; omega)
  refine ⟨w1, w2, w3, w4, w5, h1, h2, h3, h4, h5, ?_, b5⟩
  have e : (fun k => if k = (⟨#[61]⟩ : ByteArray).data.toList then some (Value.string ⟨#[61]⟩) else if k = (⟨#[62, 61]⟩ : ByteArray).data.toList then some (.string ⟨#[60, 61]⟩) else if k = (⟨#[60, 61]⟩ : ByteArray).data.toList then some (.string ⟨#[62, 61]⟩) else if k = (⟨#[62]⟩ : ByteArray).data.toList then some (.string ⟨#[60]⟩) else if k = (⟨#[60]⟩ : ByteArray).data.toList then some (.string ⟨#[62]⟩) else none) = mapF := rfl
  rw [← e]
  exact m5
theorem LsW.later {w W W' : World} {b4 b6 b7 : Nat} {r6 r7 : Array Value} (h : LsW w W b4 b6 b7 r6 r7) (hb : Below W.heap.size W W') : LsW w W' b4 b6 b7 r6 r7 :=
  ⟨h.bel.trans (hb.mono h.bel.size), h.old, Below.row hb h.z, Below.row hb h.a, Below.row hb h.b⟩
theorem mf_row {w : World} {b n c : Nat} {F : List UInt8 → Option Value} (h : Mf w b n F) (hc : b ≠ c) (r : Array Value) : Mf (put w c r) b n F := by
  obtain ⟨D, h1, h2⟩ := h.ex
  have hb := put_below (Below.refl 0 w) c (Nat.zero_le c) r
  exact ⟨D, h1.kept (row := some c) ⟨hb.os, hb.tape, hb.output, hb.size, fun k _ hk => put_other (fun e => hk (by rw [e])) _⟩ (by simpa using hc), h2⟩
theorem setCells_drew' (b : Nat) : ∀ (vs : List Value) (o : Nat) (w : World), (w.setCells b o vs).drew = w.drew.setCells b o vs
  | [], _, _ => rfl
  | _ :: vs, o, _ => setCells_drew' b vs (o + 1) _
theorem put_drew (w : World) (b : Nat) (r : Array Value) : (put w b r).drew = put w.drew b r := setCells_drew' b _ 0 w
theorem LsW.drew {w W : World} {b4 b6 b7 : Nat} {r6 r7 : Array Value} (h : LsW w W b4 b6 b7 r6 r7) : LsW w W.drew b4 b6 b7 r6 r7 := h.later (Below.refl _ W).drew
set_option maxRecDepth 100000 in
set_option maxHeartbeats 8000000 in
theorem lsd_stay {w W : World} {b4 b6 b7 : Nat} (sg : ByteArray) (k0 : Int) (s0 : ByteArray) (vk0 : Int) (vb0 : Bool) (vn0 : Int) (vs0 : ByteArray) (kp0 : Option Addr) (n0 kc0 : Nat) (np0 : Option Addr) (m0 nc0 : Nat) (k1 : Int) (s1 : ByteArray) (vk1 : Int) (vb1 : Bool) (vn1 : Int) (vs1 : ByteArray) (kp1 : Option Addr) (n1 kc1 : Nat) (np1 : Option Addr) (m1 nc1 : Nat) (h0 : (k0 == 1) = false ∨ (k1 == 2) = false) (hM : LsW w W b4 b6 b7 #[.int .i64 k0, .string s0, .int .i64 vk0, .bool vb0, .int .i64 vn0, .string vs0, .slice none 0 0, .slice none 0 0, .slice kp0 n0 kc0, .slice np0 m0 nc0] #[.int .i64 k1, .string s1, .int .i64 vk1, .bool vb1, .int .i64 vn1, .string vs1, .slice none 0 0, .slice none 0 0, .slice kp1 n1 kc1, .slice np1 m1 nc1]) (_hne : b4 ≠ b6 ∧ b4 ≠ b7 ∧ b6 ≠ b7 ∧ w.heap.size ≤ b6 ∧ w.heap.size ≤ b7) (y0 y1 y9 y10 y11 y12 y13 y14 y15 y16 y17 y18 y19 y20 y21 y22 y23 y24 y25 y26 y27 y28 y29 y30 y31 y32 y33 y34 y35 y36 y37 y38 y39 y40 y41 y42 y43 y44 y45 y46 y47 y48 y49 y50 y51 y52 y53 y54 y55 y56 y57 y58 y59 y60 y61 y62 y63 y64 y65 y66 y67 y68 y69 y70 y71 y72 y73 y74 y75 y76 y77 y78 y79 y80 y81 y82 y83 y84 y85 y86 y87 y88 y89 y90 y91 y92 y93 : Value) (cc : Code) (hcc : cutSd Tryz.f33.body = some cc) (Po : Ending → World → Prop)
    (htl : ∀ (W2 : World) (y0 y1 y9 y10 y11 y12 y13 y14 y15 y16 y17 y18 y19 y20 y21 y22 y23 y24 y25 y26 y27 y28 y29 y30 y31 y32 y33 y34 y35 y36 y37 y38 y39 y40 y41 y42 y43 y44 y45 y46 y47 y48 y49 y50 y51 y52 y53 y54 y55 y56 y57 y58 y59 y60 y61 y62 y63 y64 y65 y66 y67 y68 y69 y70 y71 y72 y73 y74 y75 y76 y77 y78 y79 y80 y81 y82 y83 y84 y85 y86 y87 y88 y89 y90 y91 y92 y93 : Value) (cc : Code), LsW w W2 b4 b6 b7 #[.int .i64 k0, .string s0, .int .i64 vk0, .bool vb0, .int .i64 vn0, .string vs0, .slice none 0 0, .slice none 0 0, .slice kp0 n0 kc0, .slice np0 m0 nc0] #[.int .i64 k1, .string s1, .int .i64 vk1, .bool vb1, .int .i64 vn1, .string vs1, .slice none 0 0, .slice none 0 0, .slice kp1 n1 kc1, .slice np1 m1 nc1] → cutSe (cutSd Tryz.f33.body) = some cc → Code.wp Tryz.prog cc (bodyPost Tryz.prog Tryz.f33 Po) ⟨List.toArray (y0 :: y1 :: .string ⟨#[]⟩ :: .string ⟨#[]⟩ :: .pointer (some ⟨b4, 0, none⟩) :: .bool false :: .pointer (some ⟨b6, 0, none⟩) :: .pointer (some ⟨b7, 0, none⟩) :: .string sg :: y9 :: y10 :: y11 :: y12 :: y13 :: y14 :: y15 :: y16 :: y17 :: y18 :: y19 :: y20 :: y21 :: y22 :: y23 :: y24 :: y25 :: y26 :: y27 :: y28 :: y29 :: y30 :: y31 :: y32 :: y33 :: y34 :: y35 :: y36 :: y37 :: y38 :: y39 :: y40 :: y41 :: y42 :: y43 :: y44 :: y45 :: y46 :: y47 :: y48 :: y49 :: y50 :: y51 :: y52 :: y53 :: y54 :: y55 :: y56 :: y57 :: y58 :: y59 :: y60 :: y61 :: y62 :: y63 :: y64 :: y65 :: y66 :: y67 :: y68 :: y69 :: y70 :: y71 :: y72 :: y73 :: y74 :: y75 :: y76 :: y77 :: y78 :: y79 :: y80 :: y81 :: y82 :: y83 :: y84 :: y85 :: y86 :: y87 :: y88 :: y89 :: y90 :: y91 :: y92 :: y93 :: []), []⟩ W2) :
    Code.wp Tryz.prog cc (bodyPost Tryz.prog Tryz.f33 Po) ⟨List.toArray (y0 :: y1 :: .string ⟨#[]⟩ :: .string ⟨#[]⟩ :: .pointer (some ⟨b4, 0, none⟩) :: .bool false :: .pointer (some ⟨b6, 0, none⟩) :: .pointer (some ⟨b7, 0, none⟩) :: .string sg :: y9 :: y10 :: y11 :: y12 :: y13 :: y14 :: y15 :: y16 :: y17 :: y18 :: y19 :: y20 :: y21 :: y22 :: y23 :: y24 :: y25 :: y26 :: y27 :: y28 :: y29 :: y30 :: y31 :: y32 :: y33 :: y34 :: y35 :: y36 :: y37 :: y38 :: y39 :: y40 :: y41 :: y42 :: y43 :: y44 :: y45 :: y46 :: y47 :: y48 :: y49 :: y50 :: y51 :: y52 :: y53 :: y54 :: y55 :: y56 :: y57 :: y58 :: y59 :: y60 :: y61 :: y62 :: y63 :: y64 :: y65 :: y66 :: y67 :: y68 :: y69 :: y70 :: y71 :: y72 :: y73 :: y74 :: y75 :: y76 :: y77 :: y78 :: y79 :: y80 :: y81 :: y82 :: y83 :: y84 :: y85 :: y86 :: y87 :: y88 :: y89 :: y90 :: y91 :: y92 :: y93 :: []), []⟩ W := by
  obtain ⟨cT, hcT⟩ : ∃ c, cutSe (cutSd Tryz.f33.body) = some c := ⟨_, rfl⟩
  obtain rfl := seq_of hcc hcT
  obtain ⟨A, hA⟩ : ∃ c, cutHd (cutSd Tryz.f33.body) = some c := ⟨_, rfl⟩
  rw [hA]
  obtain rfl := Option.some.inj ((show cutHd (cutSd Tryz.f33.body) = some _ from rfl).symm.trans hA)
  rw [Option.getD_some]
  have HC := mkHid hcT
  have HT := mkHid htl
  have HM := mkHid hM
  have f0 := cell_of_row W _ 0 _ _ _ hM.a
  have g0 := cell_of_row W _ 0 _ _ _ hM.b
  clear hcT hA hcc htl
  clear hM
  obtain ⟨x0, hx0⟩ : ∃ x, (k0 == 1) = x := ⟨_, rfl⟩
  obtain ⟨x1, hx1⟩ : ∃ x, (k1 == 2) = x := ⟨_, rfl⟩
  rw [hx0, hx1] at h0
  rcases x0 with _ | _
  · clear h0
    go_wp2_with fail
    exact HT.out W _ _ _ _ _ _ _ _ _ _ _ _ _ _ _ _ _ _ _ _ _ _ _ _ _ _ _ _ _ _ _ _ _ _ _ _ _ _ _ _ _ _ _ _ _ _ _ _ _ _ _ _ _ _ _ _ _ _ _ _ _ _ _ _ _ _ _ _ _ _ _ _ _ _ _ _ _ _ _ _ _ _ _ _ _ _ _ cT HM.out HC.out
  rcases x1 with _ | _
  · clear h0
    go_wp2_with fail
    exact HT.out W _ _ _ _ _ _ _ _ _ _ _ _ _ _ _ _ _ _ _ _ _ _ _ _ _ _ _ _ _ _ _ _ _ _ _ _ _ _ _ _ _ _ _ _ _ _ _ _ _ _ _ _ _ _ _ _ _ _ _ _ _ _ _ _ _ _ _ _ _ _ _ _ _ _ _ _ _ _ _ _ _ _ _ _ _ _ _ cT HM.out HC.out
  · rcases h0 with h0 | h0 <;> cases h0
set_option maxRecDepth 100000 in
set_option maxHeartbeats 8000000 in
theorem lsd_swap {w W : World} {b4 b6 b7 : Nat} (sg : ByteArray) (k0 : Int) (s0 : ByteArray) (vk0 : Int) (vb0 : Bool) (vn0 : Int) (vs0 : ByteArray) (kp0 : Option Addr) (n0 kc0 : Nat) (np0 : Option Addr) (m0 nc0 : Nat) (k1 : Int) (s1 : ByteArray) (vk1 : Int) (vb1 : Bool) (vn1 : Int) (vs1 : ByteArray) (kp1 : Option Addr) (n1 kc1 : Nat) (np1 : Option Addr) (m1 nc1 : Nat) (h0 : k0 = 1) (h1 : k1 = 2) (hsz : sg.size ≤ maxLen) (hM : LsW w W b4 b6 b7 #[.int .i64 k0, .string s0, .int .i64 vk0, .bool vb0, .int .i64 vn0, .string vs0, .slice none 0 0, .slice none 0 0, .slice kp0 n0 kc0, .slice np0 m0 nc0] #[.int .i64 k1, .string s1, .int .i64 vk1, .bool vb1, .int .i64 vn1, .string vs1, .slice none 0 0, .slice none 0 0, .slice kp1 n1 kc1, .slice np1 m1 nc1]) (hne : b4 ≠ b6 ∧ b4 ≠ b7 ∧ b6 ≠ b7 ∧ w.heap.size ≤ b6 ∧ w.heap.size ≤ b7) (y0 y1 y9 y10 y11 y12 y13 y14 y15 y16 y17 y18 y19 y20 y21 y22 y23 y24 y25 y26 y27 y28 y29 y30 y31 y32 y33 y34 y35 y36 y37 y38 y39 y40 y41 y42 y43 y44 y45 y46 y47 y48 y49 y50 y51 y52 y53 y54 y55 y56 y57 y58 y59 y60 y61 y62 y63 y64 y65 y66 y67 y68 y69 y70 y71 y72 y73 y74 y75 y76 y77 y78 y79 y80 y81 y82 y83 y84 y85 y86 y87 y88 y89 y90 y91 y92 y93 : Value) (cc : Code) (hcc : cutSd Tryz.f33.body = some cc) (Po : Ending → World → Prop)
    (htl : ∀ (W2 : World) (y0 y1 y9 y10 y11 y12 y13 y14 y15 y16 y17 y18 y19 y20 y21 y22 y23 y24 y25 y26 y27 y28 y29 y30 y31 y32 y33 y34 y35 y36 y37 y38 y39 y40 y41 y42 y43 y44 y45 y46 y47 y48 y49 y50 y51 y52 y53 y54 y55 y56 y57 y58 y59 y60 y61 y62 y63 y64 y65 y66 y67 y68 y69 y70 y71 y72 y73 y74 y75 y76 y77 y78 y79 y80 y81 y82 y83 y84 y85 y86 y87 y88 y89 y90 y91 y92 y93 : Value) (cc : Code), LsW w W2 b4 b6 b7 #[.int .i64 2, .string s1, .int .i64 vk1, .bool vb1, .int .i64 vn1, .string vs1, .slice none 0 0, .slice none 0 0, .slice kp1 n1 kc1, .slice np1 m1 nc1] #[.int .i64 1, .string s0, .int .i64 vk0, .bool vb0, .int .i64 vn0, .string vs0, .slice none 0 0, .slice none 0 0, .slice kp0 n0 kc0, .slice np0 m0 nc0] → cutSe (cutSd Tryz.f33.body) = some cc → Code.wp Tryz.prog cc (bodyPost Tryz.prog Tryz.f33 Po) ⟨List.toArray (y0 :: y1 :: .string ⟨#[]⟩ :: .string ⟨#[]⟩ :: .pointer (some ⟨b4, 0, none⟩) :: .bool false :: .pointer (some ⟨b6, 0, none⟩) :: .pointer (some ⟨b7, 0, none⟩) :: .string (turnM sg.data.toList) :: y9 :: y10 :: y11 :: y12 :: y13 :: y14 :: y15 :: y16 :: y17 :: y18 :: y19 :: y20 :: y21 :: y22 :: y23 :: y24 :: y25 :: y26 :: y27 :: y28 :: y29 :: y30 :: y31 :: y32 :: y33 :: y34 :: y35 :: y36 :: y37 :: y38 :: y39 :: y40 :: y41 :: y42 :: y43 :: y44 :: y45 :: y46 :: y47 :: y48 :: y49 :: y50 :: y51 :: y52 :: y53 :: y54 :: y55 :: y56 :: y57 :: y58 :: y59 :: y60 :: y61 :: y62 :: y63 :: y64 :: y65 :: y66 :: y67 :: y68 :: y69 :: y70 :: y71 :: y72 :: y73 :: y74 :: y75 :: y76 :: y77 :: y78 :: y79 :: y80 :: y81 :: y82 :: y83 :: y84 :: y85 :: y86 :: y87 :: y88 :: y89 :: y90 :: y91 :: y92 :: y93 :: []), []⟩ W2) :
    Code.wp Tryz.prog cc (bodyPost Tryz.prog Tryz.f33 Po) ⟨List.toArray (y0 :: y1 :: .string ⟨#[]⟩ :: .string ⟨#[]⟩ :: .pointer (some ⟨b4, 0, none⟩) :: .bool false :: .pointer (some ⟨b6, 0, none⟩) :: .pointer (some ⟨b7, 0, none⟩) :: .string sg :: y9 :: y10 :: y11 :: y12 :: y13 :: y14 :: y15 :: y16 :: y17 :: y18 :: y19 :: y20 :: y21 :: y22 :: y23 :: y24 :: y25 :: y26 :: y27 :: y28 :: y29 :: y30 :: y31 :: y32 :: y33 :: y34 :: y35 :: y36 :: y37 :: y38 :: y39 :: y40 :: y41 :: y42 :: y43 :: y44 :: y45 :: y46 :: y47 :: y48 :: y49 :: y50 :: y51 :: y52 :: y53 :: y54 :: y55 :: y56 :: y57 :: y58 :: y59 :: y60 :: y61 :: y62 :: y63 :: y64 :: y65 :: y66 :: y67 :: y68 :: y69 :: y70 :: y71 :: y72 :: y73 :: y74 :: y75 :: y76 :: y77 :: y78 :: y79 :: y80 :: y81 :: y82 :: y83 :: y84 :: y85 :: y86 :: y87 :: y88 :: y89 :: y90 :: y91 :: y92 :: y93 :: []), []⟩ W := by
  obtain ⟨cT, hcT⟩ : ∃ c, cutSe (cutSd Tryz.f33.body) = some c := ⟨_, rfl⟩
  obtain rfl := seq_of hcc hcT
  obtain ⟨A, hA⟩ : ∃ c, cutHd (cutSd Tryz.f33.body) = some c := ⟨_, rfl⟩
  rw [hA]
  obtain rfl := Option.some.inj ((show cutHd (cutSd Tryz.f33.body) = some _ from rfl).symm.trans hA)
  rw [Option.getD_some]
  have HC := mkHid hcT
  have HT := mkHid htl
  have HM := mkHid hM
  have f0 := cell_of_row W _ 0 _ _ _ hM.a
  have g0 := cell_of_row W _ 0 _ _ _ hM.b
  clear hcT hA hcc htl
  subst h0
  subst h1
  have hmk := make107 W
  obtain ⟨w0, hw0⟩ : ∃ w0, W.alloc (.map #[] 0) = w0 := ⟨_, rfl⟩
  obtain ⟨w1, w2, w3, w4, w5, u1, u2, u3, u4, u5, hmf, hb5⟩ := five_map W
  rw [hw0] at hmk u1
  have hM5 := hM.later hb5
  have hbm6 : W.heap.size ≠ b6 := fun e => by have h := hM.a; rw [← e] at h; simp at h
  have hbm7 : W.heap.size ≠ b7 := fun e => by have h := hM.b; rw [← e] at h; simp at h
  have hmd := hmf.later (w' := w5.drew) (Below.refl _ _).drew
  have hfd := hmd.find hsz
  have hp1 := mf_row hmd hbm6 #[.int .i64 2, .string s1, .int .i64 vk1, .bool vb1, .int .i64 vn1, .string vs1, .slice none 0 0, .slice none 0 0, .slice kp1 n1 kc1, .slice np1 m1 nc1]
  have hf1 := hp1.find hsz
  have hf2 := (mf_row hp1 hbm7 #[.int .i64 1, .string s0, .int .i64 vk0, .bool vb0, .int .i64 vn0, .string vs0, .slice none 0 0, .slice none 0 0, .slice kp0 n0 kc0, .slice np0 m0 nc0]).find hsz
  rw [mapF_turn] at hfd hf1 hf2
  have e1 : ((((((((((w5.setCell ⟨b6, 0, none⟩ (.int .i64 2)).setCell ⟨b6, 1, none⟩ (.string s1)).setCell ⟨b6, 2, none⟩ (.int .i64 vk1)).setCell ⟨b6, 3, none⟩ (.bool vb1)).setCell ⟨b6, 4, none⟩ (.int .i64 vn1)).setCell ⟨b6, 5, none⟩ (.string vs1)).setCell ⟨b6, 6, none⟩ (.slice none 0 0)).setCell ⟨b6, 7, none⟩ (.slice none 0 0)).setCell ⟨b6, 8, none⟩ (.slice kp1 n1 kc1)).setCell ⟨b6, 9, none⟩ (.slice np1 m1 nc1)) = put w5 b6 #[.int .i64 2, .string s1, .int .i64 vk1, .bool vb1, .int .i64 vn1, .string vs1, .slice none 0 0, .slice none 0 0, .slice kp1 n1 kc1, .slice np1 m1 nc1] := by rw [put_ten]
  have e2 : ((((((((((((((((((((w5.setCell ⟨b6, 0, none⟩ (.int .i64 2)).setCell ⟨b6, 1, none⟩ (.string s1)).setCell ⟨b6, 2, none⟩ (.int .i64 vk1)).setCell ⟨b6, 3, none⟩ (.bool vb1)).setCell ⟨b6, 4, none⟩ (.int .i64 vn1)).setCell ⟨b6, 5, none⟩ (.string vs1)).setCell ⟨b6, 6, none⟩ (.slice none 0 0)).setCell ⟨b6, 7, none⟩ (.slice none 0 0)).setCell ⟨b6, 8, none⟩ (.slice kp1 n1 kc1)).setCell ⟨b6, 9, none⟩ (.slice np1 m1 nc1)).setCell ⟨b7, 0, none⟩ (.int .i64 1)).setCell ⟨b7, 1, none⟩ (.string s0)).setCell ⟨b7, 2, none⟩ (.int .i64 vk0)).setCell ⟨b7, 3, none⟩ (.bool vb0)).setCell ⟨b7, 4, none⟩ (.int .i64 vn0)).setCell ⟨b7, 5, none⟩ (.string vs0)).setCell ⟨b7, 6, none⟩ (.slice none 0 0)).setCell ⟨b7, 7, none⟩ (.slice none 0 0)).setCell ⟨b7, 8, none⟩ (.slice kp0 n0 kc0)).setCell ⟨b7, 9, none⟩ (.slice np0 m0 nc0)) = (put (put w5 b6 #[.int .i64 2, .string s1, .int .i64 vk1, .bool vb1, .int .i64 vn1, .string vs1, .slice none 0 0, .slice none 0 0, .slice kp1 n1 kc1, .slice np1 m1 nc1]) b7 #[.int .i64 1, .string s0, .int .i64 vk0, .bool vb0, .int .i64 vn0, .string vs0, .slice none 0 0, .slice none 0 0, .slice kp0 n0 kc0, .slice np0 m0 nc0]) := by rw [put_ten, put_ten]
  rw [← put_drew, ← e1] at hf1
  rw [← put_drew, ← put_drew, ← e2] at hf2
  obtain ⟨sz, hszz⟩ : ∃ z, turnM sg.data.toList = z := ⟨_, rfl⟩
  rw [hszz] at hfd hf1 hf2 HT
  obtain ⟨bm, hbm⟩ : ∃ z, W.heap.size = z := ⟨_, rfl⟩
  rw [hbm] at hmk u1 u2 u3 u4 u5 hfd hf1 hf2
  have H5 := mkHid hM5
  have HN := mkHid hne
  have ne1 : ¬ b6 = b7 := hne.2.2.1
  have ne2 : ¬ b7 = b6 := fun e => ne1 e.symm
  have a0 : w5.cell? ⟨b6, 0, none⟩ = some (.int .i64 1) := cell_of_row w5 _ 0 _ _ _ hM5.a
  have az0 := frozen_of_row w5 _ 0 _ _ hM5.a
  have c0 : w5.cell? ⟨b7, 0, none⟩ = some (.int .i64 2) := cell_of_row w5 _ 0 _ _ _ hM5.b
  have cz0 := frozen_of_row w5 _ 0 _ _ hM5.b
  have a1 : w5.cell? ⟨b6, 1, none⟩ = some (.string s0) := cell_of_row w5 _ 1 _ _ _ hM5.a
  have az1 := frozen_of_row w5 _ 1 _ _ hM5.a
  have c1 : w5.cell? ⟨b7, 1, none⟩ = some (.string s1) := cell_of_row w5 _ 1 _ _ _ hM5.b
  have cz1 := frozen_of_row w5 _ 1 _ _ hM5.b
  have a2 : w5.cell? ⟨b6, 2, none⟩ = some (.int .i64 vk0) := cell_of_row w5 _ 2 _ _ _ hM5.a
  have az2 := frozen_of_row w5 _ 2 _ _ hM5.a
  have c2 : w5.cell? ⟨b7, 2, none⟩ = some (.int .i64 vk1) := cell_of_row w5 _ 2 _ _ _ hM5.b
  have cz2 := frozen_of_row w5 _ 2 _ _ hM5.b
  have a3 : w5.cell? ⟨b6, 3, none⟩ = some (.bool vb0) := cell_of_row w5 _ 3 _ _ _ hM5.a
  have az3 := frozen_of_row w5 _ 3 _ _ hM5.a
  have c3 : w5.cell? ⟨b7, 3, none⟩ = some (.bool vb1) := cell_of_row w5 _ 3 _ _ _ hM5.b
  have cz3 := frozen_of_row w5 _ 3 _ _ hM5.b
  have a4 : w5.cell? ⟨b6, 4, none⟩ = some (.int .i64 vn0) := cell_of_row w5 _ 4 _ _ _ hM5.a
  have az4 := frozen_of_row w5 _ 4 _ _ hM5.a
  have c4 : w5.cell? ⟨b7, 4, none⟩ = some (.int .i64 vn1) := cell_of_row w5 _ 4 _ _ _ hM5.b
  have cz4 := frozen_of_row w5 _ 4 _ _ hM5.b
  have a5 : w5.cell? ⟨b6, 5, none⟩ = some (.string vs0) := cell_of_row w5 _ 5 _ _ _ hM5.a
  have az5 := frozen_of_row w5 _ 5 _ _ hM5.a
  have c5 : w5.cell? ⟨b7, 5, none⟩ = some (.string vs1) := cell_of_row w5 _ 5 _ _ _ hM5.b
  have cz5 := frozen_of_row w5 _ 5 _ _ hM5.b
  have a6 : w5.cell? ⟨b6, 6, none⟩ = some (.slice none 0 0) := cell_of_row w5 _ 6 _ _ _ hM5.a
  have az6 := frozen_of_row w5 _ 6 _ _ hM5.a
  have c6 : w5.cell? ⟨b7, 6, none⟩ = some (.slice none 0 0) := cell_of_row w5 _ 6 _ _ _ hM5.b
  have cz6 := frozen_of_row w5 _ 6 _ _ hM5.b
  have a7 : w5.cell? ⟨b6, 7, none⟩ = some (.slice none 0 0) := cell_of_row w5 _ 7 _ _ _ hM5.a
  have az7 := frozen_of_row w5 _ 7 _ _ hM5.a
  have c7 : w5.cell? ⟨b7, 7, none⟩ = some (.slice none 0 0) := cell_of_row w5 _ 7 _ _ _ hM5.b
  have cz7 := frozen_of_row w5 _ 7 _ _ hM5.b
  have a8 : w5.cell? ⟨b6, 8, none⟩ = some (.slice kp0 n0 kc0) := cell_of_row w5 _ 8 _ _ _ hM5.a
  have az8 := frozen_of_row w5 _ 8 _ _ hM5.a
  have c8 : w5.cell? ⟨b7, 8, none⟩ = some (.slice kp1 n1 kc1) := cell_of_row w5 _ 8 _ _ _ hM5.b
  have cz8 := frozen_of_row w5 _ 8 _ _ hM5.b
  have a9 : w5.cell? ⟨b6, 9, none⟩ = some (.slice np0 m0 nc0) := cell_of_row w5 _ 9 _ _ _ hM5.a
  have az9 := frozen_of_row w5 _ 9 _ _ hM5.a
  have c9 : w5.cell? ⟨b7, 9, none⟩ = some (.slice np1 m1 nc1) := cell_of_row w5 _ 9 _ _ _ hM5.b
  have cz9 := frozen_of_row w5 _ 9 _ _ hM5.b
  obtain ⟨X, hX⟩ : ∃ X, (put (put w5 b6 #[.int .i64 2, .string s1, .int .i64 vk1, .bool vb1, .int .i64 vn1, .string vs1, .slice none 0 0, .slice none 0 0, .slice kp1 n1 kc1, .slice np1 m1 nc1]) b7 #[.int .i64 1, .string s0, .int .i64 vk0, .bool vb0, .int .i64 vn0, .string vs0, .slice none 0 0, .slice none 0 0, .slice kp0 n0 kc0, .slice np0 m0 nc0]) = X := ⟨_, rfl⟩
  have he : ((((((((((((((((((((w5.setCell ⟨b6, 0, none⟩ (.int .i64 2)).setCell ⟨b6, 1, none⟩ (.string s1)).setCell ⟨b6, 2, none⟩ (.int .i64 vk1)).setCell ⟨b6, 3, none⟩ (.bool vb1)).setCell ⟨b6, 4, none⟩ (.int .i64 vn1)).setCell ⟨b6, 5, none⟩ (.string vs1)).setCell ⟨b6, 6, none⟩ (.slice none 0 0)).setCell ⟨b6, 7, none⟩ (.slice none 0 0)).setCell ⟨b6, 8, none⟩ (.slice kp1 n1 kc1)).setCell ⟨b6, 9, none⟩ (.slice np1 m1 nc1)).setCell ⟨b7, 0, none⟩ (.int .i64 1)).setCell ⟨b7, 1, none⟩ (.string s0)).setCell ⟨b7, 2, none⟩ (.int .i64 vk0)).setCell ⟨b7, 3, none⟩ (.bool vb0)).setCell ⟨b7, 4, none⟩ (.int .i64 vn0)).setCell ⟨b7, 5, none⟩ (.string vs0)).setCell ⟨b7, 6, none⟩ (.slice none 0 0)).setCell ⟨b7, 7, none⟩ (.slice none 0 0)).setCell ⟨b7, 8, none⟩ (.slice kp0 n0 kc0)).setCell ⟨b7, 9, none⟩ (.slice np0 m0 nc0)) = X := e2.trans hX
  have HE := mkHid he
  have HW0 : LsW w X b4 b6 b7 #[.int .i64 2, .string s1, .int .i64 vk1, .bool vb1, .int .i64 vn1, .string vs1, .slice none 0 0, .slice none 0 0, .slice kp1 n1 kc1, .slice np1 m1 nc1] #[.int .i64 1, .string s0, .int .i64 vk0, .bool vb0, .int .i64 vn0, .string vs0, .slice none 0 0, .slice none 0 0, .slice kp0 n0 kc0, .slice np0 m0 nc0] := by
    obtain ⟨n1, n2, n3, n4, n5⟩ := HN.out
    rw [← hX]
    refine ⟨put_below (put_below H5.out.bel b6 n4 _) b7 n5 _, H5.out.old, ?_, ?_, ?_⟩
    · exact (put_other n2 _).trans ((put_other n1 _).trans H5.out.z)
    · exact (put_other n3 _).trans (put_row _ H5.out.a rfl)
    · exact put_row _ ((put_other (fun e => n3 e.symm) _).trans H5.out.b) rfl
  have HW := mkHid HW0.drew
  clear he hX HW0 hw0 hmf hmd hb5 hM5 hM hne hszz hbm HM hp1 e1 e2 hbm6 hbm7
  go_wp2_with fail
  go_region_law (go_simp)
  all_goals
    rw [HE.out]
    go_wp2_with fail
    exact HT.out _ _ _ _ _ _ _ _ _ _ _ _ _ _ _ _ _ _ _ _ _ _ _ _ _ _ _ _ _ _ _ _ _ _ _ _ _ _ _ _ _ _ _ _ _ _ _ _ _ _ _ _ _ _ _ _ _ _ _ _ _ _ _ _ _ _ _ _ _ _ _ _ _ _ _ _ _ _ _ _ _ _ _ _ _ _ _ _ cT HW.out HC.out
end Go.Proofs.YtfemippjaokcmaaGreatDoor
namespace Go.Proofs.YtfemippjaokcmaaGreatDoor
open Go.RowKit Go.Shelf
attribute [local go_sem] Oper.semAt_some fw0 fw1 fw2
set_option maxRecDepth 100000 in
set_option maxHeartbeats 8000000 in
theorem lsd_front {w : World} (sg : ByteArray) (vk2 : Int) (vb2 : Bool) (vn2 : Int) (vs2 : ByteArray) (g o kc2 : Nat) (np2 : Option Addr) (m2 nc2 : Nat) (k0 : Int) (s0 : ByteArray) (vk0 : Int) (vb0 : Bool) (vn0 : Int) (vs0 : ByteArray) (kp0 : Option Addr) (n0 kc0 : Nat) (np0 : Option Addr) (m0 nc0 : Nat) (k1 : Int) (s1 : ByteArray) (vk1 : Int) (vb1 : Bool) (vn1 : Int) (vs1 : ByteArray) (kp1 : Option Addr) (n1 kc1 : Nat) (np1 : Option Addr) (m1 nc1 : Nat) (hgl : g < w.heap.size) (_hkc : 2 ≤ kc2 ∧ kc2 ≤ maxLen)
    (A0 : At10 w g o ⟨k0, s0, vk0, vb0, vn0, vs0, kp0, n0, kc0, np0, m0, nc0⟩) (A1 : At10 w g (o + 10) ⟨k1, s1, vk1, vb1, vn1, vs1, kp1, n1, kc1, np1, m1, nc1⟩) (Po : Ending → World → Prop)
    (htl : ∀ (W2 : World) (b4 b6 b7 : Nat) (y0 y1 y9 y10 y11 y12 y13 y14 y15 y16 y17 y18 y19 y20 y21 y22 y23 y24 y25 y26 y27 y28 y29 y30 y31 y32 y33 y34 y35 y36 y37 y38 y39 y40 y41 y42 y43 y44 y45 y46 y47 y48 y49 y50 y51 y52 y53 y54 y55 y56 y57 y58 y59 y60 y61 y62 y63 y64 y65 y66 y67 y68 y69 y70 y71 y72 y73 y74 y75 y76 y77 y78 y79 y80 y81 y82 y83 y84 y85 y86 y87 y88 y89 y90 y91 y92 y93 : Value) (cc : Code), LsW w W2 b4 b6 b7 #[.int .i64 k0, .string s0, .int .i64 vk0, .bool vb0, .int .i64 vn0, .string vs0, .slice none 0 0, .slice none 0 0, .slice kp0 n0 kc0, .slice np0 m0 nc0] #[.int .i64 k1, .string s1, .int .i64 vk1, .bool vb1, .int .i64 vn1, .string vs1, .slice none 0 0, .slice none 0 0, .slice kp1 n1 kc1, .slice np1 m1 nc1] → (b4 ≠ b6 ∧ b4 ≠ b7 ∧ b6 ≠ b7 ∧ w.heap.size ≤ b6 ∧ w.heap.size ≤ b7) → cutSd Tryz.f33.body = some cc → Code.wp Tryz.prog cc (bodyPost Tryz.prog Tryz.f33 Po) ⟨List.toArray (y0 :: y1 :: .string ⟨#[]⟩ :: .string ⟨#[]⟩ :: .pointer (some ⟨b4, 0, none⟩) :: .bool false :: .pointer (some ⟨b6, 0, none⟩) :: .pointer (some ⟨b7, 0, none⟩) :: .string sg :: y9 :: y10 :: y11 :: y12 :: y13 :: y14 :: y15 :: y16 :: y17 :: y18 :: y19 :: y20 :: y21 :: y22 :: y23 :: y24 :: y25 :: y26 :: y27 :: y28 :: y29 :: y30 :: y31 :: y32 :: y33 :: y34 :: y35 :: y36 :: y37 :: y38 :: y39 :: y40 :: y41 :: y42 :: y43 :: y44 :: y45 :: y46 :: y47 :: y48 :: y49 :: y50 :: y51 :: y52 :: y53 :: y54 :: y55 :: y56 :: y57 :: y58 :: y59 :: y60 :: y61 :: y62 :: y63 :: y64 :: y65 :: y66 :: y67 :: y68 :: y69 :: y70 :: y71 :: y72 :: y73 :: y74 :: y75 :: y76 :: y77 :: y78 :: y79 :: y80 :: y81 :: y82 :: y83 :: y84 :: y85 :: y86 :: y87 :: y88 :: y89 :: y90 :: y91 :: y92 :: y93 :: []), []⟩ W2) :
    Calls Tryz.prog 33 #[.agg #[.int .i64 6, .string sg, .int .i64 vk2, .bool vb2, .int .i64 vn2, .string vs2, .slice none 0 0, .slice none 0 0, .slice (some ⟨g, o, none⟩) 2 kc2, .slice np2 m2 nc2]] w Po := by
  obtain ⟨w2, hw2⟩ : ∃ u, (w.alloc (.cells #[.int .i64 6, .string sg, .int .i64 vk2, .bool vb2, .int .i64 vn2, .string vs2, .slice none 0 0, .slice none 0 0, .slice (some ⟨g, o, none⟩) 2 kc2, .slice np2 m2 nc2] 28)).alloc (.cells #[.int .i64 0, .bool false, .int .i64 0, .string ⟨#[]⟩, .slice none 0 0, .slice none 0 0] 25) = u := ⟨_, rfl⟩
  obtain ⟨r0, r1, bw⟩ := alloc2 hw2
  have HW := mkHid hw2
  have hz2 : w2.heap.size = w.heap.size + 2 := by rw [← hw2]; simp
  have cx0 := cell_of_row w2 _ 0 _ _ _ r0
  have cx1 := cell_of_row w2 _ 1 _ _ _ r0
  have cx2 := cell_of_row w2 _ 2 _ _ _ r0
  have cx3 := cell_of_row w2 _ 3 _ _ _ r0
  have cx4 := cell_of_row w2 _ 4 _ _ _ r0
  have cx5 := cell_of_row w2 _ 5 _ _ _ r0
  have cx6 := cell_of_row w2 _ 6 _ _ _ r0
  have cx7 := cell_of_row w2 _ 7 _ _ _ r0
  have cx8 := cell_of_row w2 _ 8 _ _ _ r0
  have cx9 := cell_of_row w2 _ 9 _ _ _ r0
  have a0_0 : w2.cell? ⟨g, o, none⟩ = some (.int .i64 k0) := (bw.cell (p := ⟨g, o, none⟩) hgl).trans (A0 0 (by decide))
  have a0_1 : w2.cell? ⟨g, o + 1, none⟩ = some (.string s0) := (bw.cell (p := ⟨g, o + 1, none⟩) hgl).trans (A0 1 (by decide))
  have a0_2 : w2.cell? ⟨g, o + 2, none⟩ = some (.int .i64 vk0) := (bw.cell (p := ⟨g, o + 2, none⟩) hgl).trans (A0 2 (by decide))
  have a0_3 : w2.cell? ⟨g, o + 3, none⟩ = some (.bool vb0) := (bw.cell (p := ⟨g, o + 3, none⟩) hgl).trans (A0 3 (by decide))
  have a0_4 : w2.cell? ⟨g, o + 4, none⟩ = some (.int .i64 vn0) := (bw.cell (p := ⟨g, o + 4, none⟩) hgl).trans (A0 4 (by decide))
  have a0_5 : w2.cell? ⟨g, o + 5, none⟩ = some (.string vs0) := (bw.cell (p := ⟨g, o + 5, none⟩) hgl).trans (A0 5 (by decide))
  have a0_6 : w2.cell? ⟨g, o + 6, none⟩ = some (.slice none 0 0) := (bw.cell (p := ⟨g, o + 6, none⟩) hgl).trans (A0 6 (by decide))
  have a0_7 : w2.cell? ⟨g, o + 7, none⟩ = some (.slice none 0 0) := (bw.cell (p := ⟨g, o + 7, none⟩) hgl).trans (A0 7 (by decide))
  have a0_8 : w2.cell? ⟨g, o + 8, none⟩ = some (.slice kp0 n0 kc0) := (bw.cell (p := ⟨g, o + 8, none⟩) hgl).trans (A0 8 (by decide))
  have a0_9 : w2.cell? ⟨g, o + 9, none⟩ = some (.slice np0 m0 nc0) := (bw.cell (p := ⟨g, o + 9, none⟩) hgl).trans (A0 9 (by decide))
  have a1_0 : w2.cell? ⟨g, o + 10, none⟩ = some (.int .i64 k1) := (bw.cell (p := ⟨g, o + 10, none⟩) hgl).trans (A1 0 (by decide))
  have a1_1 : w2.cell? ⟨g, o + 10 + 1, none⟩ = some (.string s1) := (bw.cell (p := ⟨g, o + 10 + 1, none⟩) hgl).trans (A1 1 (by decide))
  have a1_2 : w2.cell? ⟨g, o + 10 + 2, none⟩ = some (.int .i64 vk1) := (bw.cell (p := ⟨g, o + 10 + 2, none⟩) hgl).trans (A1 2 (by decide))
  have a1_3 : w2.cell? ⟨g, o + 10 + 3, none⟩ = some (.bool vb1) := (bw.cell (p := ⟨g, o + 10 + 3, none⟩) hgl).trans (A1 3 (by decide))
  have a1_4 : w2.cell? ⟨g, o + 10 + 4, none⟩ = some (.int .i64 vn1) := (bw.cell (p := ⟨g, o + 10 + 4, none⟩) hgl).trans (A1 4 (by decide))
  have a1_5 : w2.cell? ⟨g, o + 10 + 5, none⟩ = some (.string vs1) := (bw.cell (p := ⟨g, o + 10 + 5, none⟩) hgl).trans (A1 5 (by decide))
  have a1_6 : w2.cell? ⟨g, o + 10 + 6, none⟩ = some (.slice none 0 0) := (bw.cell (p := ⟨g, o + 10 + 6, none⟩) hgl).trans (A1 6 (by decide))
  have a1_7 : w2.cell? ⟨g, o + 10 + 7, none⟩ = some (.slice none 0 0) := (bw.cell (p := ⟨g, o + 10 + 7, none⟩) hgl).trans (A1 7 (by decide))
  have a1_8 : w2.cell? ⟨g, o + 10 + 8, none⟩ = some (.slice kp1 n1 kc1) := (bw.cell (p := ⟨g, o + 10 + 8, none⟩) hgl).trans (A1 8 (by decide))
  have a1_9 : w2.cell? ⟨g, o + 10 + 9, none⟩ = some (.slice np1 m1 nc1) := (bw.cell (p := ⟨g, o + 10 + 9, none⟩) hgl).trans (A1 9 (by decide))
  have HB : Hid (Below w.heap.size w w2 ∧ w2.heap[w.heap.size + 1]? = some (.cells #[.int .i64 0, .bool false, .int .i64 0, .string ⟨#[]⟩, .slice none 0 0, .slice none 0 0] 25 (0, 0)) ∧ w2.heap.size = w.heap.size + 2) := ⟨bw, r1, hz2⟩
  have HT := mkHid htl
  obtain ⟨cT, hcT⟩ : ∃ c, cutSd Tryz.f33.body = some c := ⟨_, rfl⟩
  have HC := mkHid hcT
  have hl0 : w.heap.size < w2.heap.size := by omega
  have hl1 : w.heap.size + 1 < w2.heap.size := by omega
  have hgl2 : g < w2.heap.size := by omega
  clear hw2 r0 r1 bw htl A0 A1 hz2 hcT hgl
  go_enter Tryz.func33, Tryz.ntmps33
  have hE := seq3_of (b := Tryz.f33.body) rfl rfl rfl rfl HC.out
  refine (congrArg (fun c => Code.wp Tryz.prog c _ _ _) hE).mpr ?_
  clear hE
  go_wp2_with (first | rw [HW.out] | fail)
  go_region
  all_goals go_wp2_with fail
  · obtain ⟨q0, q1, qb⟩ := alloc2 (rfl : (w2.alloc (.cells #[.int .i64 k0, .string s0, .int .i64 vk0, .bool vb0, .int .i64 vn0, .string vs0, .slice none 0 0, .slice none 0 0, .slice kp0 n0 kc0, .slice np0 m0 nc0] 28)).alloc (.cells #[.int .i64 k1, .string s1, .int .i64 vk1, .bool vb1, .int .i64 vn1, .string vs1, .slice none 0 0, .slice none 0 0, .slice kp1 n1 kc1, .slice np1 m1 nc1] 28) = _)
    have hbb := (HB.out.1.trans (qb.mono HB.out.1.size)).drew
    exact HT.out _ (w.heap.size + 1) w2.heap.size (w2.heap.size + 1) _ _ _ _ _ _ _ _ _ _ _ _ _ _ _ _ _ _ _ _ _ _ _ _ _ _ _ _ _ _ _ _ _ _ _ _ _ _ _ _ _ _ _ _ _ _ _ _ _ _ _ _ _ _ _ _ _ _ _ _ _ _ _ _ _ _ _ _ _ _ _ _ _ _ _ _ _ _ _ _ _ _ _ _ _ _ _ cT ⟨hbb, by omega, Below.row qb.drew HB.out.2.1, q0, q1⟩ (by omega) HC.out
  · obtain ⟨q0, q1, qb⟩ := alloc2 (rfl : (w2.alloc (.cells #[.int .i64 k1, .string s1, .int .i64 vk1, .bool vb1, .int .i64 vn1, .string vs1, .slice none 0 0, .slice none 0 0, .slice kp1 n1 kc1, .slice np1 m1 nc1] 28)).alloc (.cells #[.int .i64 k0, .string s0, .int .i64 vk0, .bool vb0, .int .i64 vn0, .string vs0, .slice none 0 0, .slice none 0 0, .slice kp0 n0 kc0, .slice np0 m0 nc0] 28) = _)
    have hbb := (HB.out.1.trans (qb.mono HB.out.1.size)).drew
    exact HT.out _ (w.heap.size + 1) (w2.heap.size + 1) w2.heap.size _ _ _ _ _ _ _ _ _ _ _ _ _ _ _ _ _ _ _ _ _ _ _ _ _ _ _ _ _ _ _ _ _ _ _ _ _ _ _ _ _ _ _ _ _ _ _ _ _ _ _ _ _ _ _ _ _ _ _ _ _ _ _ _ _ _ _ _ _ _ _ _ _ _ _ _ _ _ _ _ _ _ _ _ _ _ _ cT ⟨hbb, by omega, Below.row qb.drew HB.out.2.1, q1, q0⟩ (by omega) HC.out
set_option maxRecDepth 100000 in
set_option maxHeartbeats 4000000 in
theorem lsd_none {k : Int} {s : ByteArray} {vk : Int} {vb : Bool} {vn : Int} {vs : ByteArray} {kp : Option Addr} {n kc : Nat} {np : Option Addr} {m nc : Nat} {w : World} (h : ¬ (k = 6 ∧ n = 2)) : Calls Tryz.prog 33 #[.agg #[.int .i64 k, .string s, .int .i64 vk, .bool vb, .int .i64 vn, .string vs, .slice none 0 0, .slice none 0 0, .slice kp n kc, .slice np m nc]] w (GivesS4 w ⟨#[]⟩ ⟨#[]⟩ 0 false 0 ⟨#[]⟩ false) := by
  have f6 : (k == 6) = decide (k = 6) := by apply Bool.eq_iff_iff.2; simp
  have fn : ((n : Int) == 2) = decide (n = 2) := by apply Bool.eq_iff_iff.2; simp; omega
  obtain ⟨b6, hb6⟩ : ∃ b, decide (k = 6) = b := ⟨_, rfl⟩
  obtain ⟨bn, hbn⟩ : ∃ b, decide (n = 2) = b := ⟨_, rfl⟩
  have hno : Hid ((b6 && bn) = false) := by
    show (b6 && bn) = false
    rw [← hb6, ← hbn]
    apply Bool.eq_false_iff.2
    intro h1
    simp only [Bool.and_eq_true, decide_eq_true_eq] at h1
    exact h h1
  rw [hb6] at f6; rw [hbn] at fn
  have f6' : (k != 6) = !b6 := by rw [← f6]; rfl
  have fn' : ((n : Int) != 2) = !bn := by rw [← fn]; rfl
  obtain ⟨w2, hw2⟩ : ∃ u, (w.alloc (.cells #[.int .i64 k, .string s, .int .i64 vk, .bool vb, .int .i64 vn, .string vs, .slice none 0 0, .slice none 0 0, .slice kp n kc, .slice np m nc] 28)).alloc (.cells #[.int .i64 0, .bool false, .int .i64 0, .string ⟨#[]⟩, .slice none 0 0, .slice none 0 0] 25) = u := ⟨_, rfl⟩
  obtain ⟨r0, r1, bw⟩ := alloc2 hw2
  have HW := mkHid hw2
  have cx0 := cell_of_row w2 _ 0 _ _ _ r0
  have cx8 := cell_of_row w2 _ 8 _ _ _ r0
  obtain ⟨bz, hbz⟩ : ∃ z, w.heap.size + 1 = z := ⟨_, rfl⟩
  have HB : Hid (Below w.heap.size w w2 ∧ w.heap.size ≤ bz) := ⟨bw, by omega⟩
  rw [hbz] at r1
  have hbz' : w.heap.size + 1 = bz := hbz
  clear hw2 r0 bw hb6 hbn h hbz
  go_enter Tryz.func33, Tryz.ntmps33
  rcases b6 with _ | _ <;> rcases bn with _ | _
  all_goals first
    | (exact absurd hno.out (by decide))
    | skip
  all_goals
    go_wp2_with (first | rw [HW.out] | (rw [hbz']) | (refine wpList_put rfl 25 (.tmp 4) (.tmp 21) rfl rfl rfl rfl r1 rfl info25s (by simp [Value.oneCell']) ?_) | fail)
    have hro : (put w2 bz #[.int .i64 0, .bool false, .int .i64 0, .string ⟨#[]⟩, .slice none 0 0, .slice none 0 0]).heap[bz]? = some (.cells #[.int .i64 0, .bool false, .int .i64 0, .string ⟨#[]⟩, .slice none 0 0, .slice none 0 0] 25 (0, 0)) := put_row _ r1 rfl
    have hbf : Below w.heap.size w (put w2 bz #[.int .i64 0, .bool false, .int .i64 0, .string ⟨#[]⟩, .slice none 0 0, .slice none 0 0]) := put_below HB.out.1 bz HB.out.2 _
    obtain ⟨wf, hwf⟩ : ∃ wf, put w2 bz #[.int .i64 0, .bool false, .int .i64 0, .string ⟨#[]⟩, .slice none 0 0, .slice none 0 0] = wf := ⟨_, rfl⟩
    rw [hwf] at hro hbf ⊢
    clear hwf
    obtain ⟨o0, o1, o2, o3, o4, o5⟩ := res33 hro
    exact bodyPost_ret (v := .tuple #[.string ⟨#[]⟩, .string ⟨#[]⟩, .agg #[.int .i64 0, .bool false, .int .i64 0, .string ⟨#[]⟩, .slice none 0 0, .slice none 0 0], .bool false]) (by simp [results, Tryz.results33, go_sem, o0, o1, o2, o3, o4, o5]) rfl ⟨rfl, hbf⟩
end Go.Proofs.YtfemippjaokcmaaGreatDoor
namespace Go.Proofs.YtfemippjaokcmaaGreatDoor
open Go.RowKit Go.Shelf
attribute [local go_sem] Oper.semAt_some fw0 fw1 fw2
theorem stay_or {a b : Nat} (h : ¬ (a = 1 ∧ b = 2)) : ((a : Int) == 1) = false ∨ ((b : Int) == 2) = false := by
  by_cases hq : a = 1
  · exact Or.inr (by have : ¬ b = 2 := fun hh => h ⟨hq, hh⟩
                     simp; omega)
  · exact Or.inl (by simp; omega)
instance (s : ByteArray) : Decidable (noDot s) := by unfold noDot; infer_instance
structure S7 where
  f : ByteArray
  sg : ByteArray
  vk : Int
  vb : Bool
  vn : Int
  vs : ByteArray
  ok : Bool
def noS : S7 := ⟨⟨#[]⟩, ⟨#[]⟩, 0, false, 0, ⟨#[]⟩, false⟩
def GivesQ (w : World) (r : S7) (e : Ending) (w' : World) : Prop := GivesS4 w r.f r.sg r.vk r.vb r.vn r.vs r.ok e w'
def lsC (sg : ByteArray) (f l : En) : S7 := if noDot f.s then ⟨f.s, sg, l.vk, l.vb, l.vn, l.vs, ((f.k : Int) == 2) && (((l.k : Int) == 1) && five sg.data.toList)⟩ else noS
def lsF (e f l : En) : S7 := if e.k = 6 ∧ e.n = 2 then (if f.k = 1 ∧ l.k = 2 then lsC (turnM e.s.data.toList) l f else lsC e.s f l) else noS
def lsE (t : Et) : S7 := lsF (t []) (t.sub 0 []) (t.sub 1 [])
set_option maxHeartbeats 2000000 in
theorem lsd_side {w W2 : World} {b4 b6 b7 : Nat} (sg : ByteArray) (f l : En) (k0 : Int) (s0 : ByteArray) (vk0 : Int) (vb0 : Bool) (vn0 : Int) (vs0 : ByteArray) (kp0 : Option Addr) (n0 kc0 : Nat) (np0 : Option Addr) (m0 nc0 : Nat) (k1 : Int) (s1 : ByteArray) (vk1 : Int) (vb1 : Bool) (vn1 : Int) (vs1 : ByteArray) (kp1 : Option Addr) (n1 kc1 : Nat) (np1 : Option Addr) (m1 nc1 : Nat) (e1 : k0 = (f.k : Int)) (e2 : s0 = f.s) (e3 : k1 = (l.k : Int)) (e4 : vk1 = (l.vk : Int)) (e5 : vb1 = l.vb) (e6 : vn1 = l.vn) (e7 : vs1 = l.vs) (hs : f.s.size ≤ 30000000) (hne : b4 ≠ b6 ∧ b4 ≠ b7)
    (hM : LsW w W2 b4 b6 b7 #[.int .i64 k0, .string s0, .int .i64 vk0, .bool vb0, .int .i64 vn0, .string vs0, .slice none 0 0, .slice none 0 0, .slice kp0 n0 kc0, .slice np0 m0 nc0] #[.int .i64 k1, .string s1, .int .i64 vk1, .bool vb1, .int .i64 vn1, .string vs1, .slice none 0 0, .slice none 0 0, .slice kp1 n1 kc1, .slice np1 m1 nc1]) (y0 y1 y9 y10 y11 y12 y13 y14 y15 y16 y17 y18 y19 y20 y21 y22 y23 y24 y25 y26 y27 y28 y29 y30 y31 y32 y33 y34 y35 y36 y37 y38 y39 y40 y41 y42 y43 y44 y45 y46 y47 y48 y49 y50 y51 y52 y53 y54 y55 y56 y57 y58 y59 y60 y61 y62 y63 y64 y65 y66 y67 y68 y69 y70 y71 y72 y73 y74 y75 y76 y77 y78 y79 y80 y81 y82 y83 y84 y85 y86 y87 y88 y89 y90 y91 y92 y93 : Value) (cc : Code) (hcc : cutSe (cutSd Tryz.f33.body) = some cc) :
    Code.wp Tryz.prog cc (bodyPost Tryz.prog Tryz.f33 (GivesQ w (lsC sg f l))) ⟨List.toArray (y0 :: y1 :: .string ⟨#[]⟩ :: .string ⟨#[]⟩ :: .pointer (some ⟨b4, 0, none⟩) :: .bool false :: .pointer (some ⟨b6, 0, none⟩) :: .pointer (some ⟨b7, 0, none⟩) :: .string sg :: y9 :: y10 :: y11 :: y12 :: y13 :: y14 :: y15 :: y16 :: y17 :: y18 :: y19 :: y20 :: y21 :: y22 :: y23 :: y24 :: y25 :: y26 :: y27 :: y28 :: y29 :: y30 :: y31 :: y32 :: y33 :: y34 :: y35 :: y36 :: y37 :: y38 :: y39 :: y40 :: y41 :: y42 :: y43 :: y44 :: y45 :: y46 :: y47 :: y48 :: y49 :: y50 :: y51 :: y52 :: y53 :: y54 :: y55 :: y56 :: y57 :: y58 :: y59 :: y60 :: y61 :: y62 :: y63 :: y64 :: y65 :: y66 :: y67 :: y68 :: y69 :: y70 :: y71 :: y72 :: y73 :: y74 :: y75 :: y76 :: y77 :: y78 :: y79 :: y80 :: y81 :: y82 :: y83 :: y84 :: y85 :: y86 :: y87 :: y88 :: y89 :: y90 :: y91 :: y92 :: y93 :: []), []⟩ W2 := by
  subst e1 e2 e3 e4 e5 e6 e7
  refine lsd_end sg _ _ vk0 vb0 vn0 vs0 kp0 n0 kc0 np0 m0 nc0 _ s1 _ _ _ _ kp1 n1 kc1 np1 m1 nc1 hM hne hs y0 y1 y9 y10 y11 y12 y13 y14 y15 y16 y17 y18 y19 y20 y21 y22 y23 y24 y25 y26 y27 y28 y29 y30 y31 y32 y33 y34 y35 y36 y37 y38 y39 y40 y41 y42 y43 y44 y45 y46 y47 y48 y49 y50 y51 y52 y53 y54 y55 y56 y57 y58 y59 y60 y61 y62 y63 y64 y65 y66 y67 y68 y69 y70 y71 y72 y73 y74 y75 y76 y77 y78 y79 y80 y81 y82 y83 y84 y85 y86 y87 y88 y89 y90 y91 y92 y93 cc hcc _ ?_ ?_
  · intro hd W' hb
    unfold lsC
    rw [if_neg hd]
    exact ⟨rfl, hb⟩
  · intro hd W' hb
    unfold lsC
    rw [if_pos hd]
    exact ⟨rfl, hb⟩
set_option maxHeartbeats 2000000 in
/- Whatever a part is. -/
theorem lsd_any {w : World} {S : Nat → Prop} {d : Nat} {t : Et} {R : XR} (hx : LiesE w S d t (rowX R)) (hs : (t []).s.size ≤ 30000000) (hl : ∀ i, i < 2 → (t []).n = 2 → (t.sub i []).s.size ≤ 30000000) : Calls Tryz.prog 33 #[rowX R] w (GivesQ w (lsE t)) := by
  obtain ⟨h1, h2, -, -, -, -, h7⟩ := hx.tops
  by_cases h : (t []).k = 6 ∧ (t []).n = 2
  · obtain ⟨g, o, R0, R1, d', p1, p2, p3, p4, p5, p6, p7⟩ := hx.pair h.2
    obtain ⟨a1, a2, a3, a4, a5, a6, -⟩ := p6.tops
    obtain ⟨c1, c2, c3, c4, c5, c6, -⟩ := p7.tops
    have l0 := hl 0 (by omega) h.2
    have l1 := hl 1 (by omega) h.2
    have e : lsE t = (if (t.sub 0 []).k = 1 ∧ (t.sub 1 []).k = 2 then lsC (turnM (t []).s.data.toList) (t.sub 1 []) (t.sub 0 []) else lsC (t []).s (t.sub 0 []) (t.sub 1 [])) := by
      unfold lsE lsF
      rw [if_pos h]
    rw [e]
    obtain ⟨k2, s2, vk2, vb2, vn2, vs2, kp2, n2, kc2, np2, m2, nc2⟩ := R
    obtain ⟨k0, s0, vk0, vb0, vn0, vs0, kp0, n0, kc0, np0, m0, nc0⟩ := R0
    obtain ⟨k1, s1, vk1, vb1, vn1, vs1, kp1, n1, kc1, np1, m1, nc1⟩ := R1
    simp only at h1 h2 h7 p1 p3 a1 a2 a3 a4 a5 a6 c1 c2 c3 c4 c5 c6
    obtain rfl : k2 = 6 := by rw [h1, h.1]; rfl
    obtain rfl : n2 = 2 := by rw [h7, h.2]
    subst p1
    unfold rowX
    refine lsd_front s2 vk2 vb2 vn2 vs2 g o kc2 np2 m2 nc2 k0 s0 vk0 vb0 vn0 vs0 kp0 n0 kc0 np0 m0 nc0 k1 s1 vk1 vb1 vn1 vs1 kp1 n1 kc1 np1 m1 nc1 p2 p3 p4 p5 _ ?_
    intro W2 b4 b6 b7 y0 y1 y9 y10 y11 y12 y13 y14 y15 y16 y17 y18 y19 y20 y21 y22 y23 y24 y25 y26 y27 y28 y29 y30 y31 y32 y33 y34 y35 y36 y37 y38 y39 y40 y41 y42 y43 y44 y45 y46 y47 y48 y49 y50 y51 y52 y53 y54 y55 y56 y57 y58 y59 y60 y61 y62 y63 y64 y65 y66 y67 y68 y69 y70 y71 y72 y73 y74 y75 y76 y77 y78 y79 y80 y81 y82 y83 y84 y85 y86 y87 y88 y89 y90 y91 y92 y93 cc hM hne hcc
    by_cases hf : (t.sub 0 []).k = 1 ∧ (t.sub 1 []).k = 2
    · rw [if_pos hf]
      refine lsd_swap s2 k0 s0 vk0 vb0 vn0 vs0 kp0 n0 kc0 np0 m0 nc0 k1 s1 vk1 vb1 vn1 vs1 kp1 n1 kc1 np1 m1 nc1 (by rw [a1, hf.1]; rfl) (by rw [c1, hf.2]; rfl) (by rw [h2]; exact Nat.le_trans hs (by decide)) hM hne y0 y1 y9 y10 y11 y12 y13 y14 y15 y16 y17 y18 y19 y20 y21 y22 y23 y24 y25 y26 y27 y28 y29 y30 y31 y32 y33 y34 y35 y36 y37 y38 y39 y40 y41 y42 y43 y44 y45 y46 y47 y48 y49 y50 y51 y52 y53 y54 y55 y56 y57 y58 y59 y60 y61 y62 y63 y64 y65 y66 y67 y68 y69 y70 y71 y72 y73 y74 y75 y76 y77 y78 y79 y80 y81 y82 y83 y84 y85 y86 y87 y88 y89 y90 y91 y92 y93 cc hcc _ ?_
      intro W3 y0 y1 y9 y10 y11 y12 y13 y14 y15 y16 y17 y18 y19 y20 y21 y22 y23 y24 y25 y26 y27 y28 y29 y30 y31 y32 y33 y34 y35 y36 y37 y38 y39 y40 y41 y42 y43 y44 y45 y46 y47 y48 y49 y50 y51 y52 y53 y54 y55 y56 y57 y58 y59 y60 y61 y62 y63 y64 y65 y66 y67 y68 y69 y70 y71 y72 y73 y74 y75 y76 y77 y78 y79 y80 y81 y82 y83 y84 y85 y86 y87 y88 y89 y90 y91 y92 y93 cc hM3 hcc3
      rw [← h2]
      exact lsd_side (turnM s2.data.toList) (t.sub 1 []) (t.sub 0 []) 2 s1 vk1 vb1 vn1 vs1 kp1 n1 kc1 np1 m1 nc1 1 s0 vk0 vb0 vn0 vs0 kp0 n0 kc0 np0 m0 nc0 (by rw [hf.2]; rfl) c2 (by rw [hf.1]; rfl) a3 a4 a5 a6 l1 ⟨hne.1, hne.2.1⟩ hM3 y0 y1 y9 y10 y11 y12 y13 y14 y15 y16 y17 y18 y19 y20 y21 y22 y23 y24 y25 y26 y27 y28 y29 y30 y31 y32 y33 y34 y35 y36 y37 y38 y39 y40 y41 y42 y43 y44 y45 y46 y47 y48 y49 y50 y51 y52 y53 y54 y55 y56 y57 y58 y59 y60 y61 y62 y63 y64 y65 y66 y67 y68 y69 y70 y71 y72 y73 y74 y75 y76 y77 y78 y79 y80 y81 y82 y83 y84 y85 y86 y87 y88 y89 y90 y91 y92 y93 cc hcc3
    · rw [if_neg hf]
      refine lsd_stay s2 k0 s0 vk0 vb0 vn0 vs0 kp0 n0 kc0 np0 m0 nc0 k1 s1 vk1 vb1 vn1 vs1 kp1 n1 kc1 np1 m1 nc1 (by rw [a1, c1]; exact stay_or hf) hM hne y0 y1 y9 y10 y11 y12 y13 y14 y15 y16 y17 y18 y19 y20 y21 y22 y23 y24 y25 y26 y27 y28 y29 y30 y31 y32 y33 y34 y35 y36 y37 y38 y39 y40 y41 y42 y43 y44 y45 y46 y47 y48 y49 y50 y51 y52 y53 y54 y55 y56 y57 y58 y59 y60 y61 y62 y63 y64 y65 y66 y67 y68 y69 y70 y71 y72 y73 y74 y75 y76 y77 y78 y79 y80 y81 y82 y83 y84 y85 y86 y87 y88 y89 y90 y91 y92 y93 cc hcc _ ?_
      intro W3 y0 y1 y9 y10 y11 y12 y13 y14 y15 y16 y17 y18 y19 y20 y21 y22 y23 y24 y25 y26 y27 y28 y29 y30 y31 y32 y33 y34 y35 y36 y37 y38 y39 y40 y41 y42 y43 y44 y45 y46 y47 y48 y49 y50 y51 y52 y53 y54 y55 y56 y57 y58 y59 y60 y61 y62 y63 y64 y65 y66 y67 y68 y69 y70 y71 y72 y73 y74 y75 y76 y77 y78 y79 y80 y81 y82 y83 y84 y85 y86 y87 y88 y89 y90 y91 y92 y93 cc hM3 hcc3
      rw [← h2]
      exact lsd_side s2 (t.sub 0 []) (t.sub 1 []) k0 s0 vk0 vb0 vn0 vs0 kp0 n0 kc0 np0 m0 nc0 k1 s1 vk1 vb1 vn1 vs1 kp1 n1 kc1 np1 m1 nc1 a1 a2 c1 c3 c4 c5 c6 l0 ⟨hne.1, hne.2.1⟩ hM3 y0 y1 y9 y10 y11 y12 y13 y14 y15 y16 y17 y18 y19 y20 y21 y22 y23 y24 y25 y26 y27 y28 y29 y30 y31 y32 y33 y34 y35 y36 y37 y38 y39 y40 y41 y42 y43 y44 y45 y46 y47 y48 y49 y50 y51 y52 y53 y54 y55 y56 y57 y58 y59 y60 y61 y62 y63 y64 y65 y66 y67 y68 y69 y70 y71 y72 y73 y74 y75 y76 y77 y78 y79 y80 y81 y82 y83 y84 y85 y86 y87 y88 y89 y90 y91 y92 y93 cc hcc3
  · have e : lsE t = noS := by
      unfold lsE lsF
      rw [if_neg h]
    rw [e]
    obtain ⟨k2, s2, vk2, vb2, vn2, vs2, kp2, n2, kc2, np2, m2, nc2⟩ := R
    have e1 : k2 = ((t []).k : Int) := h1
    have e2 : n2 = (t []).n := h7
    exact lsd_none (fun hh => h ⟨by have := hh.1; omega, by have := hh.2; omega⟩)
end Go.Proofs.YtfemippjaokcmaaGreatDoor
namespace Go.Proofs.YtfemippjaokcmaaGreatDoor
open Go.RowKit Go.Shelf
theorem five_span (sg : List UInt8) (K : ByteArray) : (spanF sg K).2.2 = five sg := by
  unfold spanF five
  by_cases h1 : sg = [61]
  · subst h1; rfl
  by_cases h2 : sg = [60]
  · subst h2; rfl
  by_cases h3 : sg = [60, 61]
  · subst h3; rfl
  by_cases h4 : sg = [62]
  · subst h4; rfl
  by_cases h5 : sg = [62, 61]
  · subst h5; rfl
  · rw [if_neg h1, if_neg h2, if_neg h3, if_neg h4, if_neg h5]
    simp [h1, h2, h3, h4, h5]
theorem turn_span (s : ByteArray) (K : ByteArray) : spanF (turnB s).data.toList K = spanF (turnM s.data.toList).data.toList K := by
  unfold turnB turnM
  obtain ⟨l, hl⟩ : ∃ l, s.data.toList = l := ⟨_, rfl⟩
  by_cases h2 : l = [60]
  · rw [hl, h2]; rfl
  by_cases h3 : l = [60, 61]
  · rw [hl, h3]; rfl
  by_cases h4 : l = [62]
  · rw [hl, h4]; rfl
  by_cases h5 : l = [62, 61]
  · rw [hl, h5]; rfl
  by_cases h1 : l = [61]
  · rw [hl, h1]
    rw [if_neg (by decide), if_neg (by decide), if_neg (by decide), if_neg (by decide), if_pos rfl, hl, h1]
  · rw [hl, if_neg h2, if_neg h3, if_neg h4, if_neg h5, if_neg h1, if_neg h5, if_neg h3, if_neg h4, if_neg h2, hl]
    unfold spanF
    rw [if_neg h1, if_neg h2, if_neg h3, if_neg h4, if_neg h5]
    rfl
def keyS (r : S7) : ByteArray := ⟨(V.keyT (V.leafT r.vk r.vb r.vn r.vs)).toArray⟩
def planS (r : S7) : P3 := (r.f, (spanF r.sg.data.toList (keyS r)).1, (spanF r.sg.data.toList (keyS r)).2.1)
theorem saidC_law (sg : ByteArray) (f l : En) : ((lsC sg f l).ok = true → saidC sg f l = planS (lsC sg f l)) ∧ ((lsC sg f l).ok = false → saidC sg f l = noP ∨ ¬ noDot (saidC sg f l).1) := by
  unfold lsC saidC
  by_cases hd : noDot f.s
  · rw [if_pos hd]
    by_cases hk : f.k = 2 ∧ l.k = 1
    · rw [if_pos hk, five_span]
      obtain ⟨b, hb⟩ : ∃ b, five sg.data.toList = b := ⟨_, rfl⟩
      simp only [hb, hk.1, hk.2]
      cases b with
      | true => exact ⟨fun _ => by rw [if_pos rfl]; rfl, fun h => absurd h (by decide)⟩
      | false => exact ⟨fun h => absurd h (by decide), fun _ => Or.inl (by rw [if_neg (by decide)])⟩
    · rw [if_neg hk]
      refine ⟨fun h => ?_, fun _ => Or.inl rfl⟩
      simp only [Bool.and_eq_true, beq_iff_eq] at h
      exact absurd ⟨by omega, by omega⟩ hk
  · rw [if_neg hd]
    refine ⟨fun h => absurd h (by decide), fun _ => ?_⟩
    by_cases hk : f.k = 2 ∧ l.k = 1
    · rw [if_pos hk]
      split
      · exact Or.inr hd
      · exact Or.inl rfl
    · rw [if_neg hk]
      exact Or.inl rfl
theorem saidC_span {s s' : ByteArray} (h : ∀ K, spanF s.data.toList K = spanF s'.data.toList K) (f l : En) : saidC s f l = saidC s' f l := by
  unfold saidC
  rw [h]
/- What the laws' said calls good is what the program's says; what it does not, the program's says nothing of, or a path. -/
theorem said_law (t : Et) : ((lsE t).ok = true → saidE t = planS (lsE t)) ∧ ((lsE t).ok = false → saidE t = noP ∨ ¬ noDot (saidE t).1) := by
  unfold lsE saidE lsF saidF
  by_cases h : (t []).k = 6 ∧ (t []).n = 2
  · rw [if_pos h, if_pos h]
    by_cases hf : (t.sub 0 []).k = 1
    · rw [if_pos hf, saidC_span (turn_span (t []).s)]
      by_cases hl : (t.sub 1 []).k = 2
      · rw [if_pos ⟨hf, hl⟩]
        exact saidC_law _ _ _
      · rw [if_neg (fun hh => hl hh.2)]
        refine ⟨fun h1 => ?_, fun _ => Or.inl ?_⟩
        · unfold lsC at h1
          split at h1
          · simp only [Bool.and_eq_true, beq_iff_eq] at h1
            omega
          · exact absurd h1 (by decide)
        · unfold saidC
          rw [if_neg (fun hh => hl hh.1)]
    · rw [if_neg hf, if_neg (fun hh => hf hh.1)]
      exact saidC_law _ _ _
  · rw [if_neg h, if_neg h]
    exact ⟨fun h1 => absurd h1 (by decide), fun _ => Or.inl rfl⟩
end Go.Proofs.YtfemippjaokcmaaGreatDoor
