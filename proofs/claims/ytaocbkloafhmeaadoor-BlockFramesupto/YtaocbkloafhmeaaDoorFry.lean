/- The law BlockFrames as a walk: where the block may follow. -/
import Derived.Test.YtaocbkloafhmeaaDoorFmx
import Derived.Test.YtaocbkloafhmeaaDoorFpl
import Derived.Test.YtaocbkloafhmeaaDoorWbx
import Derived.Test.YtaocbkloafhmeaaDoorRea
namespace Go.Proofs.YtaocbkloafhmeaaDoor
open Go.RowKit
theorem emptyL (h : ByteArray) : h.toList.isEmpty = decide (h.size = 0) := by
  rw [ByteArray.toList_eq]
  obtain ⟨⟨l⟩⟩ := h
  cases l <;> simp [ByteArray.size]
def TupV (seq : Nat) (prev : ByteArray) (tx m : Nat) (R : Nat → Rv) (v : Value) (W : World) : Prop := ∃ q d, v = .tuple #[.agg #[.int .u64 (seq : Int), .string prev, .int .u64 (tx : Int), .slice q m d], .int .i64 0] ∧ Revs W q m d R
theorem TupV.later {seq : Nat} {prev : ByteArray} {tx m : Nat} {R : Nat → Rv} : ∀ v W W', TupV seq prev tx m R v W → Below W.heap.size W W' → TupV seq prev tx m R v W' := fun _ _ _ ⟨q, d, h1, h2⟩ hb => ⟨q, d, h1, h2.later hb⟩
def AggV (seq : Nat) (prev : ByteArray) (tx m : Nat) (R : Nat → Rv) (v : Value) (W : World) : Prop := ∃ q d, v = .agg #[.int .u64 (seq : Int), .string prev, .int .u64 (tx : Int), .slice q m d] ∧ Revs W q m d R
theorem AggV.later {seq : Nat} {prev : ByteArray} {tx m : Nat} {R : Nat → Rv} : ∀ v W W', AggV seq prev tx m R v W → Below W.heap.size W W' → AggV seq prev tx m R v W' := fun _ _ _ ⟨q, d, h1, h2⟩ hb => ⟨q, d, h1, h2.later hb⟩
def NewV (B : Nat) (cs : Array Value) (T : TypeId) (v : Value) (W : World) : Prop := ∃ g, v = .pointer (some ⟨g, 0, none⟩) ∧ W.heap[g]? = some (.cells cs T (0, 0)) ∧ B ≤ g
theorem NewV.later {B : Nat} {cs : Array Value} {T : TypeId} : ∀ v W W', NewV B cs T v W → Below W.heap.size W W' → NewV B cs T v W' := fun _ _ _ ⟨g, h1, h2, h3⟩ hb => ⟨g, h1, cell_later4 hb h2, h3⟩
theorem frameS_read {x : Bk} (hx : x.lim) : ∀ i, i ≤ x.n → frameS (readX (frameT x)) i = frameS x i := by
  obtain ⟨h0, h1, h2, h3, hr⟩ := read_head hx
  intro i
  induction i with
  | zero =>
    intro _
    show headT _ = headT x
    unfold headT
    rw [h0, h1, h2, h3]
  | succ i ih =>
    intro hi
    show frameS (readX (frameT x)) i ++ metaT ((readX (frameT x)).R i) = frameS x i ++ metaT (x.R i)
    rw [ih (by omega), hr i (by omega), bare_meta]
set_option maxRecDepth 100000 in
set_option maxHeartbeats 8000000 in
theorem frames_yes (x : Bk) (hx : x.fit) (hfs : ∀ i, i ≤ (cutB x).n → (frameS (cutB x) i).size ≤ 1000000000) (p : Option Addr) (c : Nat) (w : World) (hw : 3 ≤ w.heap.size) (hG : GL w) (hD : GD w) (hX : Revs w p x.n c x.R) (HC : folR (cutB x) (cutB x).seq (cutB x).prev = 0 ∧ (cutB x).prev.size ≤ 32) :
    Calls Tryd.prog 5 #[x.val p c] w fun e w' => e = .returned (.bool true) ∧ Below w.heap.size w w' := by
  have kb := fun W hX => block_any x p c W hX
  have hxc : (cutB x).fit := ⟨hx.seq, hx.tx, hx.prev⟩
  have hnc := cutB_n x
  have hnx : (cutB x).n ≤ x.n := Nat.min_le_left _ _
  have hXc : Revs w p (cutB x).n c (cutB x).R := hX.less _ hnx
  have hX2 : Revs w p x.n c (cutB x).R := hX
  have xv : x.val p c = .agg #[.int .u64 (x.seq : Int), .string x.prev, .int .u64 (x.tx : Int), .slice p x.n c] := rfl
  rw [xv] at kb ⊢
  rw [show x.R = (cutB x).R from rfl] at kb
  obtain ⟨X, hXX⟩ : ∃ X, cutB x = X := ⟨_, rfl⟩
  rw [hXX] at kb hxc hnc hnx hXc hX2 hfs HC
  have e1 : X.seq = x.seq := by rw [← hXX]; rfl
  have e2 : X.prev = x.prev := by rw [← hXX]; rfl
  have e3 : X.tx = x.tx := by rw [← hXX]; rfl
  clear hXX hx hX
  obtain ⟨xs, xp, xt, xn, xR⟩ := x
  simp only at e1 e2 e3 kb hX2 hnx ⊢
  rw [← e1, ← e2, ← e3]
  rw [← e1, ← e2, ← e3] at kb
  clear e1 e2 e3 xv
  have kfr := fun W p c hX => frame_any X hxc hnc hfs p c W hX
  have krf := fun W p c hX => rframe_any X hxc hnc p c W hX
  have kg1 := fun W p c hG hX => follows_any X p c X.seq X.prev W hG hX
  have hlim := fol_lim hxc hXc.fit HC.2 HC.1
  obtain ⟨lim, hck⟩ := hlim
  have hE := frame_readE lim hck
  obtain ⟨z0, z1, z2, z3, z4⟩ := read_head lim
  have hZh := hash_read lim
  have hZf := frame_twice lim
  have hZS := frameS_read lim
  have hwb := fun i hi h1 h2 => with_back lim (i := i) hi (hck i hi) h1 h2
  have hFsz := hfs X.n (Nat.le_refl _)
  have kz := fun W hG => read_any (frameT X) (show (frameT X).size ≤ 1125899906842624 from by unfold frameT; omega) W hG
  have kh1 := fun W p c hw hG hD hX => hash_any X hxc hnc p c W hw hG hD hX
  have hm0 := (fol_zero HC.1).1
  rw [HC.1] at kg1
  have hp32 := HC.2
  obtain ⟨Z, hZ⟩ : ∃ Z, readX (frameT X) = Z := ⟨_, rfl⟩
  rw [hZ] at z0 z1 z2 z3 z4 hZh hZf hZS
  simp only [hZ] at hwb
  have hZfit : Z.fit := ⟨by rw [z0]; exact hxc.seq, by rw [z2]; exact hxc.tx, by rw [z1]; exact hxc.prev⟩
  have kh2 := fun W p c hw hG hD hX => hash_any Z hZfit (by rw [z3]; exact hnc) p c W hw hG hD hX
  have kf2 := fun W p c hX => frame_any Z hZfit (by rw [z3]; exact hnc) (fun i hi => by rw [hZS i (by omega)]; exact hfs i (by omega)) p c W hX
  have kw := fun W k bo p c hG hX => with_any Z (by rw [z3]; exact hnc) k bo p c W hG hX
  simp only [in_val] at kw
  rw [hZh] at kh2
  rw [hZf] at kf2
  have kz2 : ∀ W, GL W → Calls Tryd.prog 29 #[.string (frameT X)] W fun e w' => ∃ q d, e = .returned (.tuple #[.agg #[.int .u64 (X.seq : Int), .string X.prev, .int .u64 (X.tx : Int), .slice q X.n d], .int .i64 0]) ∧ Revs w' q X.n d Z.R ∧ Below W.heap.size W w' := fun W hG => (kz W hG).mono (by
    rintro e w' ⟨X', q, d, rfl, h1, -, hb⟩
    obtain ⟨rfl, h3⟩ := h1 hE
    rw [hZ] at h3 ⊢
    refine ⟨q, d, ?_, by rw [← z3]; exact h3, hb⟩
    rw [hE]
    show Ending.returned (.tuple #[.agg #[.int .u64 (Z.seq : Int), .string Z.prev, .int .u64 (Z.tx : Int), .slice q Z.n d], .int .i64 0]) = _
    rw [z0, z1, z2, z3])
  clear kz hE hZ lim hck hZS hfs
  obtain ⟨zs, zp, zt, zn, RZ⟩ := Z
  simp only at z0 z1 z2 z3 z4 kw hwb kz2
  subst z0 z1 z2 z3
  clear HC hZh hZf hFsz
  obtain ⟨F, hF⟩ : ∃ F, frameT X = F := ⟨_, rfl⟩
  rw [hF] at kfr krf kz2 kf2
  obtain ⟨Hh, hHh⟩ : ∃ h, hashT X = h := ⟨_, rfl⟩
  rw [hHh] at kh1 kh2
  clear hF hHh
  obtain ⟨seq, prev, tx, m, R⟩ := X
  have hv : ∀ q d, (Bk.mk seq prev tx m R).val q d = .agg #[.int .u64 (seq : Int), .string prev, .int .u64 (tx : Int), .slice q m d] := fun _ _ => rfl
  simp only [hv] at kb kfr krf kg1 kh1 kh2 kf2 kw kz2 hwb z4
  try simp only at hXc hnc hnx hX2 hm0 hp32 ⊢
  go_enter Tryd.func5, Tryd.ntmps5
  go_wp2_with fail
  have b0 : ∀ o, Below w.heap.size w (w.alloc o) := fun o => (Below.refl _ w).alloc (Nat.le_refl _) o
  refine (kb _ (hX2.later (b0 _))).mono ?_
  rintro e w1 ⟨q, d, rfl, hXq, hb1⟩
  have hb01 := (b0 _).trans (hb1.mono (by simp))
  have hs1 := hb01.size
  obtain ⟨w5, hw5⟩ : ∃ w5, (w1.alloc (.cells #[.int .u64 (seq : Int), .string prev, .int .u64 (tx : Int), .slice p m c] 38)).alloc (.cells #[.int .u64 (seq : Int), .string prev, .int .u64 (tx : Int), .slice q m d] 41) = w5 := ⟨_, rfl⟩
  have b15 : Below w1.heap.size w1 w5 := by rw [← hw5]; exact ((Below.refl _ _).alloc (Nat.le_refl _) _).alloc (by simp) _
  have hx5 : w5.heap[w1.heap.size]? = some (.cells #[.int .u64 (seq : Int), .string prev, .int .u64 (tx : Int), .slice p m c] 38 (0, 0)) := by rw [← hw5]; exact (Below.heap_alloc _ _ _ (by simp)).trans (heap_alloc_new _ _)
  have hy5 : w5.heap[w1.heap.size + 1]? = some (.cells #[.int .u64 (seq : Int), .string prev, .int .u64 (tx : Int), .slice q m d] 41 (0, 0)) := by rw [← hw5]; exact two_new _ _ _
  have hb5 := hb01.trans (b15.mono hs1)
  have hXq5 := hXq.later b15
  have hXp5 := hXc.later hb5
  have hs5 := hb5.size
  have u0 := cell_of_row w5 _ 0 _ _ _ hx5
  have u1 := cell_of_row w5 _ 1 _ _ _ hx5
  have u2 := cell_of_row w5 _ 2 _ _ _ hx5
  have u3 := cell_of_row w5 _ 3 _ _ _ hx5
  go_wp2_with fail
  refine (kfr _ _ _ hXp5).mono ?_
  rintro e w6 ⟨rfl, hb56⟩
  obtain ⟨b1, hbb1⟩ : ∃ b1, w1.heap.size = b1 := ⟨_, rfl⟩
  simp only [hbb1] at hx5 hy5 u0 u1 u2 u3 ⊢
  obtain ⟨b2, hbb2⟩ : ∃ b2, b1 + 1 = b2 := ⟨_, rfl⟩
  simp only [hbb2] at hy5 ⊢
  have hb6 := hb5.trans (hb56.mono hs5)
  have hs6 := hb6.size
  have hx6 := cell_later4 hb56 hx5
  have hy6 := cell_later4 hb56 hy5
  have hXp6 := hXp5.later hb56
  have hXq6 := hXq5.later hb56
  clear u0 u1 u2 u3 hb56 hXp5 hXq5 hx5 hy5 hw5 hbb1 hbb2 b15 hb01 hb1 hXq b0 kb kfr hs1
  go_wp2_with fail
  refine (awake_any w6 (by omega) (hG.later hb6) (hD.later hb6)).mono ?_
  rintro e w7 ⟨rfl, hb67⟩
  have hb7 := hb6.trans (hb67.mono hs6)
  have hs7 := hb7.size
  have hx7 := cell_later4 hb67 hx6
  have hy7 := cell_later4 hb67 hy6
  have hXp7 := hXp6.later hb67
  have hXq7 := hXq6.later hb67
  have v0 := cell_of_row w7 _ 0 _ _ _ hy7
  have v1 := cell_of_row w7 _ 1 _ _ _ hy7
  have v2 := cell_of_row w7 _ 2 _ _ _ hy7
  have v3 := cell_of_row w7 _ 3 _ _ _ hy7
  clear hb67 hx6 hy6 hXp6 hXq6
  go_wp2_with fail
  refine (krf _ _ _ hXq7).mono ?_
  rintro e w8 ⟨rfl, hb78⟩
  have hb8 := hb7.trans (hb78.mono hs7)
  have hs8 := hb8.size
  have hx8 := cell_later4 hb78 hx7
  have hXp8 := hXp7.later hb78
  have u0 := cell_of_row w8 _ 0 _ _ _ hx8
  have u1 := cell_of_row w8 _ 1 _ _ _ hx8
  have u2 := cell_of_row w8 _ 2 _ _ _ hx8
  have u3 := cell_of_row w8 _ 3 _ _ _ hx8
  clear v0 v1 v2 v3 hb78 hx7 hy7 hXp7 hXq7 krf hb7 hs7 hb6 hs6
  go_wp2_with fail
  refine (kg1 _ _ _ (hG.later hb8) hXp8).mono ?_
  rintro e w9 ⟨rfl, hb89⟩
  have hb9 := hb8.trans (hb89.mono hs8)
  have hs9 := hb9.size
  have hx9 := cell_later4 hb89 hx8
  have hXp9 := hXp8.later hb89
  have u1' := cell_of_row w9 _ 1 _ _ _ hx9
  clear u0 u1 u2 u3 hb89 hx8 hXp8 kg1 hb8 hs8
  have kz9 := kz2 _ (hG.later hb9)
  clear kz2
  have hp32' : ¬ (32 : Int) < (prev.size : Int) := by omega
  go_wp2_with fail
  refine kz9.mono ?_
  rintro e wa ⟨qz, dz, rfl, hXz, hb9a⟩
  have hba := hb9.trans (hb9a.mono hs9)
  have hsa := hba.size
  have hxa := cell_later4 hb9a hx9
  have hXpa := hXp9.later hb9a
  clear kz9 u1' hb9a hx9 hXp9 hb9 hs9 hp32' hp32
  go_upto_region 8 with fail
  obtain ⟨wb, hwb0⟩ : ∃ wb, wa.alloc (.cells #[.int .u64 (seq : Int), .string prev, .int .u64 (tx : Int), .slice qz m dz] 38) = wb := ⟨_, rfl⟩
  have bab : Below wa.heap.size wa wb := by rw [← hwb0]; exact (Below.refl _ _).alloc (Nat.le_refl _) _
  have hzb : wb.heap[wa.heap.size]? = some (.cells #[.int .u64 (seq : Int), .string prev, .int .u64 (tx : Int), .slice qz m dz] 38 (0, 0)) := by rw [← hwb0]; exact heap_alloc_new _ _
  rw [hwb0]
  have hxb := cell_later4 bab hxa
  have hbb := hba.trans (bab.mono hsa)
  have hsb := hbb.size
  have hXzb := hXz.later bab
  have hXpb := hXpa.later bab
  obtain ⟨b3, hb3⟩ : ∃ b3, wa.heap.size = b3 := ⟨_, rfl⟩
  rw [hb3] at hzb ⊢
  clear hwb0 bab hxa hXz hXpa hba hsa hb3
  have hvz : ∀ q d, (Bk.mk seq prev tx m RZ).val q d = .agg #[.int .u64 (seq : Int), .string prev, .int .u64 (tx : Int), .slice q m d] := fun _ _ => rfl
  simp only [hvz] at kw kf2 kh2
  have hGb := hG.later hbb
  have hDb := hD.later hbb
  have j1 := fun W (hb : Below wb.heap.size wb W) => kh2 W qz dz (by have := hb.size; omega) (hGb.later hb) (hDb.later hb) (hXzb.later hb)
  have j2 := fun W (hb : Below wb.heap.size wb W) => kh1 W p c (by have := hb.size; omega) (hGb.later hb) (hDb.later hb) (hXpb.later hb)
  have j3 := fun W (hb : Below wb.heap.size wb W) => kf2 W qz dz (hXzb.later hb)
  clear kh1 kh2 kf2 hv hvz
  refine any_regionG (by kernel_rfl) 24 rfl (fun i => if i < 23 then i + 44 else 67) (oneR 1000 (fun _ _ => True) [.int .i64 0, .bool false, .bool false, .agg #[.int .u64 (seq : Int), .string prev, .int .u64 (tx : Int), .slice qz m dz], .string Hh, .agg #[.int .u64 (seq : Int), .string prev, .int .u64 (tx : Int), .slice p m c], .string Hh, .bool false, .bool false, .bool false, .pointer (some ⟨b3, 3, none⟩), .slice qz m dz, .int .i64 (m : Int), .pointer (some ⟨b1, 3, none⟩), .slice p m c, .int .i64 (m : Int), .bool false, .bool false, .bool false, .agg #[.int .u64 (seq : Int), .string prev, .int .u64 (tx : Int), .slice qz m dz], .string F, .string F, .bool false, .bool false]) (by kernel_rfl) (by kernel_rfl) (by kernel_rfl) (oneR_later 1000 _ _ (fun _ _ _ _ _ => trivial)) ?step ?post
  case step =>
    intro i hi a W hrest hb hk
    have hp6 : a.eval (.tmp 6) = .pointer (some ⟨b3, 0, none⟩) := (hrest 6 (by intro i hi; split <;> omega)).trans rfl
    have fp6 := ev hp6
    have hp3 : a.eval (.tmp 3) = .pointer (some ⟨b1, 0, none⟩) := (hrest 3 (by intro i hi; split <;> omega)).trans rfl
    have fp3 := ev hp3
    have hp7 : a.eval (.tmp 7) = .int .i64 0 := (hrest 7 (by intro i hi; split <;> omega)).trans rfl
    have fp7 := ev hp7
    have hp5 : a.eval (.tmp 5) = .string F := (hrest 5 (by intro i hi; split <;> omega)).trans rfl
    have fp5 := ev hp5
    clear hrest
    obtain rfl | rfl | rfl | rfl | rfl | rfl | rfl | rfl | rfl | rfl | rfl | rfl | rfl | rfl | rfl | rfl | rfl | rfl | rfl | rfl | rfl | rfl | rfl | rfl : i = 0 ∨ i = 1 ∨ i = 2 ∨ i = 3 ∨ i = 4 ∨ i = 5 ∨ i = 6 ∨ i = 7 ∨ i = 8 ∨ i = 9 ∨ i = 10 ∨ i = 11 ∨ i = 12 ∨ i = 13 ∨ i = 14 ∨ i = 15 ∨ i = 16 ∨ i = 17 ∨ i = 18 ∨ i = 19 ∨ i = 20 ∨ i = 21 ∨ i = 22 ∨ i = 23 := by omega
    · clear hi
      clear hk
      refine ⟨_, rfl, rfl, Or.inl ⟨rfl, wp_value (v := .int .i64 0) (w' := W) ?_ ⟨_, rfl, Below.refl _ _, rfl⟩⟩⟩
      go_simp
    · clear hi
      have e0 : a.eval (.tmp 44) = .int .i64 0 := hk 0 (mem_of (by kernel_rfl))
      have f0 := ev e0
      clear hk
      refine ⟨_, rfl, rfl, Or.inl ⟨rfl, wp_value (v := .bool false) (w' := W) ?_ ⟨_, rfl, Below.refl _ _, rfl⟩⟩⟩
      go_simp
    · clear hi
      have e1 : a.eval (.tmp 45) = .bool false := hk 1 (mem_of (by kernel_rfl))
      have f1 := ev e1
      clear hk
      refine ⟨_, rfl, rfl, Or.inl ⟨rfl, wp_value (v := .bool false) (w' := W) ?_ ⟨_, rfl, Below.refl _ _, rfl⟩⟩⟩
      go_simp
    · clear hi
      have e2 : a.eval (.tmp 46) = .bool false := hk 2 (mem_of (by kernel_rfl))
      clear hk
      refine ⟨_, rfl, rfl, Or.inl ⟨wanted_of (k := 2) (b := false) rfl rfl e2, wp_load_row 38 (.tmp 6) rfl (b3) hp6 38 #[.int .u64 (seq : Int), .string prev, .int .u64 (tx : Int), .slice qz m dz] (0, 0) _ ((hb.block _ (lt_of_row hzb)).trans hzb) Tryd.underlying38 rfl (by kernel_rfl) ⟨_, rfl, Below.refl _ _, rfl⟩⟩⟩
    · clear hi
      have e3 : a.eval (.tmp 47) = .agg #[.int .u64 (seq : Int), .string prev, .int .u64 (tx : Int), .slice qz m dz] := hk 3 (mem_of (by kernel_rfl))
      have f3 := ev e3
      have e2 : a.eval (.tmp 46) = .bool false := hk 2 (mem_of (by kernel_rfl))
      clear hk
      refine ⟨_, rfl, rfl, Or.inl ⟨wanted_of (k := 2) (b := false) rfl rfl e2, wp_enter (f := 20) (args := #[.agg #[.int .u64 (seq : Int), .string prev, .int .u64 (tx : Int), .slice qz m dz]]) ?_ ((j1 W hb).mono ?_)⟩⟩
      · go_simp
      · rintro e w2 ⟨rfl, hb2⟩
        exact ⟨_, rfl, _, rfl, hb2, rfl⟩
    · clear hi
      have e2 : a.eval (.tmp 46) = .bool false := hk 2 (mem_of (by kernel_rfl))
      clear hk
      refine ⟨_, rfl, rfl, Or.inl ⟨wanted_of (k := 2) (b := false) rfl rfl e2, wp_load_row 38 (.tmp 3) rfl (b1) hp3 38 #[.int .u64 (seq : Int), .string prev, .int .u64 (tx : Int), .slice p m c] (0, 0) _ ((hb.block _ (lt_of_row hxb)).trans hxb) Tryd.underlying38 rfl (by kernel_rfl) ⟨_, rfl, Below.refl _ _, rfl⟩⟩⟩
    · clear hi
      have e5 : a.eval (.tmp 49) = .agg #[.int .u64 (seq : Int), .string prev, .int .u64 (tx : Int), .slice p m c] := hk 5 (mem_of (by kernel_rfl))
      have f5 := ev e5
      have e2 : a.eval (.tmp 46) = .bool false := hk 2 (mem_of (by kernel_rfl))
      clear hk
      refine ⟨_, rfl, rfl, Or.inl ⟨wanted_of (k := 2) (b := false) rfl rfl e2, wp_enter (f := 20) (args := #[.agg #[.int .u64 (seq : Int), .string prev, .int .u64 (tx : Int), .slice p m c]]) ?_ ((j2 W hb).mono ?_)⟩⟩
      · go_simp
      · rintro e w2 ⟨rfl, hb2⟩
        exact ⟨_, rfl, _, rfl, hb2, rfl⟩
    · clear hi
      have e4 : a.eval (.tmp 48) = .string Hh := hk 4 (mem_of (by kernel_rfl))
      have f4 := ev e4
      have e6 : a.eval (.tmp 50) = .string Hh := hk 6 (mem_of (by kernel_rfl))
      have f6 := ev e6
      have e2 : a.eval (.tmp 46) = .bool false := hk 2 (mem_of (by kernel_rfl))
      clear hk
      refine ⟨_, rfl, rfl, Or.inl ⟨wanted_of (k := 2) (b := false) rfl rfl e2, wp_value (v := .bool false) (w' := W) ?_ ⟨_, rfl, Below.refl _ _, rfl⟩⟩⟩
      go_simp
    · clear hi
      have e2 : a.eval (.tmp 46) = .bool false := hk 2 (mem_of (by kernel_rfl))
      have f2 := ev e2
      have e7 : a.eval (.tmp 51) = .bool false := hk 7 (mem_of (by kernel_rfl))
      have f7 := ev e7
      clear hk
      refine ⟨_, rfl, rfl, Or.inl ⟨rfl, wp_value (v := .bool false) (w' := W) ?_ ⟨_, rfl, Below.refl _ _, rfl⟩⟩⟩
      go_simp
    · clear hi
      have e8 : a.eval (.tmp 52) = .bool false := hk 8 (mem_of (by kernel_rfl))
      have f8 := ev e8
      clear hk
      refine ⟨_, rfl, rfl, Or.inl ⟨rfl, wp_value (v := .bool false) (w' := W) ?_ ⟨_, rfl, Below.refl _ _, rfl⟩⟩⟩
      go_simp
    · clear hi
      have e9 : a.eval (.tmp 53) = .bool false := hk 9 (mem_of (by kernel_rfl))
      clear hk
      refine ⟨_, rfl, rfl, Or.inl ⟨wanted_of (k := 9) (b := false) rfl rfl e9, wp_value (v := .pointer (some ⟨b3, 3, none⟩)) (w' := W) ?_ ⟨_, rfl, Below.refl _ _, rfl⟩⟩⟩
      go_simp
    · clear hi
      have e10 : a.eval (.tmp 54) = .pointer (some ⟨b3, 3, none⟩) := hk 10 (mem_of (by kernel_rfl))
      have f10 := ev e10
      have e9 : a.eval (.tmp 53) = .bool false := hk 9 (mem_of (by kernel_rfl))
      clear hk
      have hc : W.cell? ⟨b3, 3, none⟩ = some (.slice qz m dz) := cell_of_row W _ 3 _ _ _ ((hb.block _ (lt_of_row hzb)).trans hzb)
      refine ⟨_, rfl, rfl, Or.inl ⟨wanted_of (k := 9) (b := false) rfl rfl e9, wp_value (v := .slice qz m dz) (w' := W) ?_ ⟨_, rfl, Below.refl _ _, rfl⟩⟩⟩
      go_simp
    · clear hi
      have e11 : a.eval (.tmp 55) = .slice qz m dz := hk 11 (mem_of (by kernel_rfl))
      have f11 := ev e11
      have e9 : a.eval (.tmp 53) = .bool false := hk 9 (mem_of (by kernel_rfl))
      clear hk
      refine ⟨_, rfl, rfl, Or.inl ⟨wanted_of (k := 9) (b := false) rfl rfl e9, wp_value (v := .int .i64 (m : Int)) (w' := W) ?_ ⟨_, rfl, Below.refl _ _, rfl⟩⟩⟩
      go_simp
    · clear hi
      have e9 : a.eval (.tmp 53) = .bool false := hk 9 (mem_of (by kernel_rfl))
      clear hk
      refine ⟨_, rfl, rfl, Or.inl ⟨wanted_of (k := 9) (b := false) rfl rfl e9, wp_value (v := .pointer (some ⟨b1, 3, none⟩)) (w' := W) ?_ ⟨_, rfl, Below.refl _ _, rfl⟩⟩⟩
      go_simp
    · clear hi
      have e13 : a.eval (.tmp 57) = .pointer (some ⟨b1, 3, none⟩) := hk 13 (mem_of (by kernel_rfl))
      have f13 := ev e13
      have e9 : a.eval (.tmp 53) = .bool false := hk 9 (mem_of (by kernel_rfl))
      clear hk
      have hc : W.cell? ⟨b1, 3, none⟩ = some (.slice p m c) := cell_of_row W _ 3 _ _ _ ((hb.block _ (lt_of_row hxb)).trans hxb)
      refine ⟨_, rfl, rfl, Or.inl ⟨wanted_of (k := 9) (b := false) rfl rfl e9, wp_value (v := .slice p m c) (w' := W) ?_ ⟨_, rfl, Below.refl _ _, rfl⟩⟩⟩
      go_simp
    · clear hi
      have e14 : a.eval (.tmp 58) = .slice p m c := hk 14 (mem_of (by kernel_rfl))
      have f14 := ev e14
      have e9 : a.eval (.tmp 53) = .bool false := hk 9 (mem_of (by kernel_rfl))
      clear hk
      refine ⟨_, rfl, rfl, Or.inl ⟨wanted_of (k := 9) (b := false) rfl rfl e9, wp_value (v := .int .i64 (m : Int)) (w' := W) ?_ ⟨_, rfl, Below.refl _ _, rfl⟩⟩⟩
      go_simp
    · clear hi
      have e12 : a.eval (.tmp 56) = .int .i64 (m : Int) := hk 12 (mem_of (by kernel_rfl))
      have f12 := ev e12
      have e15 : a.eval (.tmp 59) = .int .i64 (m : Int) := hk 15 (mem_of (by kernel_rfl))
      have f15 := ev e15
      have e9 : a.eval (.tmp 53) = .bool false := hk 9 (mem_of (by kernel_rfl))
      clear hk
      refine ⟨_, rfl, rfl, Or.inl ⟨wanted_of (k := 9) (b := false) rfl rfl e9, wp_value (v := .bool false) (w' := W) ?_ ⟨_, rfl, Below.refl _ _, rfl⟩⟩⟩
      go_simp
    · clear hi
      have e9 : a.eval (.tmp 53) = .bool false := hk 9 (mem_of (by kernel_rfl))
      have f9 := ev e9
      have e16 : a.eval (.tmp 60) = .bool false := hk 16 (mem_of (by kernel_rfl))
      have f16 := ev e16
      clear hk
      refine ⟨_, rfl, rfl, Or.inl ⟨rfl, wp_value (v := .bool false) (w' := W) ?_ ⟨_, rfl, Below.refl _ _, rfl⟩⟩⟩
      go_simp
    · clear hi
      have e17 : a.eval (.tmp 61) = .bool false := hk 17 (mem_of (by kernel_rfl))
      have f17 := ev e17
      clear hk
      refine ⟨_, rfl, rfl, Or.inl ⟨rfl, wp_value (v := .bool false) (w' := W) ?_ ⟨_, rfl, Below.refl _ _, rfl⟩⟩⟩
      go_simp
    · clear hi
      have e18 : a.eval (.tmp 62) = .bool false := hk 18 (mem_of (by kernel_rfl))
      clear hk
      refine ⟨_, rfl, rfl, Or.inl ⟨wanted_of (k := 18) (b := false) rfl rfl e18, wp_load_row 38 (.tmp 6) rfl (b3) hp6 38 #[.int .u64 (seq : Int), .string prev, .int .u64 (tx : Int), .slice qz m dz] (0, 0) _ ((hb.block _ (lt_of_row hzb)).trans hzb) Tryd.underlying38 rfl (by kernel_rfl) ⟨_, rfl, Below.refl _ _, rfl⟩⟩⟩
    · clear hi
      have e19 : a.eval (.tmp 63) = .agg #[.int .u64 (seq : Int), .string prev, .int .u64 (tx : Int), .slice qz m dz] := hk 19 (mem_of (by kernel_rfl))
      have f19 := ev e19
      have e18 : a.eval (.tmp 62) = .bool false := hk 18 (mem_of (by kernel_rfl))
      clear hk
      refine ⟨_, rfl, rfl, Or.inl ⟨wanted_of (k := 18) (b := false) rfl rfl e18, wp_enter (f := 27) (args := #[.agg #[.int .u64 (seq : Int), .string prev, .int .u64 (tx : Int), .slice qz m dz]]) ?_ ((j3 W hb).mono ?_)⟩⟩
      · go_simp
      · rintro e w2 ⟨rfl, hb2⟩
        exact ⟨_, rfl, _, rfl, hb2, rfl⟩
    · clear hi
      have e18 : a.eval (.tmp 62) = .bool false := hk 18 (mem_of (by kernel_rfl))
      clear hk
      refine ⟨_, rfl, rfl, Or.inl ⟨wanted_of (k := 18) (b := false) rfl rfl e18, wp_value (v := .string F) (w' := W) ?_ ⟨_, rfl, Below.refl _ _, rfl⟩⟩⟩
      go_simp
    · clear hi
      have e20 : a.eval (.tmp 64) = .string F := hk 20 (mem_of (by kernel_rfl))
      have f20 := ev e20
      have e21 : a.eval (.tmp 65) = .string F := hk 21 (mem_of (by kernel_rfl))
      have f21 := ev e21
      have e18 : a.eval (.tmp 62) = .bool false := hk 18 (mem_of (by kernel_rfl))
      clear hk
      refine ⟨_, rfl, rfl, Or.inl ⟨wanted_of (k := 18) (b := false) rfl rfl e18, wp_value (v := .bool false) (w' := W) ?_ ⟨_, rfl, Below.refl _ _, rfl⟩⟩⟩
      go_simp
    · clear hi
      have e18 : a.eval (.tmp 62) = .bool false := hk 18 (mem_of (by kernel_rfl))
      have f18 := ev e18
      have e22 : a.eval (.tmp 66) = .bool false := hk 22 (mem_of (by kernel_rfl))
      have f22 := ev e22
      clear hk
      refine ⟨_, rfl, rfl, Or.inl ⟨rfl, wp_value (v := .bool false) (w' := W) ?_ ⟨_, rfl, Below.refl _ _, rfl⟩⟩⟩
      go_simp
  case post =>
    intro V W hb hV
    have eL : V 23 = .bool false := hV 23 (by omega)
    clear hV
    simp only [putAll, Nat.reduceLT, Nat.reduceAdd, if_true, if_false]
    rw [eL]
    simp only [Act.put, List.setIfInBounds_toArray, List.set_cons_zero, List.set_cons_succ]
    clear j1 j2 j3 eL
    obtain ⟨wc, hwc⟩ : ∃ wc, W = wc := ⟨_, rfl⟩
    rw [hwc] at hb ⊢
    clear hwc
    have hxc2 := cell_later4 hb hxb
    have hzc := cell_later4 hb hzb
    have hbc := hbb.trans (hb.mono hsb)
    have hsc := hbc.size
    have hXzc := hXzb.later hb
    have hXpc := hXpb.later hb
    have hGc := hGb.later hb
    clear hb hxb hzb hbb hsb hXzb hXpb hGb hDb
    have kw2 := fun W k bo hG hX => kw W k bo qz dz hG hX
    have HW : Hid (∀ (i : Nat), i < m → (R i).g = false → (R i).h.size ≠ 0 → inE ⟨seq, prev, tx, m, RZ⟩ (i : Int) (R i).b = 0 ∧ (inX ⟨seq, prev, tx, m, RZ⟩ (i : Int) (R i).b).n = m ∧ (inX ⟨seq, prev, tx, m, RZ⟩ (i : Int) (R i).b).R i = R i) := hwb
    have HKW : Hid (∀ (W : World) (k : Int) (bo : ByteArray), GL W → Revs W qz m dz RZ → Calls Tryd.prog 30 #[.agg #[.int .u64 (seq : Int), .string prev, .int .u64 (tx : Int), .slice qz m dz], .int .i64 k, .string bo] W fun e w' => ∃ q d,
      e = .returned (.tuple #[.agg #[.int .u64 (seq : Int), .string prev, .int .u64 (tx : Int), .slice q m d], .int .i64 (inE ⟨seq, prev, tx, m, RZ⟩ k bo)]) ∧ Revs w' q m d (inX ⟨seq, prev, tx, m, RZ⟩ k bo).R ∧ Below W.heap.size W w') := kw2
    have hcap := hXpc.cap
    have hcz := hXzc.cap
    have hmx : maxLen = 9223372036854775807 := rfl
    clear hwb kw kw2 z4 hZfit hxc
    go_wp2
    go_loopw [8, 9, 10] (fun v8 _ _ wr => ∃ i : Nat, i ≤ m ∧ v8 = .int .i64 (i : Int) ∧ Below wc.heap.size wc wr) (fun v8 _ _ _ => m - (intOf v8).toNat)
    case atStart => exact ⟨0, Nat.zero_le _, rfl, Below.refl _ _⟩
    case round =>
      obtain ⟨i, him, rfl, hbr⟩ := hrel
      have hxr := cell_later4 hbr hxc2
      have hzr := cell_later4 hbr hzc
      have hXpr := hXpc.later hbr
      have hXzr := hXzc.later hbr
      have hGr := hGc.later hbr
      have hbR := hbc.trans (hbr.mono hsc)
      have s0 := cell_of_row wr _ 3 _ _ _ hxr
      have s1 := cell_of_row wr _ 3 _ _ _ hzr
      by_cases hlt : i < m
      · have hlt' : (i : Int) < (m : Int) := by omega
        obtain ⟨pb, po, rfl, hpb, hat⟩ := hXpr.at' (by omega)
        have h8 := hat i hlt
        have hwI := HW.out i hlt
        have kI := HKW.out
        clear hat
        obtain ⟨⟨op, t, f, dd, v, h, bo, gg⟩, hri⟩ : ∃ r, R i = r := ⟨_, rfl⟩
        rw [hri] at h8 hwI
        have e0 := h8.c0
        have e1 := h8.c1
        have e2 := h8.c2
        have e3 := h8.c3
        have e4 := h8.c4
        have e5 := h8.c5
        have e6 := h8.c6
        have e7 := h8.c7
        simp only at e0 e1 e2 e3 e4 e5 e6 e7 hwI
        cases gg with
        | true =>
          go_wp2
          go_roundw
          case rel => exact ⟨i + 1, hlt, by simp, hbr⟩
          case measure => simp [intOf]; omega
        | false =>
          by_cases hh : h.size = 0
          · have hh2 : h.toList.isEmpty = true := by rw [emptyL]; exact decide_eq_true hh
            go_wp2
            go_roundw
            case rel => exact ⟨i + 1, hlt, by simp, hbr⟩
            case measure => simp [intOf]; omega
          · obtain ⟨hI1, hI2, hI3⟩ := hwI rfl hh
            have hh2 : h.toList.isEmpty = false := by rw [emptyL]; exact decide_eq_false hh
            have kI2 := fun W hG hX => kI W (i : Int) bo hG hX
            rw [hI1] at kI2
            obtain ⟨RI, hRI⟩ : ∃ RI, (inX ⟨seq, prev, tx, m, RZ⟩ (i : Int) bo).R = RI := ⟨_, rfl⟩
            rw [hRI] at kI2 hI3
            clear hRI hI1 hI2 kI hwI
            go_wp2
            have z6 : ∀ V, Below wr.heap.size wr V → V.cell? ⟨pb, po + i * 8 + 6, none⟩ = some (.string bo) := fun V hV => cell_kept e6 (hV.block pb hpb)
            refine any_tailF (by kernel_rfl) 13 11 (by decide) (by exact Nat.le_of_ble_eq_true rfl) (fun i => if i < 9 then i + 91 else if i = 9 then 90 else if i < 12 then i + 90 else 9) (mixR [(8, TupV seq prev tx m RI), (9, TupV seq prev tx m RI), (10, AggV seq prev tx m RI), (12, NewV wr.heap.size #[.int .u64 0, .string ⟨#[]⟩, .int .u64 0, .slice none 0 0] 38)] [.agg #[.int .u64 (seq : Int), .string prev, .int .u64 (tx : Int), .slice qz m dz], .int .i64 (i : Int), .pointer (some ⟨b1, 3, none⟩), .slice (some ⟨pb, po, none⟩) m c, .int .i64 (i : Int), .pointer (some ⟨pb, po + i * 8, none⟩), .pointer (some ⟨pb, po + i * 8 + 6, none⟩), .string bo, undef, undef, undef, .int .i64 0, undef]) (by kernel_rfl) (by kernel_rfl) (by kernel_rfl) (by kernel_rfl) (mixR_later _ _ (stab_cons TupV.later (stab_cons TupV.later (stab_cons AggV.later (stab_cons NewV.later stab_nil))))) ?step ?post ?post2
            case step =>
              intro iq hiq a W hrest hb hk
              have hp6 : a.eval (.tmp 6) = .pointer (some ⟨b3, 0, none⟩) := (hrest 6 (by intro iq2 hiq2; (repeat' split) <;> omega)).trans rfl
              have fp6 := ev hp6
              have hx6 : W.heap[b3]? = some (.cells #[.int .u64 (seq : Int), .string prev, .int .u64 (tx : Int), .slice qz m dz] 38 (0, 0)) := (hb.block _ (lt_of_row hzr)).trans hzr
              have hp3 : a.eval (.tmp 3) = .pointer (some ⟨b1, 0, none⟩) := (hrest 3 (by intro iq2 hiq2; (repeat' split) <;> omega)).trans rfl
              have fp3 := ev hp3
              have hx3 : W.heap[b1]? = some (.cells #[.int .u64 (seq : Int), .string prev, .int .u64 (tx : Int), .slice (some ⟨pb, po, none⟩) m c] 38 (0, 0)) := (hb.block _ (lt_of_row hxr)).trans hxr
              have hp8 : a.eval (.tmp 8) = .int .i64 (i : Int) := (hrest 8 (by intro iq2 hiq2; (repeat' split) <;> omega)).trans rfl
              have fp8 := ev hp8
              clear hrest
              obtain rfl | rfl | rfl | rfl | rfl | rfl | rfl | rfl | rfl | rfl | rfl | rfl | rfl : iq = 0 ∨ iq = 1 ∨ iq = 2 ∨ iq = 3 ∨ iq = 4 ∨ iq = 5 ∨ iq = 6 ∨ iq = 7 ∨ iq = 8 ∨ iq = 9 ∨ iq = 10 ∨ iq = 11 ∨ iq = 12 := by omega
              · clear hiq
                clear hk
                refine ⟨_, rfl, rfl, rfl, wp_load_row 38 (.tmp 6) rfl (b3) hp6 38 #[.int .u64 (seq : Int), .string prev, .int .u64 (tx : Int), .slice qz m dz] (0, 0) _ hx6 Tryd.underlying38 rfl (by kernel_rfl) ?_⟩
                exact ⟨_, rfl, Below.refl _ _, rfl⟩
              · clear hiq
                clear hk
                refine ⟨_, rfl, rfl, rfl, wp_value (v := .int .i64 (i : Int)) (w' := W) ?_ ⟨_, rfl, Below.refl _ _, rfl⟩⟩
                go_simp
              · clear hiq
                clear hk
                refine ⟨_, rfl, rfl, rfl, wp_value (v := .pointer (some ⟨b1, 3, none⟩)) (w' := W) ?_ ⟨_, rfl, Below.refl _ _, rfl⟩⟩
                go_simp
              · clear hiq
                have e2 : a.eval (.tmp 93) = .pointer (some ⟨b1, 3, none⟩) := hk 2 (mem_of (by kernel_rfl))
                have f2 := ev e2
                have hc : W.cell? ⟨b1, 3, none⟩ = some (.slice (some ⟨pb, po, none⟩) m c) := cell_of_row W _ 3 _ _ _ hx3
                clear hk
                refine ⟨_, rfl, rfl, rfl, wp_value (v := .slice (some ⟨pb, po, none⟩) m c) (w' := W) ?_ ⟨_, rfl, Below.refl _ _, rfl⟩⟩
                go_simp
              · clear hiq
                clear hk
                refine ⟨_, rfl, rfl, rfl, wp_value (v := .int .i64 (i : Int)) (w' := W) ?_ ⟨_, rfl, Below.refl _ _, rfl⟩⟩
                go_simp
              · clear hiq
                have e3 : a.eval (.tmp 94) = .slice (some ⟨pb, po, none⟩) m c := hk 3 (mem_of (by kernel_rfl))
                have f3 := ev e3
                have e4 : a.eval (.tmp 95) = .int .i64 (i : Int) := hk 4 (mem_of (by kernel_rfl))
                have f4 := ev e4
                clear hk
                refine ⟨_, rfl, rfl, rfl, wp_value (v := .pointer (some ⟨pb, po + i * 8, none⟩)) (w' := W) ?_ ⟨_, rfl, Below.refl _ _, rfl⟩⟩
                go_simp
              · clear hiq
                have e5 : a.eval (.tmp 96) = .pointer (some ⟨pb, po + i * 8, none⟩) := hk 5 (mem_of (by kernel_rfl))
                have f5 := ev e5
                clear hk
                refine ⟨_, rfl, rfl, rfl, wp_value (v := .pointer (some ⟨pb, po + i * 8 + 6, none⟩)) (w' := W) ?_ ⟨_, rfl, Below.refl _ _, rfl⟩⟩
                go_simp
              · clear hiq
                have e6 : a.eval (.tmp 97) = .pointer (some ⟨pb, po + i * 8 + 6, none⟩) := hk 6 (mem_of (by kernel_rfl))
                have f6 := ev e6
                have hc := z6 W hb
                clear hk
                refine ⟨_, rfl, rfl, rfl, wp_value (v := .string bo) (w' := W) ?_ ⟨_, rfl, Below.refl _ _, rfl⟩⟩
                go_simp
              · clear hiq
                have e0 : a.eval (.tmp 91) = .agg #[.int .u64 (seq : Int), .string prev, .int .u64 (tx : Int), .slice qz m dz] := hk 0 (mem_of (by kernel_rfl))
                have f0 := ev e0
                have e1 : a.eval (.tmp 92) = .int .i64 (i : Int) := hk 1 (mem_of (by kernel_rfl))
                have f1 := ev e1
                have e7 : a.eval (.tmp 98) = .string bo := hk 7 (mem_of (by kernel_rfl))
                have f7 := ev e7
                clear hk
                refine ⟨_, rfl, rfl, rfl, wp_enter (f := 30) (args := #[.agg #[.int .u64 (seq : Int), .string prev, .int .u64 (tx : Int), .slice qz m dz], .int .i64 (i : Int), .string bo]) ?_ ((kI2 W (hGr.later hb) (hXzr.later hb)).mono ?_)⟩
                · go_simp
                · rintro e w5 ⟨q8, d8, rfl, hR8, hb5⟩
                  exact ⟨_, rfl, _, rfl, hb5, q8, d8, rfl, hR8⟩
              · clear hiq
                obtain ⟨q8, d8, e8, s8⟩ := show TupV seq prev tx m RI (a.eval (.tmp 99)) W from hk 8 (mem_of (by kernel_rfl))
                have f8 := ev e8
                clear hk
                refine ⟨_, rfl, rfl, rfl, wp_value (v := .tuple #[.agg #[.int .u64 (seq : Int), .string prev, .int .u64 (tx : Int), .slice q8 m d8], .int .i64 0]) (w' := W) ?_ ⟨_, rfl, Below.refl _ _, q8, d8, rfl, s8⟩⟩
                go_simp
              · clear hiq
                obtain ⟨q8, d8, e9, s8⟩ := show TupV seq prev tx m RI (a.eval (.tmp 90)) W from hk 9 (mem_of (by kernel_rfl))
                have f9 := ev e9
                clear hk
                refine ⟨_, rfl, rfl, rfl, wp_value (v := .agg #[.int .u64 (seq : Int), .string prev, .int .u64 (tx : Int), .slice q8 m d8]) (w' := W) ?_ ⟨_, rfl, Below.refl _ _, q8, d8, rfl, s8⟩⟩
                go_simp
              · clear hiq
                obtain ⟨q8, d8, e9, s8⟩ := show TupV seq prev tx m RI (a.eval (.tmp 90)) W from hk 9 (mem_of (by kernel_rfl))
                have f9 := ev e9
                clear hk
                refine ⟨_, rfl, rfl, rfl, wp_value (v := .int .i64 0) (w' := W) ?_ ⟨_, rfl, Below.refl _ _, rfl⟩⟩
                go_simp
              · clear hiq
                clear hk
                refine ⟨_, rfl, rfl, rfl, wp_value (v := .pointer (some ⟨W.heap.size, 0, none⟩)) (w' := W.alloc (.cells #[.int .u64 0, .string ⟨#[]⟩, .int .u64 0, .slice none 0 0] 38)) ?_ ⟨_, rfl, (Below.refl _ _).alloc (Nat.le_refl _) _, _, rfl, heap_alloc_new _ _, hb.size⟩⟩
                go_simp
            case post =>
              intro V W hb hV
              obtain ⟨q8, d8, e10, s8⟩ := show AggV seq prev tx m RI (V 10) W from hV 10 (by omega)
              have e11 : V 11 = .int .i64 0 := hV 11 (by omega)
              obtain ⟨g9, e12, r9, l9⟩ := show NewV wr.heap.size #[.int .u64 0, .string ⟨#[]⟩, .int .u64 0, .slice none 0 0] 38 (V 12) W from hV 12 (by omega)
              clear hV
              simp only [putAll, Nat.reduceLT, Nat.reduceAdd, Nat.reduceEqDiff, if_true, if_false]
              rw [e10, e11, e12]
              simp only [Act.put, List.setIfInBounds_toArray, List.set_cons_zero, List.set_cons_succ]
              have n0 := cell_of_row W _ 0 _ _ _ r9
              have n1 := cell_of_row W _ 1 _ _ _ r9
              have n2 := cell_of_row W _ 2 _ _ _ r9
              have n3 := cell_of_row W _ 3 _ _ _ r9
              have m0 := frozen_of_row W _ 0 _ _ r9
              have m1 := frozen_of_row W _ 1 _ _ r9
              have m2 := frozen_of_row W _ 2 _ _ r9
              have m3 := frozen_of_row W _ 3 _ _ r9
              change wpList _ _ _ [_, _] _ _
              go_upto_region 15 with fail
              obtain ⟨wd, hwd⟩ : ∃ wd, set4 W g9 (.int .u64 (seq : Int)) (.string prev) (.int .u64 (tx : Int)) (.slice q8 m d8) = wd := ⟨_, rfl⟩
              have hwd2 := hwd
              unfold set4 at hwd2
              rw [hwd2]
              clear hwd2
              have rd : wd.heap[g9]? = some (.cells #[.int .u64 (seq : Int), .string prev, .int .u64 (tx : Int), .slice q8 m d8] 38 (0, 0)) := by rw [← hwd]; exact set4_row r9 _ _ _ _
              have bd : Below wr.heap.size wr wd := by rw [← hwd]; exact set4_below hb g9 l9 _ _ _ _
              obtain ⟨qb, qo, rfl, hqb, hqt⟩ := s8.at' (by omega)
              have hq8 := hqt i hlt
              rw [hI3] at hq8
              have hqg : qb ≠ g9 := by
                rintro rfl
                have hz := hq8.c7
                rw [cell_of_row W _ _ _ _ _ r9] at hz
                have := (Array.getElem?_eq_some_iff.1 hz).1
                simp at this
                omega
              have hd8 : At8 wd qb (qo + i * 8) ⟨op, t, f, dd, v, h, bo, false⟩ := by rw [← hwd]; exact hq8.kept (set4_block W g9 _ _ _ _ qb hqg)
              have hp8 := h8.kept (bd.block pb hpb)
              have hxd := cell_later4 bd hxr
              have hcd := s8.cap
              clear hwd hq8 hqt n0 n1 n2 n3 m0 m1 m2 m3 r9 e10 e11 e12 s8
              have y3 := cell_of_row wd _ 3 _ _ _ rd
              have x3 := cell_of_row wd _ 3 _ _ _ hxd
              have y10a := hd8.c0
              have y11a := hd8.c1
              have y12a := hd8.c2
              have y13a := hd8.c3
              have y14a := hd8.c4
              have y15a := hd8.c5
              have y16a := hd8.c6
              have y17a := hd8.c7
              have x10a := hp8.c0
              have x11a := hp8.c1
              have x12a := hp8.c2
              have x13a := hp8.c3
              have x14a := hp8.c4
              have x15a := hp8.c5
              have x16a := hp8.c6
              have x17a := hp8.c7
              simp only at y10a x10a y11a x11a y12a x12a y13a x13a y14a x14a y15a x15a y16a x16a y17a x17a
              go_quiet (fail)
              go_wp2
              go_roundw
              case rel => exact ⟨i + 1, hlt, by simp, below_drewN (hbr.trans (bd.mono hbr.size)) _⟩
              case measure => simp [intOf]; omega
            case post2 =>
              intro V W hb hV hVf
              obtain ⟨q8, d8, e10, s8⟩ := show AggV seq prev tx m RI (V 10) W from hV 10 (by omega) (by omega)
              obtain ⟨q9, d9, e9, s9⟩ := show TupV seq prev tx m RI (V 9) W from hV 9 (by omega) (by omega)
              obtain ⟨g9, e12, r9, l9⟩ := show NewV wr.heap.size #[.int .u64 0, .string ⟨#[]⟩, .int .u64 0, .slice none 0 0] 38 (V 12) W from hV 12 (by omega) (by omega)
              clear hV hVf
              simp only [putAll, Nat.reduceLT, Nat.reduceAdd, Nat.reduceEqDiff, if_true, if_false]
              rw [e9, e10, e12]
              simp only [Act.put, List.setIfInBounds_toArray, List.set_cons_zero, List.set_cons_succ]
              have n0 := cell_of_row W _ 0 _ _ _ r9
              have n1 := cell_of_row W _ 1 _ _ _ r9
              have n2 := cell_of_row W _ 2 _ _ _ r9
              have n3 := cell_of_row W _ 3 _ _ _ r9
              have m0 := frozen_of_row W _ 0 _ _ r9
              have m1 := frozen_of_row W _ 1 _ _ r9
              have m2 := frozen_of_row W _ 2 _ _ r9
              have m3 := frozen_of_row W _ 3 _ _ r9
              refine wpOps_of_list [13, 11, 14] [_, _, _] rfl _ _ ?_
              go_upto_region 15 with fail
              obtain ⟨wd, hwd⟩ : ∃ wd, set4 W g9 (.int .u64 (seq : Int)) (.string prev) (.int .u64 (tx : Int)) (.slice q8 m d8) = wd := ⟨_, rfl⟩
              have hwd2 := hwd
              unfold set4 at hwd2
              rw [hwd2]
              clear hwd2
              have rd : wd.heap[g9]? = some (.cells #[.int .u64 (seq : Int), .string prev, .int .u64 (tx : Int), .slice q8 m d8] 38 (0, 0)) := by rw [← hwd]; exact set4_row r9 _ _ _ _
              have bd : Below wr.heap.size wr wd := by rw [← hwd]; exact set4_below hb g9 l9 _ _ _ _
              obtain ⟨qb, qo, rfl, hqb, hqt⟩ := s8.at' (by omega)
              have hq8 := hqt i hlt
              rw [hI3] at hq8
              have hqg : qb ≠ g9 := by
                rintro rfl
                have hz := hq8.c7
                rw [cell_of_row W _ _ _ _ _ r9] at hz
                have := (Array.getElem?_eq_some_iff.1 hz).1
                simp at this
                omega
              have hd8 : At8 wd qb (qo + i * 8) ⟨op, t, f, dd, v, h, bo, false⟩ := by rw [← hwd]; exact hq8.kept (set4_block W g9 _ _ _ _ qb hqg)
              have hp8 := h8.kept (bd.block pb hpb)
              have hxd := cell_later4 bd hxr
              have hcd := s8.cap
              clear hwd hq8 hqt n0 n1 n2 n3 m0 m1 m2 m3 r9 e9 e10 e12 s8 s9
              have y3 := cell_of_row wd _ 3 _ _ _ rd
              have x3 := cell_of_row wd _ 3 _ _ _ hxd
              have y10a := hd8.c0
              have y11a := hd8.c1
              have y12a := hd8.c2
              have y13a := hd8.c3
              have y14a := hd8.c4
              have y15a := hd8.c5
              have y16a := hd8.c6
              have y17a := hd8.c7
              have x10a := hp8.c0
              have x11a := hp8.c1
              have x12a := hp8.c2
              have x13a := hp8.c3
              have x14a := hp8.c4
              have x15a := hp8.c5
              have x16a := hp8.c6
              have x17a := hp8.c7
              simp only at y10a x10a y11a x11a y12a x12a y13a x13a y14a x14a y15a x15a y16a x16a y17a x17a
              go_quiet (fail)
              go_wp2
              go_roundw
              case rel => exact ⟨i + 1, hlt, by simp, below_drewN (hbr.trans (bd.mono hbr.size)) _⟩
              case measure => simp [intOf]; omega
      · obtain rfl : i = m := by omega
        go_wp2
        go_ret
        exact ⟨rfl, hbR⟩
end Go.Proofs.YtaocbkloafhmeaaDoor
