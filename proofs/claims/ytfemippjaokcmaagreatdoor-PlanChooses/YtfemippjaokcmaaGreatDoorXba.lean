/- said of any part. plan.each over expressions: what a function makes of each, a plan each. slices.Contains and slices.Clone of texts at this program: the library's own contracts, laid by its command in plain words. Which plans serve (plan.serves, the closure of Choose); the first of them (slices.IndexFunc). Spans that are in two (keys.Meet), all keys (keys.All). plan.Choose: of any expression and any names of indexes. The laws' said: its end: no point in the field; a field and a literal. -/
import Derived.Test.YtfemippjaokcmaaGreatDoorXaz
import Derived.Shelf.Slices.Turned
import Derived.Shelf.Slices.Clone
import Derived.Test.YtfemippjaokcmaaGreatDoorProg
import Derived.Test.YtfemippjaokcmaaGreatDoorXas
import Derived.Test.YtfemippjaokcmaaGreatDoorXay
import Derived.Test.YtfemippjaokcmaaGreatDoorXax
namespace Go.Proofs.YtfemippjaokcmaaGreatDoor
open Go.RowKit Go.Shelf
attribute [local go_sem] Oper.semAt_some fw0 fw1 fw2
/- Whatever a part is. -/
theorem said_any {w : World} {S : Nat → Prop} {d : Nat} {t : Et} {R : XR} (hx : LiesE w S d t (rowX R)) (hg : V.Gm w)
    (hl : ∀ i, i < 2 → (t []).n = 2 → (t.sub i []).k = 1 → LitOk (t.sub i []) ∧ -9223372036854775808 ≤ (t.sub i []).vn ∧ (t.sub i []).vn < 9223372036854775808) : Calls Tryz.prog 27 #[rowX R] w (GivesP3 w (saidE t)) := by
  obtain ⟨h1, h2, -, -, -, -, h7⟩ := hx.tops
  by_cases h : (t []).k = 6 ∧ (t []).n = 2
  · obtain ⟨g, o, R0, R1, d', p1, p2, p3, p4, p5, p6, p7⟩ := hx.pair h.2
    obtain ⟨a1, a2, a3, a4, a5, a6, -⟩ := p6.tops
    obtain ⟨c1, c2, c3, c4, c5, c6, -⟩ := p7.tops
    have l0 := hl 0 (by omega) h.2
    have l1 := hl 1 (by omega) h.2
    have e : saidE t = (if (t.sub 0 []).k = 1 then saidC (turnB (t []).s) (t.sub 1 []) (t.sub 0 []) else saidC (t []).s (t.sub 0 []) (t.sub 1 [])) := by
      unfold saidE saidF
      rw [if_pos h]
    rw [e]
    obtain ⟨k2, s2, vk2, vb2, vn2, vs2, kp2, n2, kc2, np2, m2, nc2⟩ := R
    obtain ⟨k0, s0, vk0, vb0, vn0, vs0, kp0, n0, kc0, np0, m0, nc0⟩ := R0
    obtain ⟨k1, s1, vk1, vb1, vn1, vs1, kp1, n1, kc1, np1, m1, nc1⟩ := R1
    simp only at h1 h2 h7 p1 p3 a1 a2 a3 a4 a5 a6 c1 c2 c3 c4 c5 c6
    obtain rfl : k2 = 6 := by rw [h1, h.1]; rfl
    obtain rfl : n2 = 2 := by rw [h7, h.2]
    subst p1
    have side : ∀ (sg : ByteArray) (f l : En) (kf : Int) (sf : ByteArray) (vkf : Int) (vbf : Bool) (vnf : Int) (vsf : ByteArray) (kpf : Option Addr) (nf kcf : Nat) (npf : Option Addr) (mf ncf : Nat) (kl : Int) (sl : ByteArray) (vkl : Int) (vbl : Bool) (vnl : Int) (vsl : ByteArray) (kpl : Option Addr) (nl kcl : Nat) (npl : Option Addr) (ml ncl : Nat) (W2 : World) (b2 b3 b5 : Nat) (y0 y1 y6 y7 y8 y9 y10 y11 y12 y13 y14 y15 y16 y17 y18 y19 y20 y21 y22 y23 y24 y25 y26 y27 y28 y29 y30 y31 y32 y33 y34 y35 y36 y37 y38 y39 y40 y41 y42 y43 y44 y45 y46 y47 y48 y49 y50 y51 y52 y53 y54 y55 y56 y57 : Value) (cc : Code),
        kf = (f.k : Int) → sf = f.s → kl = (l.k : Int) → vkl = (l.vk : Int) → vbl = l.vb → vnl = l.vn → vsl = l.vs → (l.k = 1 → LitOk l ∧ -9223372036854775808 ≤ l.vn ∧ l.vn < 9223372036854775808) →
        SaW w W2 b2 b3 b5 #[.int .i64 kf, .string sf, .int .i64 vkf, .bool vbf, .int .i64 vnf, .string vsf, .slice none 0 0, .slice none 0 0, .slice kpf nf kcf, .slice npf mf ncf] #[.int .i64 kl, .string sl, .int .i64 vkl, .bool vbl, .int .i64 vnl, .string vsl, .slice none 0 0, .slice none 0 0, .slice kpl nl kcl, .slice npl ml ncl] →
        cutSe (cutSd Tryz.f27.body) = some cc → Code.wp Tryz.prog cc (bodyPost Tryz.prog Tryz.f27 (GivesP3 w (saidC sg f l))) ⟨List.toArray (y0 :: y1 :: .pointer (some ⟨b2, 0, none⟩) :: .pointer (some ⟨b3, 0, none⟩) :: .string sg :: .pointer (some ⟨b5, 0, none⟩) :: y6 :: y7 :: y8 :: y9 :: y10 :: y11 :: y12 :: y13 :: y14 :: y15 :: y16 :: y17 :: y18 :: y19 :: y20 :: y21 :: y22 :: y23 :: y24 :: y25 :: y26 :: y27 :: y28 :: y29 :: y30 :: y31 :: y32 :: y33 :: y34 :: y35 :: y36 :: y37 :: y38 :: y39 :: y40 :: y41 :: y42 :: y43 :: y44 :: y45 :: y46 :: y47 :: y48 :: y49 :: y50 :: y51 :: y52 :: y53 :: y54 :: y55 :: y56 :: y57 :: []), []⟩ W2 := by
      intro sg f l kf sf vkf vbf vnf vsf kpf nf kcf npf mf ncf kl sl vkl vbl vnl vsl kpl nl kcl npl ml ncl W2 b2 b3 b5 y0 y1 y6 y7 y8 y9 y10 y11 y12 y13 y14 y15 y16 y17 y18 y19 y20 y21 y22 y23 y24 y25 y26 y27 y28 y29 y30 y31 y32 y33 y34 y35 y36 y37 y38 y39 y40 y41 y42 y43 y44 y45 y46 y47 y48 y49 y50 y51 y52 y53 y54 y55 y56 y57 cc e1 e2 e3 e4 e5 e6 e7 hll hM hcc
      unfold saidC
      by_cases hf : f.k = 2
      · by_cases hk : l.k = 1
        · rw [if_pos ⟨hf, hk⟩]
          obtain ⟨q1, q2⟩ := hll hk
          have ho := lit_of q1 q2 W2 (hg.later hM.bel hg.pos)
          subst e2 e4 e5 e6 e7
          have hsz : (litK l).size ≤ maxLen := by
            have := litK_len q1
            unfold litK
            show (V.keyT (V.leafT (l.vk : Int) l.vb l.vn l.vs)).toArray.size ≤ maxLen
            rw [List.size_toArray]
            unfold maxLen
            omega
          exact said_spn sg kf f.s vkf vbf vnf vsf kpf nf kcf npf mf ncf kl sl (l.vk : Int) l.vb l.vn l.vs kpl nl kcl npl ml ncl (by rw [e1, hf]; rfl) (by rw [e3, hk]; rfl) hsz ho hM y0 y1 y6 y7 y8 y9 y10 y11 y12 y13 y14 y15 y16 y17 y18 y19 y20 y21 y22 y23 y24 y25 y26 y27 y28 y29 y30 y31 y32 y33 y34 y35 y36 y37 y38 y39 y40 y41 y42 y43 y44 y45 y46 y47 y48 y49 y50 y51 y52 y53 y54 y55 y56 y57 cc hcc
        · rw [if_neg (fun hh => hk hh.2)]
          exact said_nol sg kf sf vkf vbf vnf vsf kpf nf kcf npf mf ncf kl sl vkl vbl vnl vsl kpl nl kcl npl ml ncl (by rw [e1, hf]; rfl) (by rw [e3]; simp; omega) hM y0 y1 y6 y7 y8 y9 y10 y11 y12 y13 y14 y15 y16 y17 y18 y19 y20 y21 y22 y23 y24 y25 y26 y27 y28 y29 y30 y31 y32 y33 y34 y35 y36 y37 y38 y39 y40 y41 y42 y43 y44 y45 y46 y47 y48 y49 y50 y51 y52 y53 y54 y55 y56 y57 cc hcc
      · rw [if_neg (fun hh => hf hh.1)]
        exact said_nof sg kf sf vkf vbf vnf vsf kpf nf kcf npf mf ncf kl sl vkl vbl vnl vsl kpl nl kcl npl ml ncl (by rw [e1]; simp; omega) hM y0 y1 y6 y7 y8 y9 y10 y11 y12 y13 y14 y15 y16 y17 y18 y19 y20 y21 y22 y23 y24 y25 y26 y27 y28 y29 y30 y31 y32 y33 y34 y35 y36 y37 y38 y39 y40 y41 y42 y43 y44 y45 y46 y47 y48 y49 y50 y51 y52 y53 y54 y55 y56 y57 cc hcc
    unfold rowX
    refine said_front s2 vk2 vb2 vn2 vs2 g o kc2 np2 m2 nc2 k0 s0 vk0 vb0 vn0 vs0 kp0 n0 kc0 np0 m0 nc0 k1 s1 vk1 vb1 vn1 vs1 kp1 n1 kc1 np1 m1 nc1 p2 p3 p4 p5 _ ?_
    intro W2 b2 b3 b5 y0 y1 y6 y7 y8 y9 y10 y11 y12 y13 y14 y15 y16 y17 y18 y19 y20 y21 y22 y23 y24 y25 y26 y27 y28 y29 y30 y31 y32 y33 y34 y35 y36 y37 y38 y39 y40 y41 y42 y43 y44 y45 y46 y47 y48 y49 y50 y51 y52 y53 y54 y55 y56 y57 cc hb2 hM hne hcc
    by_cases hf : (t.sub 0 []).k = 1
    · rw [if_pos hf]
      refine said_swap s2 k0 s0 vk0 vb0 vn0 vs0 kp0 n0 kc0 np0 m0 nc0 k1 s1 vk1 vb1 vn1 vs1 kp1 n1 kc1 np1 m1 nc1 (by rw [a1, hf]; rfl) hM hne _ ?_ y0 y1 y6 y7 y8 y9 y10 y11 y12 y13 y14 y15 y16 y17 y18 y19 y20 y21 y22 y23 y24 y25 y26 y27 y28 y29 y30 y31 y32 y33 y34 y35 y36 y37 y38 y39 y40 y41 y42 y43 y44 y45 y46 y47 y48 y49 y50 y51 y52 y53 y54 y55 y56 y57 cc hcc
      intro W3 y0 y1 y6 y7 y8 y9 y10 y11 y12 y13 y14 y15 y16 y17 y18 y19 y20 y21 y22 y23 y24 y25 y26 y27 y28 y29 y30 y31 y32 y33 y34 y35 y36 y37 y38 y39 y40 y41 y42 y43 y44 y45 y46 y47 y48 y49 y50 y51 y52 y53 y54 y55 y56 y57 cc hM3 hcc3
      rw [← h2]
      exact side (turnB s2) (t.sub 1 []) (t.sub 0 []) k1 s1 vk1 vb1 vn1 vs1 kp1 n1 kc1 np1 m1 nc1 1 s0 vk0 vb0 vn0 vs0 kp0 n0 kc0 np0 m0 nc0 W3 b2 b3 b5 y0 y1 y6 y7 y8 y9 y10 y11 y12 y13 y14 y15 y16 y17 y18 y19 y20 y21 y22 y23 y24 y25 y26 y27 y28 y29 y30 y31 y32 y33 y34 y35 y36 y37 y38 y39 y40 y41 y42 y43 y44 y45 y46 y47 y48 y49 y50 y51 y52 y53 y54 y55 y56 y57 cc c1 c2 (by rw [hf]; rfl) a3 a4 a5 a6 l0 hM3 hcc3
    · rw [if_neg hf]
      refine said_stay s2 k0 s0 vk0 vb0 vn0 vs0 kp0 n0 kc0 np0 m0 nc0 k1 s1 vk1 vb1 vn1 vs1 kp1 n1 kc1 np1 m1 nc1 (by rw [a1]; simp; omega) hM hne _ ?_ y0 y1 y6 y7 y8 y9 y10 y11 y12 y13 y14 y15 y16 y17 y18 y19 y20 y21 y22 y23 y24 y25 y26 y27 y28 y29 y30 y31 y32 y33 y34 y35 y36 y37 y38 y39 y40 y41 y42 y43 y44 y45 y46 y47 y48 y49 y50 y51 y52 y53 y54 y55 y56 y57 cc hcc
      intro W3 y0 y1 y6 y7 y8 y9 y10 y11 y12 y13 y14 y15 y16 y17 y18 y19 y20 y21 y22 y23 y24 y25 y26 y27 y28 y29 y30 y31 y32 y33 y34 y35 y36 y37 y38 y39 y40 y41 y42 y43 y44 y45 y46 y47 y48 y49 y50 y51 y52 y53 y54 y55 y56 y57 cc hM3 hcc3
      rw [← h2]
      exact side s2 (t.sub 0 []) (t.sub 1 []) k0 s0 vk0 vb0 vn0 vs0 kp0 n0 kc0 np0 m0 nc0 k1 s1 vk1 vb1 vn1 vs1 kp1 n1 kc1 np1 m1 nc1 W3 b2 b3 b5 y0 y1 y6 y7 y8 y9 y10 y11 y12 y13 y14 y15 y16 y17 y18 y19 y20 y21 y22 y23 y24 y25 y26 y27 y28 y29 y30 y31 y32 y33 y34 y35 y36 y37 y38 y39 y40 y41 y42 y43 y44 y45 y46 y47 y48 y49 y50 y51 y52 y53 y54 y55 y56 y57 cc a1 a2 c1 c3 c4 c5 c6 l1 hM3 hcc3
  · have e : saidE t = noP := by
      unfold saidE saidF
      rw [if_neg h]
    rw [e]
    obtain ⟨k2, s2, vk2, vb2, vn2, vs2, kp2, n2, kc2, np2, m2, nc2⟩ := R
    have e1 : k2 = ((t []).k : Int) := h1
    have e2 : n2 = (t []).n := h7
    exact said_none (fun hh => h ⟨by have := hh.1; omega, by have := hh.2; omega⟩)
end Go.Proofs.YtfemippjaokcmaaGreatDoor
namespace Go.Proofs.YtfemippjaokcmaaGreatDoor
open Go.RowKit Go.Shelf
attribute [local go_sem] Oper.semAt_some fw0 fw1 fw2
abbrev P3 := ByteArray × ByteArray × ByteArray
/- A plan in memory: three texts. -/
def EPl (_ : World) (_ : Nat → Prop) (p : P3) (c : List Value) : Prop := c = [.string p.1, .string p.2.1, .string p.2.2]
theorem ePl : Elem EPl 3 := ⟨fun h _ => h, fun _ h => h, fun h => by rw [show _ = _ from h]; rfl, fun h u hu => by rw [show _ = _ from h] at hu; simp at hu; rcases hu with rfl | rfl | rfl <;> rfl⟩
theorem info35c : (Tryz.prog.info? 35).map (fun i => (i.zero, i.size, i.bytes)) = some (some (.agg #[.string ⟨#[]⟩, .string ⟨#[]⟩, .string ⟨#[]⟩]), 3, 48) := by kernel_rfl
theorem epl_any (W W' : World) (S S' : Nat → Prop) : ∀ (m : List P3) (L : List Value), Els EPl W S m L → Els EPl W' S' m L
  | [], _, h => h
  | _ :: m, _, ⟨c, r, h1, h2, h3⟩ => ⟨c, r, h1, h2, epl_any W W' S S' m r h3⟩
theorem own_lat {w w' : World} {base T z n : Nat} {v : Value} {L : List Value} (h : w.ownsRow base T z v n L) (hb : Below w.heap.size w w') : w'.ownsRow base T z v n L := by
  refine ⟨h.1, ?_⟩
  rcases h.2 with hn | ⟨g, cap, cur, hv, hg, hr, rest⟩
  · exact .inl hn
  · exact .inr ⟨g, cap, cur, hv, hg, (hb.block g (lt_of_row hr)).trans hr, rest⟩
theorem below_grown {w W W3 : World} {v : Value} (hb : Below w.heap.size w W) (hg : W.grownBy W3 v.ownBlock) (hu : ∀ k, v.ownBlock = some k → w.heap.size ≤ k) : Below w.heap.size w W3 :=
  ⟨hg.os.trans hb.os, hg.tape.trans hb.tape, hg.output.trans hb.output, Nat.le_trans hb.size hg.size, fun k hk => (hg.block k (Nat.lt_of_lt_of_le hk hb.size) (fun e => by have := hu k e.symm; omega)).trans (hb.block k hk)⟩
def GivesL (W : World) (m : List P3) (e : Ending) (W' : World) : Prop := ∃ u, e = .returned u ∧ Ow EPl 35 3 W.heap.size W' u m ∧ Below W.heap.size W W'
/- An element of a list of one's own, as ten cells. -/
theorem ow_at {base : Nat} {W : World} {v : Value} {l : List Et} (h : Ow EExp 28 10 base W v l) {i : Nat} {x : Et} (hi : l[i]? = some x) :
    ∃ g c R d, v = .slice (some ⟨g, 0, none⟩) l.length c ∧ l.length ≤ c ∧ c ≤ maxLen ∧ base ≤ g ∧ g < W.heap.size ∧ (∀ j, j < 10 → W.cell? ⟨g, i * 10 + j, none⟩ = (arrX R)[j]?) ∧ LiesE W (fun k => k < base) d x (rowX R) := by
  obtain ⟨L, hown, hels⟩ := h.own
  rcases hown.2 with ⟨_, hn⟩ | ⟨g, cap, cur, hv, hg, hr, h1, h2, h3, h4⟩
  · have := (List.getElem?_eq_some_iff.1 hi).1
    omega
  · obtain ⟨c, hc, hk⟩ := Els.at eExp hels i x hi
    obtain ⟨d, hd⟩ := hc
    obtain ⟨R, eR⟩ := hd.row
    rw [eR] at hd
    unfold rowX at eR
    injection eR with eR
    have eR' : c = (arrX R).toList := congrArg Array.toList eR
    refine ⟨g, cap, R, d, hv, h1, h2, hg, lt_of_row hr, fun j hj => ?_, hd⟩
    have hz : (arrX R).size = 10 := rfl
    obtain ⟨u, hu⟩ : ∃ u, (arrX R)[j]? = some u := ⟨_, Array.getElem?_eq_getElem (by omega)⟩
    have e := hk j u (by rw [eR', Array.getElem?_toList]; exact hu)
    rw [← h4, List.getElem?_take] at e
    rw [cell_of_row W g (i * 10 + j) cur _ _ hr, hu]
    split at e
    · simpa using e
    · cases e
set_option maxRecDepth 100000 in
set_option maxHeartbeats 8000000 in
theorem each_any {base : Nat} {W : World} {v : Value} {l : List Et} (h : Ow EExp 28 10 base W v l) (hl : l.length ≤ 100000) (F : Et → P3)
    (kf : ∀ x d R W', x ∈ l → Below W.heap.size W W' → LiesE W' (fun k => k < base) d x (rowX R) → Calls Tryz.prog 27 #[rowX R] W' (GivesP3 W' (F x))) :
    Calls Tryz.prog 25 #[v, .func (.func 27) #[] #[]] W (GivesL W (l.map F)) := by
  obtain ⟨L, hown, hels⟩ := h.own
  obtain ⟨q, kq, rfl⟩ := own_len hown
  obtain ⟨i0, hi, hz0, hz1, hz2⟩ := info_parts info35c
  obtain ⟨n, hn⟩ : ∃ n, l.length = n := ⟨_, rfl⟩
  rw [hn]
  have HN := mkHid hn
  have HO := mkHid h
  have HK := mkHid kf
  have hn1 : n ≤ 100000 := by omega
  clear hn h hown hels kf hl
  go_enter Tryz.func25, Tryz.ntmps25
  go_wp2_with fail
  go_loopw [5, 10] (fun c5 c10 wr => ∃ i : Nat, i ≤ n ∧ c10 = .int .i64 (i : Int) ∧ Hid (Ow EPl 35 3 W.heap.size wr c5 ((l.take i).map F) ∧ Below W.heap.size W wr)) (fun _ c10 _ => n - (intOf c10).toNat)
  case atStart =>
    refine ⟨0, Nat.zero_le _, rfl, ?_⟩
    have hh : Ow EPl 35 3 W.heap.size W (.slice none 0 0) ((l.take 0).map F) ∧ Below W.heap.size W W := ⟨Ow.start _ _ _ _ _, Below.refl _ _⟩
    exact hh
  case round =>
    obtain ⟨i, hi0, rfl, hh⟩ := hrel
    obtain ⟨ho5, hb⟩ := hh.out
    obtain ⟨L5, hown5, hels5⟩ := ho5.own
    obtain ⟨q5, k5, rfl⟩ := own_len hown5
    have hlt : ((l.take i).map F).length = i := by rw [List.length_map, List.length_take]; have := HN.out; omega
    rw [hlt] at hown5 ⊢
    by_cases hin : i < n
    · have hil : i < l.length := by rw [HN.out]; exact hin
      obtain ⟨x, hx⟩ : ∃ x, l[i]? = some x := ⟨_, List.getElem?_eq_getElem hil⟩
      obtain ⟨g, c, R, d, hv, hlc, hcm, hbg, hgl, hcs, hLx⟩ := ow_at HO.out hx
      rw [HN.out] at hv hlc
      injection hv with e1 _ e3
      subst e1 e3
      obtain ⟨k, s, vk, vb, vn, vs, kp, nk, kc, np, nm, nc⟩ := R
      have hin' : (i : Int) < (n : Int) := by omega
      have a0 : wr.cell? ⟨g, i * 10, none⟩ = some (.int .i64 k) := (World.cell?_of_block (a := ⟨g, i * 10, none⟩) (hb.block g hgl)).trans (hcs 0 (by decide))
      have a1 : wr.cell? ⟨g, i * 10 + 1, none⟩ = some (.string s) := (World.cell?_of_block (a := ⟨g, i * 10 + 1, none⟩) (hb.block g hgl)).trans (hcs 1 (by decide))
      have a2 : wr.cell? ⟨g, i * 10 + 2, none⟩ = some (.int .i64 vk) := (World.cell?_of_block (a := ⟨g, i * 10 + 2, none⟩) (hb.block g hgl)).trans (hcs 2 (by decide))
      have a3 : wr.cell? ⟨g, i * 10 + 3, none⟩ = some (.bool vb) := (World.cell?_of_block (a := ⟨g, i * 10 + 3, none⟩) (hb.block g hgl)).trans (hcs 3 (by decide))
      have a4 : wr.cell? ⟨g, i * 10 + 4, none⟩ = some (.int .i64 vn) := (World.cell?_of_block (a := ⟨g, i * 10 + 4, none⟩) (hb.block g hgl)).trans (hcs 4 (by decide))
      have a5 : wr.cell? ⟨g, i * 10 + 5, none⟩ = some (.string vs) := (World.cell?_of_block (a := ⟨g, i * 10 + 5, none⟩) (hb.block g hgl)).trans (hcs 5 (by decide))
      have a6 : wr.cell? ⟨g, i * 10 + 6, none⟩ = some (.slice none 0 0) := (World.cell?_of_block (a := ⟨g, i * 10 + 6, none⟩) (hb.block g hgl)).trans (hcs 6 (by decide))
      have a7 : wr.cell? ⟨g, i * 10 + 7, none⟩ = some (.slice none 0 0) := (World.cell?_of_block (a := ⟨g, i * 10 + 7, none⟩) (hb.block g hgl)).trans (hcs 7 (by decide))
      have a8 : wr.cell? ⟨g, i * 10 + 8, none⟩ = some (.slice kp nk kc) := (World.cell?_of_block (a := ⟨g, i * 10 + 8, none⟩) (hb.block g hgl)).trans (hcs 8 (by decide))
      have a9 : wr.cell? ⟨g, i * 10 + 9, none⟩ = some (.slice np nm nc) := (World.cell?_of_block (a := ⟨g, i * 10 + 9, none⟩) (hb.block g hgl)).trans (hcs 9 (by decide))
      have hmem : x ∈ l := List.mem_of_getElem? hx
      have hst : (l.take (i + 1)).map F = (l.take i).map F ++ [F x] := by rw [List.take_add_one, hx]; simp
      have hsz := hb.size
      obtain ⟨W1, hW1⟩ : ∃ u, wr.alloc (.cells #[.int .i64 k, .string s, .int .i64 vk, .bool vb, .int .i64 vn, .string vs, .slice none 0 0, .slice none 0 0, .slice kp nk kc, .slice np nm nc] 28) = u := ⟨_, rfl⟩
      obtain ⟨r1, bw1⟩ := alloc1 hW1
      have HW1 := mkHid hW1
      have hbA : Below W.heap.size W W1 := hb.trans (bw1.mono hsz)
      have kx := HK.out x d ⟨k, s, vk, vb, vn, vs, kp, nk, kc, np, nm, nc⟩ W1 hmem hbA (hLx.since ⟨hbA.size, fun k hk hl => hbA.block k hl⟩)
      have cx0 := cell_of_row W1 _ 0 _ _ _ r1
      have cx1 := cell_of_row W1 _ 1 _ _ _ r1
      have cx2 := cell_of_row W1 _ 2 _ _ _ r1
      have cx3 := cell_of_row W1 _ 3 _ _ _ r1
      have cx4 := cell_of_row W1 _ 4 _ _ _ r1
      have cx5 := cell_of_row W1 _ 5 _ _ _ r1
      have cx6 := cell_of_row W1 _ 6 _ _ _ r1
      have cx7 := cell_of_row W1 _ 7 _ _ _ r1
      have cx8 := cell_of_row W1 _ 8 _ _ _ r1
      have cx9 := cell_of_row W1 _ 9 _ _ _ r1
      have hown1 : W1.ownsRow W.heap.size 35 3 (.slice q5 i k5) i L5 := by rw [← hW1]; exact hown5.alloc _
      have HH : Hid (Below W.heap.size W W1 ∧ Els EPl wr (fun k => k < W.heap.size) ((l.take i).map F) L5 ∧ (l.take (i + 1)).map F = (l.take i).map F ++ [F x]) := ⟨hbA, hels5, hst⟩
      obtain ⟨P, hP⟩ : ∃ P, F x = P := ⟨_, rfl⟩
      rw [hP] at kx HH
      obtain ⟨p0, p1, p2⟩ := P
      clear hh ho5 hels5 hlt hx hil hlc hcm hbg hcs hLx hmem hst hW1 r1 bw1 hbA hb hown5 hgl hP
      go_wp2_with (first | rw [HW1.out] | fail)
      refine kx.mono ?_
      rintro e W2 ⟨rfl, hb2⟩
      have hown2 : W2.ownsRow W.heap.size 35 3 (.slice q5 i k5) i L5 := own_lat hown1 hb2
      have H2 : Hid (Below W.heap.size W W2 ∧ Below W1.heap.size W1 W2) := ⟨HH.out.1.trans (hb2.mono HH.out.1.size), hb2⟩
      have hz2w : W.heap.size ≤ W2.heap.size := H2.out.1.size
      clear kx hown1 hb2 a0 cx0 a1 cx1 a2 cx2 a3 cx3 a4 cx4 a5 cx5 a6 cx6 a7 cx7 a8 cx8 a9 cx9
      go_wp2_with (first | (at_builtin; refine wpList_append_own_at _ rfl _ _ 67 rfl W.heap.size 35 i0 (.agg #[.string ⟨#[]⟩, .string ⟨#[]⟩, .string ⟨#[]⟩]) 3 48 Tryz.underlying67 hi hz0 hz1 hz2 rfl (by decide) _ _ _ rfl (hown2.alloc _) ⟨W2.heap.size, 0, none⟩ 1 1 [.string p0, .string p1, .string p2] rfl rfl ?c1 ?c2 ?c3 ?c4 ?c5 ?_) | fail)
      case c1 => exact World.news_of_block (heap_alloc_new W2 _)
      case c2 => intro u hu; simp at hu; rcases hu with rfl | rfl | rfl <;> rfl
      case c3 => unfold maxLen; omega
      case c4 => omega
      case c5 => simp; omega
      intro v' w5 hown5 hgr5 _ hat5
      obtain ⟨q6, k6, rfl⟩ := own_len hown5
      have HF : Hid (Ow EPl 35 3 W.heap.size w5 (.slice q6 (i + 1) k6) ((l.take (i + 1)).map F) ∧ Below W.heap.size W w5) := by
        have hbA : Below W2.heap.size W2 (W2.alloc (.cells #[.string p0, .string p1, .string p2] 35)) := (Below.refl _ W2).alloc (Nat.le_refl _) _
        have hbW := H2.out.1.trans (hbA.mono H2.out.1.size)
        refine ⟨⟨L5 ++ [.string p0, .string p1, .string p2], ?_, ?_⟩, ?_⟩
        · rw [HH.out.2.2, List.length_append, List.length_map, List.length_take, HN.out, Nat.min_eq_left hi0]
          exact hown5
        · rw [HH.out.2.2]
          exact epl_any _ _ _ _ _ _ (Els.app (show EPl w5 (fun k => k < W.heap.size) (p0, p1, p2) _ from rfl) (epl_any _ _ _ _ _ _ HH.out.2.1))
        · exact below_grown hbW hgr5 (fun k hk => (hown2.lt k hk).1)
      clear hown2 hown5 hgr5 hat5
      go_wp2
      go_roundw
      case rel => exact ⟨i + 1, by omega, by go_num, HF⟩
      case measure => simp [intOf]; omega
    · obtain rfl : i = n := by omega
      have HF : Hid (Ow EPl 35 3 W.heap.size wr (.slice q5 i k5) (l.map F) ∧ Below W.heap.size W wr) := by
        rw [hlt] at ho5
        rw [← HN.out, List.take_length] at ho5
        exact ⟨by rw [← HN.out]; exact ho5, hb⟩
      clear hh ho5 hels5 hown5 hb HN
      go_wp2
      go_ret
      exact ⟨_, rfl, HF.out.1, HF.out.2⟩
end Go.Proofs.YtfemippjaokcmaaGreatDoor
namespace Go.Proofs
open Go.Shelf
def Tryz.lays110_ren : Go.Shelf.Ren := ⟨fun | 110 => 58 | 109 => 89 | n => n, fun | 31 => 22 | 9 => 9 | 4 => 4 | 3 => 3 | 0 => 0 | n => n, fun | n => n⟩
theorem Tryz.lays110 : Go.Proofs.Lays.n110 Tryz.prog Tryz.lays110_ren := {
  mixed := by kernel_rfl
  f109 := Tryz.func89.trans (congrArg some (by kernel_rfl))
  f110 := Tryz.func58.trans (congrArg some (by kernel_rfl))
  t0 := Tryz.underlying0
  a0 := Tryz.isAgg0
  z0 := Tryz.sizeOf0
  v0 := Tryz.zeroValue0
  t3 := Tryz.underlying3
  a3 := Tryz.isAgg3
  z3 := Tryz.sizeOf3
  v3 := Tryz.zeroValue3
  t4 := Tryz.underlying4
  a4 := Tryz.isAgg4
  z4 := Tryz.sizeOf4
  v4 := Tryz.zeroValue4
  t9 := Tryz.underlying9
  a9 := Tryz.isAgg9
  z9 := Tryz.sizeOf9
  v9 := Tryz.zeroValue9
  t31 := Tryz.underlying22
  a31 := Tryz.isAgg22
  z31 := Tryz.sizeOf22
  v31 := Tryz.zeroValue22 }
open Go.Lib in
theorem Tryz.slices_Contains_string (b off n c : Nat) (zs : List ByteArray) (x : ByteArray) (w : World) (hz : n ≤ zs.length) (hbig : n ≤ 9223372036854775807) (hc : ∀ j, j < zs.length → w.cell? ⟨b, off + j, none⟩ = some (.string (zs.getD j ByteArray.empty))) :
    Calls Tryz.prog 58 #[.slice (some ⟨b, off, none⟩) n c, .string x] w fun e w' => e = .returned (.bool (Lib.containsS (zs.take n) x)) ∧ w' = w := Any.slices_Contains_string Tryz.lays110 b off n c zs x w hz hbig hc
open Go.Lib in
theorem Tryz.slices_Contains_string_empty (a : Option Addr) (c : Nat) (x : ByteArray) (w : World) :
    Calls Tryz.prog 58 #[.slice a 0 c, .string x] w fun e w' => e = .returned (.bool false) ∧ w' = w := Any.slices_Contains_string_empty Tryz.lays110 a c x w
def Tryz.laysNm216_ren : Go.Shelf.Ren := ⟨fun | 16 => 61 | n => n, fun | 24 => 22 | 9 => 9 | 4 => 4 | n => n, fun | n => n⟩
theorem Tryz.laysNm216 : Go.Proofs.Lays2.n16 Tryz.prog Tryz.laysNm216_ren := {
  mixed := by kernel_rfl
  f16 := Tryz.func61.trans (congrArg some (by kernel_rfl))
  t4 := Tryz.underlying4
  a4 := Tryz.isAgg4
  z4 := Tryz.sizeOf4
  v4 := Tryz.zeroValue4
  t9 := Tryz.underlying9
  a9 := Tryz.isAgg9
  z9 := Tryz.sizeOf9
  v9 := Tryz.zeroValue9
  t24 := Tryz.underlying22
  a24 := Tryz.isAgg22
  z24 := Tryz.sizeOf22
  v24 := Tryz.zeroValue22
  i9 := by kernel_rfl }
open Go.RowKit Go.Lib in
theorem Tryz.slices_Clone_string (b off n c : Nat) (zs : List ByteArray) (w : World) (hz : n ≤ zs.length) (hbig : n * 16 ≤ 140737488355328) (hc : ∀ j, j < zs.length → w.cell? ⟨b, off + j, none⟩ = some (.string (zs.getD j ByteArray.empty))) :
    Calls Tryz.prog 61 #[.slice (some ⟨b, off, none⟩) n c] w fun e w' => ∃ v', e = .returned v' ∧ w'.ownsRow w.heap.size 9 1 v' n ((zs.take n).map (Value.string)) ∧ v' ≠ .slice none 0 0 ∧ Below w.heap.size w w' := Any.slices_Clone_string Tryz.laysNm216 b off n c zs w hz hbig hc
open Go.RowKit Go.Lib in
theorem Tryz.slices_Clone_string_nil (n c : Nat) (w : World) :
    Calls Tryz.prog 61 #[.slice none n c] w fun e w' => e = .returned (.slice none 0 0) ∧ w' = w := Any.slices_Clone_string_nil Tryz.laysNm216 n c w
open Go.RowKit Go.Lib in
theorem Tryz.slices_Clone_string_zero (a : Addr) (c : Nat) (w : World) :
    Calls Tryz.prog 61 #[.slice (some a) 0 c] w fun e w' => ∃ v', e = .returned v' ∧ w'.ownsRow w.heap.size 9 1 v' 0 [] ∧ v' ≠ .slice none 0 0 ∧ Below w.heap.size w w' := Any.slices_Clone_string_zero Tryz.laysNm216 a c w
end Go.Proofs
namespace Go.Proofs.YtfemippjaokcmaaGreatDoor
open Go.RowKit Go.Shelf
attribute [local go_sem] Oper.semAt_some fw0 fw1 fw2
/- Names that lie somewhere. -/
def Ixs (w : World) (p : Option Addr) (l : List ByteArray) : Prop := l.length ≤ 100000 ∧ (l = [] ∨ ∃ b o, p = some ⟨b, o, none⟩ ∧ b < w.heap.size ∧ ∀ j, j < l.length → w.cell? ⟨b, o + j, none⟩ = some (.string (l.getD j ByteArray.empty)))
theorem Ixs.later {w w' : World} {p : Option Addr} {l : List ByteArray} (h : Ixs w p l) (hb : Below w.heap.size w w') : Ixs w' p l := by
  refine ⟨h.1, ?_⟩
  rcases h.2 with h0 | ⟨b, o, h1, h2, h3⟩
  · exact .inl h0
  · exact .inr ⟨b, o, h1, Nat.lt_of_lt_of_le h2 hb.size, fun j hj => (hb.cell (p := ⟨b, o + j, none⟩) h2).trans (h3 j hj)⟩
def dotB (f : ByteArray) : Bool := decide (0 ≤ Lib.indexByte f.data.toList 46)
def servesB (f : ByteArray) (l : List ByteArray) : Bool := !f.toList.isEmpty && (!dotB f && Lib.containsS l f)
theorem contains_any (p : Option Addr) (c : Nat) (l : List ByteArray) (f : ByteArray) (w : World) (h : Ixs w p l) : Calls Tryz.prog 58 #[.slice p l.length c, .string f] w fun e w' => e = .returned (.bool (Lib.containsS l f)) ∧ w' = w := by
  rcases h.2 with h0 | ⟨b, o, h1, h2, h3⟩
  · subst h0
    exact Tryz.slices_Contains_string_empty p c f w
  · subst h1
    have k := Tryz.slices_Contains_string b o l.length c l f w (Nat.le_refl _) (by have := h.1; omega) h3
    rw [List.take_length] at k
    exact k
set_option maxRecDepth 100000 in
set_option maxHeartbeats 4000000 in
theorem serves_any (p : Option Addr) (c : Nat) (l : List ByteArray) (f : ByteArray) (w : World) (h : Ixs w p l) : Calls Tryz.prog 30 #[.string f, .slice p l.length c] w fun e w' => e = .returned (.bool (servesB f l)) ∧ w' = w := by
  have kc := contains_any p c l f w h
  have kd := Tryz.strings_Contains_one f 46 w
  change Calls Tryz.prog 57 #[.string f, .string ⟨#[46]⟩] w fun e w' => e = .returned (.bool (dotB f)) ∧ w' = w at kd
  unfold servesB
  obtain ⟨n, hn⟩ : ∃ n, l.length = n := ⟨_, rfl⟩
  obtain ⟨C, hC⟩ : ∃ C, Lib.containsS l f = C := ⟨_, rfl⟩
  obtain ⟨D, hD⟩ : ∃ D, dotB f = D := ⟨_, rfl⟩
  obtain ⟨E, hE⟩ : ∃ E, f.toList.isEmpty = E := ⟨_, rfl⟩
  rw [hC] at kc ⊢
  rw [hD] at kd ⊢
  rw [hE]
  rw [hn] at kc ⊢
  have hE2 : (f.toList == []) = E := by rw [← hE]; cases f.toList <;> rfl
  clear hC hD hn h
  cases E with
  | true =>
    clear kc kd
    go_enter Tryz.func30, Tryz.ntmps30
    go_wp2
    go_ret
    exact ⟨rfl, rfl⟩
  | false =>
    cases D with
    | true =>
      clear kc
      go_enter Tryz.func30, Tryz.ntmps30
      go_wp2_with fail
      refine kd.mono ?_
      rintro e w2 ⟨rfl, rfl⟩
      go_wp2
      go_ret
      exact ⟨rfl, rfl⟩
    | false =>
      go_enter Tryz.func30, Tryz.ntmps30
      go_wp2_with fail
      refine kd.mono ?_
      rintro e w2 ⟨rfl, rfl⟩
      go_wp2_with fail
      refine kc.mono ?_
      rintro e w2 ⟨rfl, rfl⟩
      go_wp2
      go_ret
      exact ⟨rfl, rfl⟩
set_option maxRecDepth 100000 in
set_option maxHeartbeats 4000000 in
theorem clo_any (p : Option Addr) (c : Nat) (l : List ByteArray) (a0 a1 a2 : ByteArray) (z : Nat) (w : World) (h : Ixs w p l) (hz : w.heap[z]? = some (.cells #[.slice p l.length c] 22 (0, 0))) :
    Calls Tryz.prog 29 #[.agg #[.string a0, .string a1, .string a2], .pointer (some ⟨z, 0, none⟩)] w fun e w' => e = .returned (.bool (servesB a0 l)) ∧ Below w.heap.size w w' := by
  obtain ⟨w1, hw1⟩ : ∃ u, w.alloc (.cells #[.string a0, .string a1, .string a2] 35) = u := ⟨_, rfl⟩
  obtain ⟨r1, bw1⟩ := alloc1 hw1
  have ks := serves_any p c l a0 w1 (h.later bw1)
  have rz := Below.row bw1 hz
  have HW1 := mkHid hw1
  have HB := mkHid bw1
  obtain ⟨B, hB⟩ : ∃ B, servesB a0 l = B := ⟨_, rfl⟩
  obtain ⟨n, hn⟩ : ∃ n, l.length = n := ⟨_, rfl⟩
  rw [hB] at ks ⊢
  rw [hn] at ks rz
  have c0 := cell_of_row w1 _ 0 _ _ _ r1
  have cz := cell_of_row w1 _ 0 _ _ _ rz
  clear hw1 r1 bw1 hz rz h hB hn
  go_enter Tryz.func29, Tryz.ntmps29
  go_wp2_with (first | rw [HW1.out] | fail)
  refine ks.mono ?_
  rintro e w2 ⟨rfl, rfl⟩
  go_wp2
  go_ret
  exact ⟨rfl, HB.out⟩
def fidxP (p : P3 → Bool) : List P3 → Nat → Int
  | [], _ => -1
  | x :: l, i => if p x = true then (i : Int) else fidxP p l (i + 1)
/- An element of a list of plans, as three cells. -/
theorem pl_at {base : Nat} {W : World} {v : Value} {l : List P3} (h : Ow EPl 35 3 base W v l) {i : Nat} {x : P3} (hi : l[i]? = some x) :
    ∃ g c, v = .slice (some ⟨g, 0, none⟩) l.length c ∧ l.length ≤ c ∧ c ≤ maxLen ∧ base ≤ g ∧ g < W.heap.size ∧ W.cell? ⟨g, i * 3, none⟩ = some (.string x.1) ∧ W.cell? ⟨g, i * 3 + 1, none⟩ = some (.string x.2.1) ∧ W.cell? ⟨g, i * 3 + 2, none⟩ = some (.string x.2.2) := by
  obtain ⟨L, hown, hels⟩ := h.own
  rcases hown.2 with ⟨_, hn⟩ | ⟨g, cap, cur, hv, hg, hr, h1, h2, h3, h4⟩
  · have := (List.getElem?_eq_some_iff.1 hi).1
    omega
  · obtain ⟨c, hc, hk⟩ := Els.at ePl hels i x hi
    have hc' : c = [.string x.1, .string x.2.1, .string x.2.2] := hc
    have f : ∀ j u, c[j]? = some u → W.cell? ⟨g, i * 3 + j, none⟩ = some u := fun j u hu => by
      have e := hk j u hu
      rw [← h4, List.getElem?_take] at e
      rw [cell_of_row W g (i * 3 + j) cur _ _ hr]
      split at e
      · simpa using e
      · cases e
    subst hc'
    exact ⟨g, cap, hv, h1, h2, hg, lt_of_row hr, f 0 _ rfl, f 1 _ rfl, f 2 _ rfl⟩
set_option maxRecDepth 100000 in
set_option maxHeartbeats 4000000 in
theorem idx_plans {base : Nat} {w : World} {v : Value} {l : List P3} (hO : Ow EPl 35 3 base w v l) (hn : l.length ≤ 100000) (p : P3 → Bool) (z : Nat)
    (kf : ∀ r W, r ∈ l → Below w.heap.size w W → Calls Tryz.prog 29 #[.agg #[.string r.1, .string r.2.1, .string r.2.2], .pointer (some ⟨z, 0, none⟩)] W fun e w' => e = .returned (.bool (p r)) ∧ Below W.heap.size W w') :
    Calls Tryz.prog 28 #[v, .func (.func 29) #[] #[.pointer (some ⟨z, 0, none⟩)]] w fun e w' => e = .returned (.int .i64 (fidxP p l 0)) ∧ Below w.heap.size w w' := by
  obtain ⟨L, hown, hels⟩ := hO.own
  obtain ⟨pa, c, rfl⟩ := own_len hown
  have hmax : (l.length : Int) ≤ 9223372036854775807 := by omega
  obtain ⟨V, hV⟩ : ∃ V, fidxP p l 0 = V := ⟨_, rfl⟩
  rw [hV]
  have HV : Hid (fidxP p l 0 = V) := hV
  have HL := mkHid hO
  obtain ⟨n, hnl⟩ : ∃ n, l.length = n := ⟨_, rfl⟩
  have HN : Hid (l.length = n) := hnl
  rw [hnl] at hmax ⊢
  clear hV hO hn hnl hown hels
  go_enter Tryz.func28, Tryz.ntmps28
  go_wp2_with fail
  go_loopw [8] (fun c8 wr => ∃ i : Nat, i ≤ n ∧ c8 = .int .i64 (i : Int) ∧ Hid (fidxP p (l.drop i) i = V ∧ Below w.heap.size w wr)) (fun c8 _ => n - (intOf c8).toNat)
  case atStart =>
    refine ⟨0, by omega, rfl, ?_⟩
    have hh : fidxP p (l.drop 0) 0 = V ∧ Below w.heap.size w w := ⟨HV.out, Below.refl _ _⟩
    exact hh
  case round =>
    obtain ⟨i, hi, rfl, hh⟩ := hrel
    obtain ⟨hv, hb⟩ := hh.out
    by_cases hiq : i < n
    · have hil : i < l.length := by rw [HN.out]; exact hiq
      obtain ⟨r, hr⟩ : ∃ r, l[i]? = some r := ⟨_, List.getElem?_eq_getElem hil⟩
      obtain ⟨g, c2, hv2, hlc, -, -, hlt, b0, b1, b2⟩ := pl_at HL.out hr
      injection hv2 with e1 _ e3
      subst e1 e3
      have a0 := (hb.cell (p := ⟨g, i * 3, none⟩) hlt).trans b0
      have a1 := (hb.cell (p := ⟨g, i * 3 + 1, none⟩) hlt).trans b1
      have a2 := (hb.cell (p := ⟨g, i * 3 + 2, none⟩) hlt).trans b2
      have hiq' : (i : Int) < (n : Int) := by omega
      have hd : l.drop i = r :: l.drop (i + 1) := by
        rw [List.drop_eq_getElem_cons hil]
        congr 1
        exact (List.getElem?_eq_some_iff.1 hr).2
      have kr := kf r wr (List.mem_of_getElem? hr) hb
      have HD : Hid (l.drop i = r :: l.drop (i + 1) ∧ fidxP p (l.drop i) i = V ∧ Below w.heap.size w wr) := ⟨hd, hv, hb⟩
      obtain ⟨hp, hhp⟩ : ∃ hp, p r = hp := ⟨_, rfl⟩
      have HP := mkHid hhp
      rw [hhp] at kr
      obtain ⟨q0, q1, q2⟩ := r
      clear hd hv hb hh hr hil HV kf b0 b1 b2 hhp hlt hlc
      go_wp2_with fail
      refine kr.mono ?_
      rintro e W ⟨rfl, hb2⟩
      have HB : Hid (Below w.heap.size w W) := HD.out.2.2.trans (hb2.mono HD.out.2.2.size)
      clear kr hb2
      cases hp with
      | true =>
        go_wp2
        go_ret
        refine ⟨?_, HB.out⟩
        rw [← HD.out.2.1, HD.out.1]
        unfold fidxP
        rw [if_pos HP.out]
        rfl
      | false =>
        go_wp2
        go_roundw
        case rel =>
          refine ⟨i + 1, by omega, by go_num, ?_⟩
          have hh : fidxP p (l.drop (i + 1)) (i + 1) = V ∧ Below w.heap.size w W := by
            refine ⟨?_, HB.out⟩
            rw [← HD.out.2.1, HD.out.1]
            rw [fidxP, if_neg (by rw [HP.out]; exact Bool.false_ne_true)]
          exact hh
        case measure => simp [intOf]; omega
    · obtain rfl : i = n := by omega
      have hd : l.drop i = [] := by rw [← HN.out]; exact List.drop_length
      have HD : Hid (fidxP p (l.drop i) i = V ∧ l.drop i = [] ∧ Below w.heap.size w wr) := ⟨hv, hd, hb⟩
      clear hd hv hb hh HV
      go_wp2
      go_ret
      refine ⟨?_, HD.out.2.2⟩
      rw [← HD.out.1, HD.out.2.1]
      rfl
end Go.Proofs.YtfemippjaokcmaaGreatDoor
namespace Go.Proofs.YtfemippjaokcmaaGreatDoor.V
open Go.RowKit
set_option maxHeartbeats 1000000 in
theorem all_any (w : World) : Calls Tryz.prog 31 #[] w fun e w' => e = .returned (.agg #[.string ⟨#[]⟩, .string ⟨#[]⟩]) ∧ Below w.heap.size w w' := by
  go_enter Tryz.func31, Tryz.ntmps31
  go_wp2
  exact bodyPost_ret (v := .agg #[.string ⟨#[]⟩, .string ⟨#[]⟩]) (by simp [results, Tryz.results31, go_sem]) rfl ⟨rfl, (Below.refl _ _).alloc (Nat.le_refl _) _⟩
set_option maxRecDepth 20000 in
set_option maxHeartbeats 2000000 in
theorem lower_any (a b : ByteArray) (w : World) (ha : a.size ≤ maxLen) (hb : b.size ≤ maxLen) : Calls Tryz.prog 59 #[.string a, .string b] w fun e w' => e = .returned (.string (lowerB a b)) ∧ w' = w := by
  obtain ⟨X, hX⟩ : ∃ X, lowerB a b = X := ⟨_, rfl⟩
  rw [hX]
  have HX : Hid (lowerB a b = X) := hX
  clear hX
  unfold maxLen at ha hb
  have hmin := fun W => min_str #[9, 9] 9 a b W
  obtain ⟨M, hM⟩ : ∃ M, (if (Op.bytesLess a.toList b.toList || a.toList == b.toList) = true then a else b) = M := ⟨_, rfl⟩
  rw [hM] at hmin
  have HM : Hid ((if (Op.bytesLess a.toList b.toList || a.toList == b.toList) = true then a else b) = M) := hM
  clear hM
  cases hea : a.toList.isEmpty with
  | true =>
    have hz := size_of_empty hea
    have hsum : ¬ 9223372036854775807 < a.size + b.size := by omega
    have hx : lowerB a b = a ++ b := by unfold lowerB; rw [hea]; rfl
    have HY : Hid (X = a ++ b) := HX.out.symm.trans hx
    clear hx hz HM
    go_enter Tryz.func59, Tryz.ntmps59
    go_wp2
    go_ret
    rw [HY.out]
    exact ⟨rfl, rfl⟩
  | false =>
    cases heb : b.toList.isEmpty with
    | true =>
      have hz := size_of_empty heb
      have hsum : ¬ 9223372036854775807 < a.size + b.size := by omega
      have hx : lowerB a b = a ++ b := by unfold lowerB; rw [hea, heb]; rfl
      have HY : Hid (X = a ++ b) := HX.out.symm.trans hx
      clear hx hz HM
      go_enter Tryz.func59, Tryz.ntmps59
      go_wp2
      go_ret
      rw [HY.out]
      exact ⟨rfl, rfl⟩
    | false =>
      have hx : lowerB a b = M := by unfold lowerB; rw [hea, heb, ← HM.out]; rfl
      have HY : Hid (X = M) := HX.out.symm.trans hx
      clear hx HM
      go_enter Tryz.func59, Tryz.ntmps59
      go_wp2
      go_ret
      rw [HY.out]
      exact ⟨rfl, rfl⟩
set_option maxRecDepth 20000 in
set_option maxHeartbeats 4000000 in
theorem meet_any (a0 a1 b0 b1 : ByteArray) (w : World) (ha : a1.size ≤ maxLen) (hb : b1.size ≤ maxLen) : Calls Tryz.prog 32 #[.agg #[.string a0, .string a1], .agg #[.string b0, .string b1]] w fun e w' => e = .returned (.agg #[.string (maxS a0 b0), .string (lowerB a1 b1)]) ∧ Below w.heap.size w w' := by
  have hmax := fun W => max_str #[9, 9] 9 a0 b0 W
  have hlo := fun W => lower_any a1 b1 W ha hb
  unfold maxS
  obtain ⟨M, hM⟩ : ∃ M, (if (!Op.bytesLess a0.toList b0.toList) = true then a0 else b0) = M := ⟨_, rfl⟩
  obtain ⟨L, hL⟩ : ∃ L, lowerB a1 b1 = L := ⟨_, rfl⟩
  rw [hM] at hmax ⊢
  rw [hL] at hlo ⊢
  clear hM hL
  go_enter Tryz.func32, Tryz.ntmps32
  go_wp2_with fail
  have hr0 := fresh_row w #[.string a0, .string a1] 33
  have hr1 := fresh_row (w.alloc (.cells #[.string a0, .string a1] 33)) #[.string b0, .string b1] 33
  have hr2 := fresh_row ((w.alloc (.cells #[.string a0, .string a1] 33)).alloc (.cells #[.string b0, .string b1] 33)) #[.string ⟨#[]⟩, .string ⟨#[]⟩] 33
  have hb : Below w.heap.size w (((w.alloc (.cells #[.string a0, .string a1] 33)).alloc (.cells #[.string b0, .string b1] 33)).alloc (.cells #[.string ⟨#[]⟩, .string ⟨#[]⟩] 33)) := (((Below.refl _ w).alloc (Nat.le_refl _) _).alloc (by simp) _).alloc (by simp; omega) _
  replace hr0 := ((Below.heap_alloc (w.alloc (.cells #[.string a0, .string a1] 33)) (.cells #[.string b0, .string b1] 33) w.heap.size (by simp)).trans hr0)
  replace hr0 := ((Below.heap_alloc ((w.alloc (.cells #[.string a0, .string a1] 33)).alloc (.cells #[.string b0, .string b1] 33)) (.cells #[.string ⟨#[]⟩, .string ⟨#[]⟩] 33) w.heap.size (by simp; omega)).trans hr0)
  replace hr1 := ((Below.heap_alloc ((w.alloc (.cells #[.string a0, .string a1] 33)).alloc (.cells #[.string b0, .string b1] 33)) (.cells #[.string ⟨#[]⟩, .string ⟨#[]⟩] 33) _ (by simp)).trans hr1)
  obtain ⟨W, hW⟩ : ∃ W, (((w.alloc (.cells #[.string a0, .string a1] 33)).alloc (.cells #[.string b0, .string b1] 33)).alloc (.cells #[.string ⟨#[]⟩, .string ⟨#[]⟩] 33)) = W := ⟨_, rfl⟩
  rw [hW] at hr0 hr1 hr2 hb ⊢
  have hs1 : (w.alloc (.cells #[.string a0, .string a1] 33)).heap.size = w.heap.size + 1 := by simp
  have hs2 : ((w.alloc (.cells #[.string a0, .string a1] 33)).alloc (.cells #[.string b0, .string b1] 33)).heap.size = w.heap.size + 1 + 1 := by simp
  rw [hs1] at hr1
  rw [hs2] at hr2
  clear hW hs1 hs2
  have c0 := cell_of_row W _ 0 _ _ _ hr0
  have c1 := cell_of_row W _ 1 _ _ _ hr0
  have d0 := cell_of_row W _ 0 _ _ _ hr1
  have d1 := cell_of_row W _ 1 _ _ _ hr1
  have e0 := cell_of_row W _ 0 _ _ _ hr2
  have e1 := cell_of_row W _ 1 _ _ _ hr2
  have f0 := frozen_of_row W _ 0 _ _ hr2
  have f1 := frozen_of_row W _ 1 _ _ hr2
  refine wp_region_still_tail 11 (by kernel_rfl) (by kernel_rfl) ?_
  simp only [List.take_succ_cons, List.take_zero, List.drop_succ_cons, List.drop_zero]
  still_step
  still_step
  still_step
  still_step
  still_step
  still_step
  still_step
  still_step
  still_step
  still_call (hlo _)
  still_step
  refine wpStill_nil ?_
  go_wp2
  have hrow : ((W.setCell ⟨w.heap.size + 1 + 1, 0, none⟩ (.string M)).setCell ⟨w.heap.size + 1 + 1, 1, none⟩ (.string L)).drew.heap[w.heap.size + 1 + 1]? = some (.cells #[.string M, .string L] 33 (0, 0)) := row_setCell (k := 1) (row_setCell (k := 0) hr2 (.string M)) (.string L)
  have hbf : Below w.heap.size w ((W.setCell ⟨w.heap.size + 1 + 1, 0, none⟩ (.string M)).setCell ⟨w.heap.size + 1 + 1, 1, none⟩ (.string L)).drew := ((hb.setCell (p := ⟨w.heap.size + 1 + 1, 0, none⟩) (by show w.heap.size ≤ w.heap.size + 1 + 1; omega) _).setCell (p := ⟨w.heap.size + 1 + 1, 1, none⟩) (by show w.heap.size ≤ w.heap.size + 1 + 1; omega) _).drew
  obtain ⟨wf, hwf⟩ : ∃ wf, ((W.setCell ⟨w.heap.size + 1 + 1, 0, none⟩ (.string M)).setCell ⟨w.heap.size + 1 + 1, 1, none⟩ (.string L)).drew = wf := ⟨_, rfl⟩
  rw [hwf] at hrow hbf ⊢
  clear hwf
  have o0 := cell_of_row wf _ 0 _ _ _ hrow
  have o1 := cell_of_row wf _ 1 _ _ _ hrow
  exact bodyPost_ret (v := .agg #[.string M, .string L]) (by simp [results, Tryz.results32, go_sem, o0, o1]) rfl ⟨rfl, hbf⟩
end Go.Proofs.YtfemippjaokcmaaGreatDoor.V
namespace Go.Proofs.YtfemippjaokcmaaGreatDoor
open Go.RowKit Go.Shelf
attribute [local go_sem] Oper.semAt_some fw0 fw1 fw2
def meetL (f : ByteArray) : ByteArray × ByteArray → List P3 → ByteArray × ByteArray := List.foldl (fun s p => if (p.1.toList == f.toList) = true then (V.maxS s.1 p.2.1, V.lowerB s.2 p.2.2) else s)
def chooseL (m : List P3) (l : List ByteArray) : P3 := match m.find? (fun p => servesB p.1 l) with
  | none => noP
  | some p => (p.1, meetL p.1 (⟨#[]⟩, ⟨#[]⟩) m)
theorem fidx_find (p : P3 → Bool) : ∀ (l : List P3) (i : Nat), (fidxP p l i = -1 ∧ l.find? p = none) ∨ ∃ k x, fidxP p l i = ((i + k : Nat) : Int) ∧ l[k]? = some x ∧ l.find? p = some x
  | [], _ => .inl ⟨rfl, rfl⟩
  | x :: l, i => by
    unfold fidxP
    by_cases h : p x = true
    · right
      exact ⟨0, x, by rw [if_pos h]; rfl, rfl, by rw [List.find?_cons_of_pos h]⟩
    · rw [if_neg h, List.find?_cons_of_neg h]
      rcases fidx_find p l (i + 1) with ⟨h1, h2⟩ | ⟨k, y, h1, h2, h3⟩
      · exact .inl ⟨h1, h2⟩
      · exact .inr ⟨k + 1, y, by rw [h1]; omega, h2, h3⟩
/- Literals of an expression's parts have keys. -/
def LitsOk (t : Et) : Prop := ∀ i, i < 2 → (t []).n = 2 → (t.sub i []).k = 1 → LitOk (t.sub i []) ∧ -9223372036854775808 ≤ (t.sub i []).vn ∧ (t.sub i []).vn < 9223372036854775808
/- The spans of a list of plans are short. -/
def Short (m : List P3) : Prop := ∀ p ∈ m, p.2.2.size ≤ 20000
theorem lower_len {a b : ByteArray} (ha : a.size ≤ 20000) (hb : b.size ≤ 20000) : (V.lowerB a b).size ≤ 20000 := by
  unfold V.lowerB
  split
  · next h =>
    simp only [Bool.or_eq_true] at h
    rw [ByteArray.size_append]
    rcases h with h | h
    · rw [V.size_of_empty h]; omega
    · rw [V.size_of_empty h]; omega
  · split <;> assumption
theorem meet_len (f : ByteArray) : ∀ (m : List P3) (s : ByteArray × ByteArray), Short m → s.2.size ≤ 20000 → (meetL f s m).2.size ≤ 20000
  | [], _, _, h => h
  | p :: m, s, hm, h => by
    show (meetL f (if (p.1.toList == f.toList) = true then (V.maxS s.1 p.2.1, V.lowerB s.2 p.2.2) else s) m).2.size ≤ 20000
    refine meet_len f m _ (fun q hq => hm q (List.mem_cons_of_mem _ hq)) ?_
    split
    · exact lower_len h (hm p (List.mem_cons_self ..))
    · exact h
theorem meet_snoc (f : ByteArray) (m : List P3) (s : ByteArray × ByteArray) (p : P3) : meetL f s (m ++ [p]) = (if (p.1.toList == f.toList) = true then (V.maxS (meetL f s m).1 p.2.1, V.lowerB (meetL f s m).2 p.2.2) else meetL f s m) := by
  unfold meetL
  rw [List.foldl_append]
  rfl
end Go.Proofs.YtfemippjaokcmaaGreatDoor
namespace Go.Proofs.YtfemippjaokcmaaGreatDoor
open Go.RowKit Go.Shelf
attribute [local go_sem] Oper.semAt_some fw0 fw1 fw2
def five (sg : List UInt8) : Bool := sg == [61] || (sg == [60] || (sg == [60, 61] || (sg == [62] || sg == [62, 61])))
/- What the laws' said answers. -/
def GivesS4 (w : World) (f sg : ByteArray) (vk : Int) (vb : Bool) (vn : Int) (vs : ByteArray) (ok : Bool) (e : Ending) (w' : World) : Prop := e = .returned (.tuple #[.string f, .string sg, .agg #[.int .i64 vk, .bool vb, .int .i64 vn, .string vs, .slice none 0 0, .slice none 0 0], .bool ok]) ∧ Below w.heap.size w w'
structure LsW (w W : World) (b4 b6 b7 : Nat) (r6 r7 : Array Value) : Prop where
  bel : Below w.heap.size w W
  old : w.heap.size ≤ b4
  z : W.heap[b4]? = some (.cells #[.int .i64 0, .bool false, .int .i64 0, .string ⟨#[]⟩, .slice none 0 0, .slice none 0 0] 25 (0, 0))
  a : W.heap[b6]? = some (.cells r6 28 (0, 0))
  b : W.heap[b7]? = some (.cells r7 28 (0, 0))
def noDot (s : ByteArray) : Prop := ∀ c ∈ s.data.toList, c ≠ 46
theorem info25s : (Tryz.prog.info? 25).map (·.size) = some 6 := by kernel_rfl
theorem res33  {W : World} {b4 : Nat} {vk : Int} {vb : Bool} {vn : Int} {vs : ByteArray} (h : W.heap[b4]? = some (.cells #[.int .i64 vk, .bool vb, .int .i64 vn, .string vs, .slice none 0 0, .slice none 0 0] 25 (0, 0))) :
    W.cell? ⟨b4, 0, none⟩ = some (.int .i64 vk) ∧ W.cell? ⟨b4, 1, none⟩ = some (.bool vb) ∧ W.cell? ⟨b4, 2, none⟩ = some (.int .i64 vn) ∧ W.cell? ⟨b4, 3, none⟩ = some (.string vs) ∧ W.cell? ⟨b4, 4, none⟩ = some (.slice none 0 0) ∧ W.cell? ⟨b4, 5, none⟩ = some (.slice none 0 0) :=
  ⟨cell_of_row W _ 0 _ _ _ h, cell_of_row W _ 1 _ _ _ h, cell_of_row W _ 2 _ _ _ h, cell_of_row W _ 3 _ _ _ h, cell_of_row W _ 4 _ _ _ h, cell_of_row W _ 5 _ _ _ h⟩
theorem seq2_of {b : Option Code} {cc c1 c2 cT : Code} (h : b = some cc) (h1 : cutHd b = some c1) (h2 : cutHd (cutSe b) = some c2) (ht : cutSe (cutSe b) = some cT) : cc = .seq c1 (.seq c2 cT) := by
  subst h
  cases cc with
  | seq a d =>
    simp only [cutHd, cutSe, Option.some.injEq] at h1 h2 ht
    subst h1
    cases d with
    | seq a2 d2 =>
      simp only [Option.some.injEq] at h2 ht
      rw [h2, ht]
    | _ => cases ht
  | _ => cases h1
set_option maxRecDepth 100000 in
set_option maxHeartbeats 8000000 in
theorem lsd_last {w W : World} {b4 b6 b7 : Nat} (sg : ByteArray) (ok : Bool) (k0 : Int) (s0 : ByteArray) (vk0 : Int) (vb0 : Bool) (vn0 : Int) (vs0 : ByteArray) (kp0 : Option Addr) (n0 kc0 : Nat) (np0 : Option Addr) (m0 nc0 : Nat) (k1 : Int) (s1 : ByteArray) (vk1 : Int) (vb1 : Bool) (vn1 : Int) (vs1 : ByteArray) (kp1 : Option Addr) (n1 kc1 : Nat) (np1 : Option Addr) (m1 nc1 : Nat) (hM : LsW w W b4 b6 b7 #[.int .i64 k0, .string s0, .int .i64 vk0, .bool vb0, .int .i64 vn0, .string vs0, .slice none 0 0, .slice none 0 0, .slice kp0 n0 kc0, .slice np0 m0 nc0] #[.int .i64 k1, .string s1, .int .i64 vk1, .bool vb1, .int .i64 vn1, .string vs1, .slice none 0 0, .slice none 0 0, .slice kp1 n1 kc1, .slice np1 m1 nc1]) (hne : b4 ≠ b6 ∧ b4 ≠ b7) (y0 y1 y2 y3 y5 y9 y10 y12 y13 y14 y15 y16 y17 y18 y19 y20 y21 y22 y23 y24 y25 y26 y27 y28 y29 y30 y31 y32 y33 y34 y35 y36 y37 y38 y39 y40 y41 y42 y43 y44 y45 y46 y47 y48 y49 y50 y51 y52 y53 y54 y55 y56 y57 y58 y59 y60 y61 y62 y63 y64 y65 y66 y67 y68 y69 y70 y71 y72 y73 y74 y75 y76 y77 y78 y79 y80 y81 y82 y83 y84 y85 y86 y87 y88 y89 y90 y91 y92 y93 : Value) (cc : Code) (hcc : cutSe (cutSe (cutSe (cutSd Tryz.f33.body))) = some cc) (Po : Ending → World → Prop)
    (hok : ∀ W', Below w.heap.size w W' → Po (.returned (.tuple #[.string s0, .string sg, .agg #[.int .i64 vk1, .bool vb1, .int .i64 vn1, .string vs1, .slice none 0 0, .slice none 0 0], .bool ok])) W') :
    Code.wp Tryz.prog cc (bodyPost Tryz.prog Tryz.f33 Po) ⟨List.toArray (y0 :: y1 :: y2 :: y3 :: .pointer (some ⟨b4, 0, none⟩) :: y5 :: .pointer (some ⟨b6, 0, none⟩) :: .pointer (some ⟨b7, 0, none⟩) :: .string sg :: y9 :: y10 :: .bool ok :: y12 :: y13 :: y14 :: y15 :: y16 :: y17 :: y18 :: y19 :: y20 :: y21 :: y22 :: y23 :: y24 :: y25 :: y26 :: y27 :: y28 :: y29 :: y30 :: y31 :: y32 :: y33 :: y34 :: y35 :: y36 :: y37 :: y38 :: y39 :: y40 :: y41 :: y42 :: y43 :: y44 :: y45 :: y46 :: y47 :: y48 :: y49 :: y50 :: y51 :: y52 :: y53 :: y54 :: y55 :: y56 :: y57 :: y58 :: y59 :: y60 :: y61 :: y62 :: y63 :: y64 :: y65 :: y66 :: y67 :: y68 :: y69 :: y70 :: y71 :: y72 :: y73 :: y74 :: y75 :: y76 :: y77 :: y78 :: y79 :: y80 :: y81 :: y82 :: y83 :: y84 :: y85 :: y86 :: y87 :: y88 :: y89 :: y90 :: y91 :: y92 :: y93 :: []), []⟩ W := by
  obtain rfl := Option.some.inj ((show cutSe (cutSe (cutSe (cutSd Tryz.f33.body))) = some _ from rfl).symm.trans hcc)
  clear hcc
  have HM := mkHid hM
  have HO := mkHid hok
  have ne1 : ¬ b4 = b6 := hne.1
  have ne2 : ¬ b6 = b4 := fun e => ne1 e.symm
  have ne3 : ¬ b4 = b7 := hne.2
  have ne4 : ¬ b7 = b4 := fun e => ne3 e.symm
  have a1 : W.cell? ⟨b6, 1, none⟩ = some (.string s0) := cell_of_row W _ 1 _ _ _ hM.a
  have e2 : W.cell? ⟨b7, 2, none⟩ = some (.int .i64 vk1) := cell_of_row W _ 2 _ _ _ hM.b
  have e3 : W.cell? ⟨b7, 3, none⟩ = some (.bool vb1) := cell_of_row W _ 3 _ _ _ hM.b
  have e4 : W.cell? ⟨b7, 4, none⟩ = some (.int .i64 vn1) := cell_of_row W _ 4 _ _ _ hM.b
  have e5 : W.cell? ⟨b7, 5, none⟩ = some (.string vs1) := cell_of_row W _ 5 _ _ _ hM.b
  have e6 : W.cell? ⟨b7, 6, none⟩ = some (.slice none 0 0) := cell_of_row W _ 6 _ _ _ hM.b
  have e7 : W.cell? ⟨b7, 7, none⟩ = some (.slice none 0 0) := cell_of_row W _ 7 _ _ _ hM.b
  have z0 := cell_of_row W _ 0 _ _ _ hM.z
  have f0 := frozen_of_row W _ 0 _ _ hM.z
  have z1 := cell_of_row W _ 1 _ _ _ hM.z
  have f1 := frozen_of_row W _ 1 _ _ hM.z
  have z2 := cell_of_row W _ 2 _ _ _ hM.z
  have f2 := frozen_of_row W _ 2 _ _ hM.z
  have z3 := cell_of_row W _ 3 _ _ _ hM.z
  have f3 := frozen_of_row W _ 3 _ _ hM.z
  have z4 := cell_of_row W _ 4 _ _ _ hM.z
  have f4 := frozen_of_row W _ 4 _ _ hM.z
  have z5 := cell_of_row W _ 5 _ _ _ hM.z
  have f5 := frozen_of_row W _ 5 _ _ hM.z
  have hz := hM.z
  have hold := hM.old
  have hbel := hM.bel
  clear hM hok hne
  go_wp2_with fail
  go_region
  all_goals
    go_wp2
    obtain ⟨wf, hwf⟩ : ∃ wf, (put W b4 #[.int .i64 vk1, .bool vb1, .int .i64 vn1, .string vs1, .slice none 0 0, .slice none 0 0]).drew = wf := ⟨_, rfl⟩
    have hro : wf.heap[b4]? = some (.cells #[.int .i64 vk1, .bool vb1, .int .i64 vn1, .string vs1, .slice none 0 0, .slice none 0 0] 25 (0, 0)) := by rw [← hwf]; exact put_row _ hz rfl
    have hbf : Below w.heap.size w wf := by rw [← hwf]; exact (put_below hbel b4 hold _).drew
    have he : ((((((W.setCell ⟨b4, 0, none⟩ (.int .i64 vk1)).setCell ⟨b4, 1, none⟩ (.bool vb1)).setCell ⟨b4, 2, none⟩ (.int .i64 vn1)).setCell ⟨b4, 3, none⟩ (.string vs1)).setCell ⟨b4, 4, none⟩ (.slice none 0 0)).setCell ⟨b4, 5, none⟩ (.slice none 0 0)).drew = wf := hwf
    rw [he]
    clear he hwf
    obtain ⟨o0, o1, o2, o3, o4, o5⟩ := res33 hro
    exact bodyPost_ret (v := .tuple #[.string s0, .string sg, .agg #[.int .i64 vk1, .bool vb1, .int .i64 vn1, .string vs1, .slice none 0 0, .slice none 0 0], .bool ok]) (by simp [results, Tryz.results33, go_sem, o0, o1, o2, o3, o4, o5]) rfl (HO.out wf hbf)
set_option maxRecDepth 100000 in
set_option maxHeartbeats 8000000 in
theorem lsd_end {w W : World} {b4 b6 b7 : Nat} (sg : ByteArray) (k0 : Int) (s0 : ByteArray) (vk0 : Int) (vb0 : Bool) (vn0 : Int) (vs0 : ByteArray) (kp0 : Option Addr) (n0 kc0 : Nat) (np0 : Option Addr) (m0 nc0 : Nat) (k1 : Int) (s1 : ByteArray) (vk1 : Int) (vb1 : Bool) (vn1 : Int) (vs1 : ByteArray) (kp1 : Option Addr) (n1 kc1 : Nat) (np1 : Option Addr) (m1 nc1 : Nat) (hM : LsW w W b4 b6 b7 #[.int .i64 k0, .string s0, .int .i64 vk0, .bool vb0, .int .i64 vn0, .string vs0, .slice none 0 0, .slice none 0 0, .slice kp0 n0 kc0, .slice np0 m0 nc0] #[.int .i64 k1, .string s1, .int .i64 vk1, .bool vb1, .int .i64 vn1, .string vs1, .slice none 0 0, .slice none 0 0, .slice kp1 n1 kc1, .slice np1 m1 nc1]) (hne : b4 ≠ b6 ∧ b4 ≠ b7) (hs0 : s0.size ≤ 30000000) (y0 y1 y9 y10 y11 y12 y13 y14 y15 y16 y17 y18 y19 y20 y21 y22 y23 y24 y25 y26 y27 y28 y29 y30 y31 y32 y33 y34 y35 y36 y37 y38 y39 y40 y41 y42 y43 y44 y45 y46 y47 y48 y49 y50 y51 y52 y53 y54 y55 y56 y57 y58 y59 y60 y61 y62 y63 y64 y65 y66 y67 y68 y69 y70 y71 y72 y73 y74 y75 y76 y77 y78 y79 y80 y81 y82 y83 y84 y85 y86 y87 y88 y89 y90 y91 y92 y93 : Value) (cc : Code) (hcc : cutSe (cutSd Tryz.f33.body) = some cc) (Po : Ending → World → Prop)
    (hdot : ¬ noDot s0 → ∀ W', Below w.heap.size w W' → Po (.returned (.tuple #[.string ⟨#[]⟩, .string ⟨#[]⟩, .agg #[.int .i64 0, .bool false, .int .i64 0, .string ⟨#[]⟩, .slice none 0 0, .slice none 0 0], .bool false])) W')
    (hok : noDot s0 → ∀ W', Below w.heap.size w W' → Po (.returned (.tuple #[.string s0, .string sg, .agg #[.int .i64 vk1, .bool vb1, .int .i64 vn1, .string vs1, .slice none 0 0, .slice none 0 0], .bool ((k0 == 2) && ((k1 == 1) && five sg.data.toList))])) W') :
    Code.wp Tryz.prog cc (bodyPost Tryz.prog Tryz.f33 Po) ⟨List.toArray (y0 :: y1 :: .string ⟨#[]⟩ :: .string ⟨#[]⟩ :: .pointer (some ⟨b4, 0, none⟩) :: .bool false :: .pointer (some ⟨b6, 0, none⟩) :: .pointer (some ⟨b7, 0, none⟩) :: .string sg :: y9 :: y10 :: y11 :: y12 :: y13 :: y14 :: y15 :: y16 :: y17 :: y18 :: y19 :: y20 :: y21 :: y22 :: y23 :: y24 :: y25 :: y26 :: y27 :: y28 :: y29 :: y30 :: y31 :: y32 :: y33 :: y34 :: y35 :: y36 :: y37 :: y38 :: y39 :: y40 :: y41 :: y42 :: y43 :: y44 :: y45 :: y46 :: y47 :: y48 :: y49 :: y50 :: y51 :: y52 :: y53 :: y54 :: y55 :: y56 :: y57 :: y58 :: y59 :: y60 :: y61 :: y62 :: y63 :: y64 :: y65 :: y66 :: y67 :: y68 :: y69 :: y70 :: y71 :: y72 :: y73 :: y74 :: y75 :: y76 :: y77 :: y78 :: y79 :: y80 :: y81 :: y82 :: y83 :: y84 :: y85 :: y86 :: y87 :: y88 :: y89 :: y90 :: y91 :: y92 :: y93 :: []), []⟩ W := by
  obtain ⟨cT, hcT⟩ : ∃ c, cutSe (cutSe (cutSe (cutSd Tryz.f33.body))) = some c := ⟨_, rfl⟩
  obtain rfl := seq2_of hcc rfl rfl hcT
  have HC := mkHid hcT
  have HM := mkHid hM
  have HN := mkHid hne
  have HD := mkHid hdot
  have HO := mkHid hok
  have a0 := cell_of_row W _ 0 _ _ _ hM.a
  have a1 : W.cell? ⟨b6, 1, none⟩ = some (.string s0) := cell_of_row W _ 1 _ _ _ hM.a
  have e0 := cell_of_row W _ 0 _ _ _ hM.b
  clear hM hdot hok hne hcT hcc
  go_wp2_with fail
  go_loopw [10] (fun c10 wr => ∃ i : Nat, i ≤ s0.size ∧ c10 = .int .i64 (i : Int) ∧ Hid (∀ c ∈ s0.data.toList.take i, c ≠ 46) ∧ wr = W) (fun c10 _ => s0.size - (intOf c10).toNat)
  case atStart => exact ⟨0, Nat.zero_le _, rfl, (fun c hc => absurd hc (by simp)), rfl⟩
  case round =>
    obtain ⟨i, hi, rfl, hh, rfl⟩ := hrel
    by_cases hin : i < s0.size
    · have hin' : (i : Int) < (s0.size : Int) := by omega
      have hi64 : (s0.size : Int) ≤ 30000000 := by omega
      by_cases h46 : s0[i].toNat = 46
      · have h46' : (s0[i].toNat : Int) = 46 := by omega
        have hnd : Hid (¬ noDot s0) := by
          intro hn
          refine hn s0[i] ?_ (UInt8.toNat_inj.1 h46)
          show s0.data.toList[i]'(by simpa using hin) ∈ _
          exact List.getElem_mem _
        have hz := HM.out.z
        have hold := HM.out.old
        have hbel := HM.out.bel
        clear hh
        go_wp2_with (first | (refine wpList_put rfl 25 (.tmp 4) (.tmp 59) rfl rfl rfl rfl hz rfl info25s (by simp [Value.oneCell']) ?_) | fail)
        have hro : (put wr b4 #[.int .i64 0, .bool false, .int .i64 0, .string ⟨#[]⟩, .slice none 0 0, .slice none 0 0]).heap[b4]? = some (.cells #[.int .i64 0, .bool false, .int .i64 0, .string ⟨#[]⟩, .slice none 0 0, .slice none 0 0] 25 (0, 0)) := put_row _ hz rfl
        have hbf : Below w.heap.size w (put wr b4 #[.int .i64 0, .bool false, .int .i64 0, .string ⟨#[]⟩, .slice none 0 0, .slice none 0 0]) := put_below hbel b4 hold _
        obtain ⟨wf, hwf⟩ : ∃ wf, put wr b4 #[.int .i64 0, .bool false, .int .i64 0, .string ⟨#[]⟩, .slice none 0 0, .slice none 0 0] = wf := ⟨_, rfl⟩
        rw [hwf] at hro hbf ⊢
        clear hwf
        obtain ⟨o0, o1, o2, o3, o4, o5⟩ := res33 hro
        exact bodyPost_ret (v := .tuple #[.string ⟨#[]⟩, .string ⟨#[]⟩, .agg #[.int .i64 0, .bool false, .int .i64 0, .string ⟨#[]⟩, .slice none 0 0, .slice none 0 0], .bool false]) (by simp [results, Tryz.results33, go_sem, o0, o1, o2, o3, o4, o5]) rfl (HD.out hnd.out wf hbf)
      · have h46' : ¬ (s0[i].toNat : Int) = 46 := by omega
        have hst : Hid (∀ c ∈ s0.data.toList.take (i + 1), c ≠ 46) := by
          intro c hc
          rw [V.take_up s0 i hin] at hc
          rcases List.mem_append.1 hc with hc | hc
          · exact hh.out c hc
          · rw [List.mem_singleton] at hc
            subst hc
            exact fun e => h46 (by rw [e]; rfl)
        clear hh
        go_wp2
        go_roundw
        case rel => exact ⟨i + 1, by omega, by go_num, hst, by first | rfl | trivial⟩
        case measure => simp [intOf]; omega
    · obtain rfl : i = s0.size := by omega
      have hnd : Hid (noDot s0) := by
        have := hh.out
        rw [List.take_of_length_le (by simp)] at this
        exact this
      have HO2 := mkHid (HO.out hnd.out)
      clear hh
      obtain ⟨x0, hx0⟩ : ∃ x, (k0 == 2) = x := ⟨_, rfl⟩
      obtain ⟨x1, hx1⟩ : ∃ x, (k1 == 1) = x := ⟨_, rfl⟩
      rw [hx0, hx1] at HO2
      have HF : Hid (five sg.data.toList = five sg.data.toList) := rfl
      obtain ⟨q1, hq1⟩ : ∃ x, (sg.toList == [61]) = x := ⟨_, rfl⟩
      obtain ⟨q2, hq2⟩ : ∃ x, (sg.toList == [60]) = x := ⟨_, rfl⟩
      obtain ⟨q3, hq3⟩ : ∃ x, (sg.toList == [60, 61]) = x := ⟨_, rfl⟩
      obtain ⟨q4, hq4⟩ : ∃ x, (sg.toList == [62]) = x := ⟨_, rfl⟩
      obtain ⟨q5, hq5⟩ : ∃ x, (sg.toList == [62, 61]) = x := ⟨_, rfl⟩
      have hf5 : five sg.data.toList = (q1 || (q2 || (q3 || (q4 || q5)))) := by
        unfold five
        rw [← Lib.toList_data, hq1, hq2, hq3, hq4, hq5]
      rw [hf5] at HO2
      clear hf5 HF
      rcases x0 with _ | _
      · go_wp2_with fail
        exact lsd_last sg false k0 s0 vk0 vb0 vn0 vs0 kp0 n0 kc0 np0 m0 nc0 k1 s1 vk1 vb1 vn1 vs1 kp1 n1 kc1 np1 m1 nc1 HM.out HN.out _ _ _ _ _ _ _ _ _ _ _ _ _ _ _ _ _ _ _ _ _ _ _ _ _ _ _ _ _ _ _ _ _ _ _ _ _ _ _ _ _ _ _ _ _ _ _ _ _ _ _ _ _ _ _ _ _ _ _ _ _ _ _ _ _ _ _ _ _ _ _ _ _ _ _ _ _ _ _ _ _ _ _ _ _ _ _ _ _ cT HC.out Po HO2.out
      rcases x1 with _ | _
      · go_wp2_with fail
        exact lsd_last sg false k0 s0 vk0 vb0 vn0 vs0 kp0 n0 kc0 np0 m0 nc0 k1 s1 vk1 vb1 vn1 vs1 kp1 n1 kc1 np1 m1 nc1 HM.out HN.out _ _ _ _ _ _ _ _ _ _ _ _ _ _ _ _ _ _ _ _ _ _ _ _ _ _ _ _ _ _ _ _ _ _ _ _ _ _ _ _ _ _ _ _ _ _ _ _ _ _ _ _ _ _ _ _ _ _ _ _ _ _ _ _ _ _ _ _ _ _ _ _ _ _ _ _ _ _ _ _ _ _ _ _ _ _ _ _ _ cT HC.out Po HO2.out
      rcases q1 with _ | _
      · rcases q2 with _ | _
        · rcases q3 with _ | _
          · rcases q4 with _ | _
            · go_wp2_with fail
              exact lsd_last sg q5 k0 s0 vk0 vb0 vn0 vs0 kp0 n0 kc0 np0 m0 nc0 k1 s1 vk1 vb1 vn1 vs1 kp1 n1 kc1 np1 m1 nc1 HM.out HN.out _ _ _ _ _ _ _ _ _ _ _ _ _ _ _ _ _ _ _ _ _ _ _ _ _ _ _ _ _ _ _ _ _ _ _ _ _ _ _ _ _ _ _ _ _ _ _ _ _ _ _ _ _ _ _ _ _ _ _ _ _ _ _ _ _ _ _ _ _ _ _ _ _ _ _ _ _ _ _ _ _ _ _ _ _ _ _ _ _ cT HC.out Po HO2.out
            · go_wp2_with fail
              exact lsd_last sg true k0 s0 vk0 vb0 vn0 vs0 kp0 n0 kc0 np0 m0 nc0 k1 s1 vk1 vb1 vn1 vs1 kp1 n1 kc1 np1 m1 nc1 HM.out HN.out _ _ _ _ _ _ _ _ _ _ _ _ _ _ _ _ _ _ _ _ _ _ _ _ _ _ _ _ _ _ _ _ _ _ _ _ _ _ _ _ _ _ _ _ _ _ _ _ _ _ _ _ _ _ _ _ _ _ _ _ _ _ _ _ _ _ _ _ _ _ _ _ _ _ _ _ _ _ _ _ _ _ _ _ _ _ _ _ _ cT HC.out Po HO2.out
          · go_wp2_with fail
            exact lsd_last sg true k0 s0 vk0 vb0 vn0 vs0 kp0 n0 kc0 np0 m0 nc0 k1 s1 vk1 vb1 vn1 vs1 kp1 n1 kc1 np1 m1 nc1 HM.out HN.out _ _ _ _ _ _ _ _ _ _ _ _ _ _ _ _ _ _ _ _ _ _ _ _ _ _ _ _ _ _ _ _ _ _ _ _ _ _ _ _ _ _ _ _ _ _ _ _ _ _ _ _ _ _ _ _ _ _ _ _ _ _ _ _ _ _ _ _ _ _ _ _ _ _ _ _ _ _ _ _ _ _ _ _ _ _ _ _ _ cT HC.out Po HO2.out
        · go_wp2_with fail
          exact lsd_last sg true k0 s0 vk0 vb0 vn0 vs0 kp0 n0 kc0 np0 m0 nc0 k1 s1 vk1 vb1 vn1 vs1 kp1 n1 kc1 np1 m1 nc1 HM.out HN.out _ _ _ _ _ _ _ _ _ _ _ _ _ _ _ _ _ _ _ _ _ _ _ _ _ _ _ _ _ _ _ _ _ _ _ _ _ _ _ _ _ _ _ _ _ _ _ _ _ _ _ _ _ _ _ _ _ _ _ _ _ _ _ _ _ _ _ _ _ _ _ _ _ _ _ _ _ _ _ _ _ _ _ _ _ _ _ _ _ cT HC.out Po HO2.out
      · go_wp2_with fail
        exact lsd_last sg true k0 s0 vk0 vb0 vn0 vs0 kp0 n0 kc0 np0 m0 nc0 k1 s1 vk1 vb1 vn1 vs1 kp1 n1 kc1 np1 m1 nc1 HM.out HN.out _ _ _ _ _ _ _ _ _ _ _ _ _ _ _ _ _ _ _ _ _ _ _ _ _ _ _ _ _ _ _ _ _ _ _ _ _ _ _ _ _ _ _ _ _ _ _ _ _ _ _ _ _ _ _ _ _ _ _ _ _ _ _ _ _ _ _ _ _ _ _ _ _ _ _ _ _ _ _ _ _ _ _ _ _ _ _ _ _ cT HC.out Po HO2.out
end Go.Proofs.YtfemippjaokcmaaGreatDoor
