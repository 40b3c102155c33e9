/- The order of values (Compare, Same). -/
import Derived.Test.YtjmjlijmeahmfaaCmpp
namespace Go.Proofs.Ytjmjlijmeahmfaa
open Go.RowKit
theorem cparts {B : Nat} {w : World} {k : Int} {b : Bool} {n : Int} {s : ByteArray} {m : Nat} {f : Nat → Tr} {q : Nat} {g : Nat → ByteArray} {x : Ad} {k' : Int} {b' : Bool} {n' : Int} {s' : ByteArray} {m' : Nat} {f' : Nat → Tr} {q' : Nat} {g' : Nat → ByteArray} {y : Ad}
    (hL : Lies B w (.mk k b n s m f q g) x) (hL' : Lies B w (.mk k' b' n' s' m' f' q' g') y) (hB : B ≤ w.heap.size) (ih : ∀ i, CmpC (f i) (f' i)) :
    Calls Try.prog 54 #[(Tr.mk k b n s m f q g).val x, (Tr.mk k' b' n' s' m' f' q' g').val y] w fun e w' => e = .returned (.int .i64 (if fe (min m m') (cmpF q q' g g' (fun i => cmpT (f i) (f' i))) = 0 then cmpI m m' else fe (min m m') (cmpF q q' g g' (fun i => cmpT (f i) (f' i))))) ∧ Below w.heap.size w w' := by
  by_cases hM : m' < m
  · exact cparts_b hL hL' hB hM ih
  · exact cparts_a hL hL' hB (by omega) ih
set_option maxRecDepth 100000 in
set_option maxHeartbeats 4000000 in
theorem cmp_all (t : Tr) : ∀ u, CmpC t u := by
  induction t with
  | no => exact fun _ _ _ _ _ hL => hL.no.elim
  | mk k b n s m f q g ih =>
    intro u B w x y hL hL' hB
    cases u with
    | no => exact hL'.no.elim
    | mk k' b' n' s' m' f' q' g' =>
      have hpp := fun (W : World) (hb : Below B w W) (hs : B ≤ W.heap.size) => cparts (hL.later hb) (hL'.later hb) hs (fun i => ih i (f' i))
      obtain ⟨pa, pc, na, nc⟩ := x
      obtain ⟨pa', pc', na', nc'⟩ := y
      obtain ⟨R, hR0⟩ : ∃ R, cmpT (.mk k b n s m f q g) (.mk k' b' n' s' m' f' q' g') = R := ⟨_, rfl⟩
      rw [hR0]
      have hR : (if k = k' then (if k = 1 then cmpB (boolB b) (boolB b') else if k = 2 then cmpI n n' else if k = 3 ∨ k = 4 then cmpB s s' else if k = 5 ∨ k = 6 then (if fe (min m m') (cmpF q q' g g' (fun i => cmpT (f i) (f' i))) = 0 then cmpI m m' else fe (min m m') (cmpF q q' g g' (fun i => cmpT (f i) (f' i)))) else 0) else cmpI k k') = R := by rw [← hR0, cmpT]; rfl
      clear hR0
      have hV : (Tr.mk k b n s m f q g).val ⟨pa, pc, na, nc⟩ = .agg #[.int .i64 k, .bool b, .int .i64 n, .string s, .slice pa m pc, .slice na q nc] := rfl
      have hV' : (Tr.mk k' b' n' s' m' f' q' g').val ⟨pa', pc', na', nc'⟩ = .agg #[.int .i64 k', .bool b', .int .i64 n', .string s', .slice pa' m' pc', .slice na' q' nc'] := rfl
      rw [hV, hV'] at hpp ⊢
      clear hV hV'
      have hbW : Below w.heap.size w ((w.alloc (.cells #[.int .i64 k, .bool b, .int .i64 n, .string s, .slice pa m pc, .slice na q nc] 25)).alloc (.cells #[.int .i64 k', .bool b', .int .i64 n', .string s', .slice pa' m' pc', .slice na' q' nc'] 25)) := ((Below.refl _ w).alloc (Nat.le_refl _) _).alloc (by simp) _
      by_cases hkk : k = k'
      · subst hkk
        rw [if_pos rfl] at hR
        by_cases h1 : k = 1
        · subst h1
          rw [if_pos rfl] at hR
          subst hR
          clear hpp
          go_enter Try.func19, Try.ntmps19
          go_wp2_with fail
          go_quiet (first | (go_at_call 52; exact Calls.quiet_of_same (ebool_any _ _)) | (go_at_call 51; exact Calls.quiet_of_same (scmp _ _ _)))
          go_wp2
          go_ret
          exact ⟨rfl, ⟨hbW.os, hbW.tape, hbW.output, hbW.size, hbW.block⟩⟩
        · rw [if_neg h1] at hR
          by_cases h2 : k = 2
          · subst h2
            rw [if_pos rfl] at hR
            subst hR
            clear hpp
            go_enter Try.func19, Try.ntmps19
            go_wp2_with fail
            refine (lcmp _ _ _).mono ?_
            rintro e w1 ⟨rfl, rfl⟩
            go_wp2
            go_ret
            exact ⟨rfl, hbW⟩
          · rw [if_neg h2] at hR
            by_cases h34 : k = 3 ∨ k = 4
            · rw [if_pos h34] at hR
              subst hR
              clear hpp
              rcases h34 with rfl | rfl
              all_goals
                go_enter Try.func19, Try.ntmps19
                go_wp2_with fail
                refine (scmp _ _ _).mono ?_
                rintro e w1 ⟨rfl, rfl⟩
                go_wp2
                go_ret
                exact ⟨rfl, hbW⟩
            · rw [if_neg h34] at hR
              by_cases h56 : k = 5 ∨ k = 6
              · rw [if_pos h56] at hR
                rw [hR] at hpp
                clear hR
                rcases h56 with rfl | rfl
                all_goals
                  go_enter Try.func19, Try.ntmps19
                  go_wp2_with fail
                  refine (hpp _ (hbW.mono hB) (by simp; omega)).mono ?_
                  rintro e w1 ⟨rfl, hb1⟩
                  go_wp2
                  go_ret
                  exact ⟨rfl, hbW.trans (hb1.mono (by simp; omega))⟩
              · rw [if_neg h56] at hR
                subst hR
                clear hpp
                have n1 : (k == 1) = false := by simpa using h1
                have n2 : (k == 2) = false := by simpa using h2
                have n3 : (k == 3) = false := by simp; omega
                have n4 : (k == 4) = false := by simp; omega
                have n5 : (k == 5) = false := by simp; omega
                have n6 : (k == 6) = false := by simp; omega
                go_enter Try.func19, Try.ntmps19
                go_wp2
                go_ret
                exact ⟨rfl, hbW⟩
      · rw [if_neg hkk] at hR
        subst hR
        clear hpp
        have hk2 : (k != k') = true := by simpa using hkk
        go_enter Try.func19, Try.ntmps19
        go_wp2_with fail
        refine (icmp _ _ _).mono ?_
        rintro e w1 ⟨rfl, rfl⟩
        go_wp2
        go_ret
        exact ⟨rfl, hbW⟩
set_option maxHeartbeats 1000000 in
theorem same_all (t u : Tr) (B : Nat) (w : World) (x y : Ad) (hL : Lies B w t x) (hL' : Lies B w u y) (hB : B ≤ w.heap.size) :
    Calls Try.prog 17 #[t.val x, u.val y] w fun e w' => e = .returned (.bool (cmpT t u == 0)) ∧ Below w.heap.size w w' := by
  have hc := fun (W : World) (hb : Below B w W) (hs : B ≤ W.heap.size) => cmp_all t u B W x y (hL.later hb) (hL'.later hb) hs
  have hV : t.val x = .agg #[.int .i64 t.k, .bool t.b, .int .i64 t.n, .string t.s, .slice x.pa t.m x.pc, .slice x.na t.q x.nc] := rfl
  have hV' : u.val y = .agg #[.int .i64 u.k, .bool u.b, .int .i64 u.n, .string u.s, .slice y.pa u.m y.pc, .slice y.na u.q y.nc] := rfl
  rw [hV, hV'] at hc ⊢
  clear hV hV'
  have hbW : Below w.heap.size w ((w.alloc (.cells #[.int .i64 t.k, .bool t.b, .int .i64 t.n, .string t.s, .slice x.pa t.m x.pc, .slice x.na t.q x.nc] 25)).alloc (.cells #[.int .i64 u.k, .bool u.b, .int .i64 u.n, .string u.s, .slice y.pa u.m y.pc, .slice y.na u.q y.nc] 25)) := ((Below.refl _ w).alloc (Nat.le_refl _) _).alloc (by simp) _
  obtain ⟨R, hR⟩ : ∃ R, cmpT t u = R := ⟨_, rfl⟩
  rw [hR] at hc ⊢
  clear hR
  go_enter Try.func17, Try.ntmps17
  go_wp2_with fail
  refine (hc _ (hbW.mono hB) (by simp; omega)).mono ?_
  rintro e w1 ⟨rfl, hb1⟩
  go_wp2
  go_ret
  exact ⟨rfl, hbW.trans (hb1.mono (by simp; omega))⟩
end Go.Proofs.Ytjmjlijmeahmfaa
