/- Whether a way shows growth (rootsBy, Consistent), called: as the plain function rbs has it. -/
import Derived.Test.YtjamahpccblkiabDoorVer
namespace Go.Proofs.YtjamahpccblkiabDoor
open Go.RowKit
theorem nodeS_le (a b : ByteArray) : (nodeS a b).size ≤ 400 := by rw [nodeS, sumS_size]; omega
theorem rbs_size (old : ByteArray) (hl : old.size ≤ 400) : ∀ (r : List ByteArray) (m n : Nat) (kn : Bool), (rbs old m n kn r).1.size ≤ 400 ∧ (rbs old m n kn r).2.1.size ≤ 400
  | [], m, n, kn => by
    simp only [rbs]
    split
    · exact ⟨hl, hl⟩
    · exact ⟨Nat.zero_le _, Nat.zero_le _⟩
  | x :: r, m, n, kn => by
    simp only [rbs]
    split
    · exact ⟨hl, hl⟩
    · split
      · rename_i hx
        split
        · exact ⟨show x.size ≤ 400 by omega, show x.size ≤ 400 by omega⟩
        · split
          · exact ⟨(rbs_size old hl r m (half n) kn).1, nodeS_le _ _⟩
          · exact ⟨nodeS_le _ _, nodeS_le _ _⟩
      · exact ⟨Nat.zero_le _, Nat.zero_le _⟩
set_option maxHeartbeats 4000000 in
set_option maxRecDepth 100000 in
theorem rbs_any (old : ByteArray) (hl : old.size ≤ 400) (g : Nat → ByteArray) : ∀ (n : Nat) (m N : Int) (kn : Bool), 1 ≤ m → m ≤ N → N ≤ 2147483648 → ∀ (p : Option Addr) (c : Nat) (w : World), Strs w p n c g → GL w →
    Calls Tryd.prog 20 #[.string old, .int .i64 m, .int .i64 N, .bool kn, .slice p n c] w fun e w' => e = .returned (.tuple #[.string (rbs old m.toNat N.toNat kn (revL g n)).1, .string (rbs old m.toNat N.toNat kn (revL g n)).2.1, .bool (rbs old m.toNat N.toNat kn (revL g n)).2.2]) ∧ Below w.heap.size w w'
  | 0, m, N, kn, h0, h1, h2, p, c, w, H, hG => by
    by_cases hmn : m = N
    · subst hmn
      cases kn with
      | true =>
        have e : rbs old m.toNat m.toNat true (revL g 0) = (old, old, true) := if_pos ⟨rfl, rfl⟩
        rw [e]
        go_enter Tryd.func20, Tryd.ntmps20
        go_wp2
        go_ret3
        exact ⟨rfl, Below.refl _ _⟩
      | false =>
        have e : rbs old m.toNat m.toNat false (revL g 0) = (⟨#[]⟩, ⟨#[]⟩, false) := if_neg (by simp)
        rw [e]
        go_enter Tryd.func20, Tryd.ntmps20
        go_wp2_with fail
        refine (high_none p c _).mono ?_
        rintro e w' ⟨rfl, rfl⟩
        go_wp2
        go_ret3
        exact ⟨rfl, Below.refl _ _⟩
    · have e : rbs old m.toNat N.toNat kn (revL g 0) = (⟨#[]⟩, ⟨#[]⟩, false) := if_neg (fun h => hmn (by omega))
      rw [e]
      have hB : (m == N) = false := beq_eq_false_iff_ne.2 hmn
      go_enter Tryd.func20, Tryd.ntmps20
      go_wp2_with fail
      refine (high_none p c _).mono ?_
      rintro e w' ⟨rfl, rfl⟩
      go_wp2
      go_ret3
      exact ⟨rfl, Below.refl _ _⟩
  | n + 1, m, N, kn, h0, h1, h2, p, c, w, H, hG => by
    have hcap := H.cap
    have hm : maxLen = 9223372036854775807 := rfl
    by_cases hall : m = N ∧ kn = true
    · obtain ⟨rfl, rfl⟩ := hall
      have e : rbs old m.toNat m.toNat true (revL g (n + 1)) = (old, old, false) := if_pos ⟨rfl, rfl⟩
      rw [e]
      go_enter Tryd.func20, Tryd.ntmps20
      go_wp2
      go_ret3
      exact ⟨rfl, Below.refl _ _⟩
    · have hno : ¬ (m.toNat = N.toNat ∧ kn = true) := fun h => hall ⟨by omega, h.2⟩
      by_cases hx : (g n).size = 32
      · have hgo := fun w H => high_ok p n c g w H hx
        by_cases hmn : m = N
        · subst hmn
          obtain rfl : kn = false := by cases kn <;> simp_all
          have e : rbs old m.toNat m.toNat false (revL g (n + 1)) = (g n, g n, (revL g n).length == 0) := by
            show (if _ then _ else _) = _
            rw [if_neg hno, if_pos hx, if_pos rfl]
          rw [e, revL_len]
          generalize g n = top at hgo
          go_enter Tryd.func20, Tryd.ntmps20
          go_wp2_with fail
          refine (hgo _ H).mono ?_
          rintro e w1 ⟨rfl, hb1⟩
          go_wp2
          go_ret3
          refine ⟨?_, hb1⟩
          cases n <;> rfl
        · have hB : (m == N) = false := beq_eq_false_iff_ne.2 hmn
          obtain ⟨k, hk, k1, k2, k3, k4⟩ := half_int N (by omega)
          have HH := fun w => half_any N (by omega) h2 w
          rw [hk] at HH
          have Hs := H.less n (by omega)
          by_cases hmk : m ≤ k
          · have e : rbs old m.toNat N.toNat kn (revL g (n + 1)) = ((rbs old m.toNat k.toNat kn (revL g n)).1, nodeS (rbs old m.toNat k.toNat kn (revL g n)).2.1 (g n), (rbs old m.toNat k.toNat kn (revL g n)).2.2) := by
              show (if _ then _ else _) = _
              rw [if_neg hno, if_pos hx, if_neg (by omega), k4, if_pos (by omega)]
            rw [e]
            have ih := fun w HS HGG => rbs_any old hl g n m k kn h0 hmk (by omega) p c w HS HGG
            have hr := rbs_size old hl (revL g n) m.toNat k.toNat kn
            generalize rbs old m.toNat k.toNat kn (revL g n) = R at ih hr ⊢
            obtain ⟨r1, r2, ok⟩ := R
            simp only at ih hr ⊢
            obtain ⟨hr1, hr2⟩ := hr
            generalize g n = top at hx hgo ⊢
            clear e hno hall hk k4
            cases kn with
            | true => 
              go_enter Tryd.func20, Tryd.ntmps20
              go_wp2_with fail
              refine (hgo _ H).mono ?_
              rintro e w1 ⟨rfl, hb1⟩
              go_wp2_with fail
              refine (HH _).mono ?_
              rintro e w2 ⟨rfl, rfl⟩
              go_wp2_with fail
              refine (ih _ (Hs.later hb1) (hG.later hb1)).mono ?_
              rintro e w3 ⟨rfl, hb3⟩
              go_wp2_with fail
              refine (node_any r2 top hr2 (by omega) _ (hG.later (below2 hb1 hb3))).mono ?_
              rintro e w4 ⟨rfl, hb4⟩
              go_wp2
              go_ret3
              exact ⟨rfl, below2 (below2 hb1 hb3) hb4⟩
            | false => 
              go_enter Tryd.func20, Tryd.ntmps20
              go_wp2_with fail
              refine (hgo _ H).mono ?_
              rintro e w1 ⟨rfl, hb1⟩
              go_wp2_with fail
              refine (HH _).mono ?_
              rintro e w2 ⟨rfl, rfl⟩
              go_wp2_with fail
              refine (ih _ (Hs.later hb1) (hG.later hb1)).mono ?_
              rintro e w3 ⟨rfl, hb3⟩
              go_wp2_with fail
              refine (node_any r2 top hr2 (by omega) _ (hG.later (below2 hb1 hb3))).mono ?_
              rintro e w4 ⟨rfl, hb4⟩
              go_wp2
              go_ret3
              exact ⟨rfl, below2 (below2 hb1 hb3) hb4⟩
          · have e : rbs old m.toNat N.toNat kn (revL g (n + 1)) = (nodeS (g n) (rbs old (m - k).toNat (N - k).toNat false (revL g n)).1, nodeS (g n) (rbs old (m - k).toNat (N - k).toNat false (revL g n)).2.1, (rbs old (m - k).toNat (N - k).toNat false (revL g n)).2.2) := by
              show (if _ then _ else _) = _
              rw [if_neg hno, if_pos hx, if_neg (by omega), k4, if_neg (by omega), show m.toNat - k.toNat = (m - k).toNat by omega, show N.toNat - k.toNat = (N - k).toNat by omega]
            rw [e]
            have ih := fun w HS HGG => rbs_any old hl g n (m - k) (N - k) false (by omega) (by omega) (by omega) p c w HS HGG
            have hr := rbs_size old hl (revL g n) (m - k).toNat (N - k).toNat false
            generalize rbs old (m - k).toNat (N - k).toNat false (revL g n) = R at ih hr ⊢
            obtain ⟨r1, r2, ok⟩ := R
            simp only at ih hr ⊢
            obtain ⟨hr1, hr2⟩ := hr
            generalize g n = top at hx hgo ⊢
            clear e hno hall hk k4
            cases kn with
            | true => 
              go_enter Tryd.func20, Tryd.ntmps20
              go_wp2_with fail
              refine (hgo _ H).mono ?_
              rintro e w1 ⟨rfl, hb1⟩
              go_wp2_with fail
              refine (HH _).mono ?_
              rintro e w2 ⟨rfl, rfl⟩
              go_wp2_with fail
              refine (ih _ (Hs.later hb1) (hG.later hb1)).mono ?_
              rintro e w3 ⟨rfl, hb3⟩
              go_wp2_with fail
              refine (node_any top r1 (by omega) hr1 _ (hG.later (below2 hb1 hb3))).mono ?_
              rintro e w4 ⟨rfl, hb4⟩
              go_wp2_with fail
              refine (node_any top r2 (by omega) hr2 _ (hG.later (below2 (below2 hb1 hb3) hb4))).mono ?_
              rintro e w5 ⟨rfl, hb5⟩
              go_wp2
              go_ret3
              exact ⟨rfl, below2 (below2 (below2 hb1 hb3) hb4) hb5⟩
            | false => 
              go_enter Tryd.func20, Tryd.ntmps20
              go_wp2_with fail
              refine (hgo _ H).mono ?_
              rintro e w1 ⟨rfl, hb1⟩
              go_wp2_with fail
              refine (HH _).mono ?_
              rintro e w2 ⟨rfl, rfl⟩
              go_wp2_with fail
              refine (ih _ (Hs.later hb1) (hG.later hb1)).mono ?_
              rintro e w3 ⟨rfl, hb3⟩
              go_wp2_with fail
              refine (node_any top r1 (by omega) hr1 _ (hG.later (below2 hb1 hb3))).mono ?_
              rintro e w4 ⟨rfl, hb4⟩
              go_wp2_with fail
              refine (node_any top r2 (by omega) hr2 _ (hG.later (below2 (below2 hb1 hb3) hb4))).mono ?_
              rintro e w5 ⟨rfl, hb5⟩
              go_wp2
              go_ret3
              exact ⟨rfl, below2 (below2 (below2 hb1 hb3) hb4) hb5⟩
      · have e : rbs old m.toNat N.toNat kn (revL g (n + 1)) = (⟨#[]⟩, ⟨#[]⟩, false) := by
          show (if _ then _ else _) = _
          rw [if_neg hno, if_neg hx]
        rw [e]
        by_cases hmn : m = N
        · subst hmn
          obtain rfl : kn = false := by cases kn <;> simp_all
          go_enter Tryd.func20, Tryd.ntmps20
          go_wp2_with fail
          refine (high_bad p n c g _ H hx).mono ?_
          rintro e w' ⟨rfl, rfl⟩
          go_wp2
          go_ret3
          exact ⟨rfl, Below.refl _ _⟩
        · have hB : (m == N) = false := beq_eq_false_iff_ne.2 hmn
          go_enter Tryd.func20, Tryd.ntmps20
          go_wp2_with fail
          refine (high_bad p n c g _ H hx).mono ?_
          rintro e w' ⟨rfl, rfl⟩
          go_wp2
          go_ret3
          exact ⟨rfl, Below.refl _ _⟩
def badC (old now : ByteArray) (m N : Int) : Prop := m < 1 ∨ N < m ∨ 2147483648 < N ∨ old.size ≠ 32 ∨ now.size ≠ 32
def conA (old now : ByteArray) (m N : Int) (g : Nat → ByteArray) (n : Nat) : Int :=
  if 64 < n then 80 else if okv2 (rbs old m.toNat N.toNat true (revL g n)) = some (old, now) then 0 else 80
set_option maxHeartbeats 2000000 in
theorem con_arg (old now : ByteArray) (m N : Int) (h : badC old now m N) (v : Value) (w : World) :
    Calls Tryd.prog 9 #[.string old, .string now, .int .i64 m, .int .i64 N, v] w fun e w' => e = .returned (.int .i64 1) ∧ w' = w := by
  unfold badC at h
  by_cases a : m < 1
  · clear h
    go_enter Tryd.func9, Tryd.ntmps9
    go_wp2
    all_goals (go_ret; exact ⟨rfl, rfl⟩)
  · by_cases b : N < m
    · clear h
      go_enter Tryd.func9, Tryd.ntmps9
      go_wp2
      all_goals (go_ret; exact ⟨rfl, rfl⟩)
    · by_cases c : 2147483648 < N
      · clear h
        go_enter Tryd.func9, Tryd.ntmps9
        go_wp2
        all_goals (go_ret; exact ⟨rfl, rfl⟩)
      · have A1 : decide (m < 1) = false := decide_eq_false a
        have A2 : decide (N < m) = false := decide_eq_false b
        have A3 : decide (2147483648 < N) = false := decide_eq_false c
        by_cases d : old.size = 32
        · have e : now.size ≠ 32 := by omega
          clear h
          go_enter Tryd.func9, Tryd.ntmps9
          go_wp2_with fail
          refine (dig_yes old d _).mono ?_
          rintro e w' ⟨rfl, rfl⟩
          go_wp2_with fail
          refine (dig_no now e _).mono ?_
          rintro e w' ⟨rfl, rfl⟩
          go_wp2
          go_ret
          exact ⟨rfl, rfl⟩
        · clear h
          go_enter Tryd.func9, Tryd.ntmps9
          go_wp2_with fail
          refine (dig_no old d _).mono ?_
          rintro e w' ⟨rfl, rfl⟩
          go_wp2
          go_ret
          exact ⟨rfl, rfl⟩
set_option maxHeartbeats 2000000 in
theorem con_any (old now : ByteArray) (m N : Int) (h : ¬ badC old now m N) (p : Option Addr) (n c : Nat) (g : Nat → ByteArray) (w : World) (H : Strs w p n c g) (hG : GL w) :
    Calls Tryd.prog 9 #[.string old, .string now, .int .i64 m, .int .i64 N, .slice p n c] w fun e w' => e = .returned (.int .i64 (conA old now m N g n)) ∧ Below w.heap.size w w' := by
  unfold badC at h
  have h0 : 1 ≤ m := by omega
  have h1 : m ≤ N := by omega
  have h2 : N ≤ 2147483648 := by omega
  have d : old.size = 32 := by omega
  have e : now.size = 32 := by omega
  have hcap := H.cap
  have hm : maxLen = 9223372036854775807 := rfl
  clear h
  have hy := rbs_any old (by omega) g n m N true h0 h1 h2 p c w H hG
  have A1 : ¬ m < 1 := by omega
  have A2 : ¬ N < m := by omega
  have A3 : ¬ 2147483648 < N := by omega
  have B1 : decide (m < 1) = false := decide_eq_false A1
  have B2 : decide (N < m) = false := decide_eq_false A2
  have B3 : decide (2147483648 < N) = false := decide_eq_false A3
  clear h0 h1 h2
  by_cases hn : 64 < n
  · have ea : conA old now m N g n = 80 := if_pos hn
    rw [ea]
    have hn' : (64 : Int) < (n : Int) := by omega
    clear hy
    go_enter Tryd.func9, Tryd.ntmps9
    go_wp2_with fail
    refine (dig_yes old d _).mono ?_
    rintro e w' ⟨rfl, rfl⟩
    go_wp2_with fail
    refine (dig_yes now e _).mono ?_
    rintro e w' ⟨rfl, rfl⟩
    go_wp2
    go_ret
    exact ⟨rfl, Below.refl _ _⟩
  · have hn' : ¬ (64 : Int) < (n : Int) := by omega
    have ea : conA old now m N g n = if okv2 (rbs old m.toNat N.toNat true (revL g n)) = some (old, now) then 0 else 80 := if_neg hn
    rw [ea]
    clear ea
    obtain ⟨R, hR⟩ : ∃ R, rbs old m.toNat N.toNat true (revL g n) = R := ⟨_, rfl⟩
    rw [hR] at hy ⊢
    clear hR
    obtain ⟨r1, r2, ok⟩ := R
    simp only at hy
    cases ok with
    | false =>
      have er : (if okv2 (r1, r2, false) = some (old, now) then (0 : Int) else 80) = 80 := if_neg (by unfold okv2; simp)
      rw [er]
      clear er
      go_enter Tryd.func9, Tryd.ntmps9
      go_wp2_with fail
      refine (dig_yes old d _).mono ?_
      rintro e w' ⟨rfl, rfl⟩
      go_wp2_with fail
      refine (dig_yes now e _).mono ?_
      rintro e w' ⟨rfl, rfl⟩
      go_wp2_with fail
      refine hy.mono ?_
      rintro e w1 ⟨rfl, hb1⟩
      go_wp2
      go_ret
      exact ⟨rfl, hb1⟩
    | true =>
      by_cases hr : r1 = old
      · subst hr
        by_cases hs : r2 = now
        · subst hs
          have er : (if okv2 (r1, r2, true) = some (r1, r2) then (0 : Int) else 80) = 0 := if_pos rfl
          rw [er]
          clear er
          go_enter Tryd.func9, Tryd.ntmps9
          go_wp2_with fail
          refine (dig_yes r1 d _).mono ?_
          rintro e w' ⟨rfl, rfl⟩
          go_wp2_with fail
          refine (dig_yes r2 e _).mono ?_
          rintro e w' ⟨rfl, rfl⟩
          go_wp2_with fail
          refine hy.mono ?_
          rintro e w1 ⟨rfl, hb1⟩
          go_wp2
          go_ret
          exact ⟨rfl, hb1⟩
        · have er : (if okv2 (r1, r2, true) = some (r1, now) then (0 : Int) else 80) = 80 := if_neg (by unfold okv2; simpa using hs)
          rw [er]
          clear er
          have hne := beq_of_ne hs
          clear hs
          go_enter Tryd.func9, Tryd.ntmps9
          go_wp2_with fail
          refine (dig_yes r1 d _).mono ?_
          rintro e w' ⟨rfl, rfl⟩
          go_wp2_with fail
          refine (dig_yes now e _).mono ?_
          rintro e w' ⟨rfl, rfl⟩
          go_wp2_with fail
          refine hy.mono ?_
          rintro e w1 ⟨rfl, hb1⟩
          go_wp2
          go_ret
          exact ⟨rfl, hb1⟩
      · have er : (if okv2 (r1, r2, true) = some (old, now) then (0 : Int) else 80) = 80 := if_neg (by unfold okv2; simp; intro h; exact absurd h hr)
        rw [er]
        clear er
        have hne := beq_of_ne hr
        clear hr
        go_enter Tryd.func9, Tryd.ntmps9
        go_wp2_with fail
        refine (dig_yes old d _).mono ?_
        rintro e w' ⟨rfl, rfl⟩
        go_wp2_with fail
        refine (dig_yes now e _).mono ?_
        rintro e w' ⟨rfl, rfl⟩
        go_wp2_with fail
        refine hy.mono ?_
        rintro e w1 ⟨rfl, hb1⟩
        go_wp2
        go_ret
        exact ⟨rfl, hb1⟩
end Go.Proofs.YtjamahpccblkiabDoor
