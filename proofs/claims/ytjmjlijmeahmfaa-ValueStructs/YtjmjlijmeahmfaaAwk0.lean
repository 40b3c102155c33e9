/- The struct of 'awake': its order, its bytes, what they are taken as. -/
import Derived.Test.YtjmjlijmeahmfaaStr
import Derived.Test.YtjmjlijmeahmfaaGet
import Derived.Test.YtjmjlijmeahmfaaDcd
import Derived.Test.YtjmjlijmeahmfaaCmx
namespace Go.Proofs.Ytjmjlijmeahmfaa
open Go.RowKit
def gA (i : Nat) : ByteArray := if i = 0 then ⟨#[98]⟩ else ⟨#[97]⟩
def fA (i : Nat) : Tr := if i = 0 then leafT 2 false 1 ⟨#[]⟩ else leafT 3 false 0 ⟨#[120]⟩
theorem gA0 : gA 0 = ⟨#[98]⟩ := rfl
theorem gA1 : gA 1 = ⟨#[97]⟩ := rfl
theorem cmpA : cmpB (gA 1) (gA 0) = -1 := by decide
theorem sortA : sortF gA 1 (idF 1) = #[1, 0] := by
  have h : ltOf (cfF gA 1) (1 : Fin 2) (0 : Fin 2) = true := by
    show decide (cmpB (gA 1) (gA 0) < 0) = true
    rw [cmpA]; decide
  have h2 : idF 1 = #[0, 1] := by decide
  unfold sortF Sort.insertionSort
  rw [h2]
  show Sort.insOuter _ 0 2 1 _ = _
  unfold Sort.insOuter
  rw [if_pos (by omega)]
  unfold Sort.insOuter
  rw [if_neg (by omega)]
  show (if (decide (0 + 1 > 0) && ltOf (cfF gA 1) (1 : Fin 2) (0 : Fin 2)) = true then Sort.insInner _ 0 0 _ else _) = _
  rw [h]
  rfl
theorem osA0 : osF gA 1 0 = 1 := by unfold osF; rw [sortA]; rfl
theorem osA1 : osF gA 1 1 = 0 := by unfold osF; rw [sortA]; rfl
theorem neA : ((gA 0).toList == (gA 1).toList) = false := by rw [Lib.toList_data, Lib.toList_data]; decide
theorem keptA : keptP gA (osF gA 1) 2 2 = [1, 0] := by
  have k1 : keepP gA (osF gA 1) 2 1 = true := by unfold keepP; rfl
  have k0 : keepP gA (osF gA 1) 2 0 = true := by unfold keepP; rw [osA0, osA1, neA]; rfl
  show (if keepP gA (osF gA 1) 2 1 then (if keepP gA (osF gA 1) 2 0 then [] ++ [osF gA 1 0] else []) ++ [osF gA 1 1] else _) = _
  rw [if_pos k1, if_pos k0, osA0, osA1]
  rfl
def tA : Tr := .mk 6 false 0 ⟨#[]⟩ 2 (fun j => fA (([1, 0] : List Nat).getD j 0)) 2 (fun j => (([1, 0] : List Nat).map gA).getD j ⟨#[]⟩)
theorem structA : structT gA fA (osF gA 1) (1 + 1) = tA := by unfold structT; rw [keptA]; rfl
def bA : ByteArray := ⟨#[6, 2, 1, 97, 3, 1, 120, 1, 98, 2, 2]⟩
theorem put1 : put 1 = [1] := by rw [put]; decide
theorem put2 : put 2 = [2] := by rw [put]; decide
theorem leaf3 : soundT (leafT 3 false 0 ⟨#[120]⟩) 2 = 0 := by
  have h3 : formedB 3 false 0 ⟨#[120]⟩ 0 0 = true := by unfold formedB; rw [empty_size]; decide
  unfold leafT
  rw [soundT, if_neg (by decide), if_neg (by rw [h3]; decide), if_neg (by decide), if_neg (fun h => absurd h.1 (by decide))]
  rfl
theorem leaf2 : soundT (leafT 2 false 1 ⟨#[]⟩) 2 = 0 := by
  have h2 : formedB 2 false 1 ⟨#[]⟩ 0 0 = true := by unfold formedB; rw [empty_size]; decide
  unfold leafT
  rw [soundT, if_neg (by decide), if_neg (by rw [h2]; decide), if_neg (by decide), if_neg (fun h => absurd h.1 (by decide))]
  rfl
section
variable {f : Nat → Tr} {g : Nat → ByteArray} (f0 : f 0 = leafT 3 false 0 ⟨#[120]⟩) (f1 : f 1 = leafT 2 false 1 ⟨#[]⟩) (g0 : g 0 = ⟨#[97]⟩) (g1 : g 1 = ⟨#[98]⟩)
include f0 f1 g0 g1
theorem bytesA2 : bytesT (.mk 6 false 0 ⟨#[]⟩ 2 f 2 g) = bA.data.toList := by
  show 6 :: (put 2 ++ (([] ++ (textL (g 0) ++ bytesT (f 0))) ++ (textL (g 1) ++ bytesT (f 1)))) = _
  rw [f0, f1, g0, g1]
  show 6 :: (put 2 ++ (([] ++ ((put 1 ++ [97]) ++ (3 :: (put 1 ++ [120])))) ++ ((put 1 ++ [98]) ++ (2 :: put 2)))) = _
  rw [put1, put2]
  rfl
theorem soundA : soundT (.mk 6 false 0 ⟨#[]⟩ 2 f 2 g) 1 = 0 := by
  have hf : formedB 6 false 0 ⟨#[]⟩ 2 2 = true := by unfold formedB; rw [empty_size]; decide
  have hn : namedB 2 2 g = true := by
    refine namedB_yes (fun i hi => ?_)
    have : i = 0 ∨ i = 1 := by omega
    rcases this with rfl | rfl
    · unfold okN; rw [g0]; decide
    · unfold okN
      rw [Lib.toList_data, Lib.toList_data, g1]
      show (nameB _ && (_ || Op.bytesLess (g 0).data.toList _)) = true
      rw [g0]
      decide
  rw [soundT, if_neg (by decide), if_neg (by rw [hf]; decide), if_neg (by decide), if_neg (by rw [hn]; decide)]
  show (if (if (0 : Int) = 0 then soundT (f 0) 2 else 0) = 0 then soundT (f 1) 2 else (if (0 : Int) = 0 then soundT (f 0) 2 else 0)) = 0
  rw [f0, f1, leaf3, leaf2]
  rfl
theorem checkA : checkT (.mk 6 false 0 ⟨#[]⟩ 2 f 2 g) = 0 := by unfold checkT; rw [soundA f0 f1 g0 g1, bytesA2 f0 f1 g0 g1]; decide
theorem encA : encT (.mk 6 false 0 ⟨#[]⟩ 2 f 2 g) = bA := by unfold encT; rw [checkA f0 f1 g0 g1, bytesA2 f0 f1 g0 g1]; rfl
end
theorem takeA2 : (takeA bA 8 0 0).t = .mk 6 false 0 ⟨#[]⟩ 2 (takeA bA 8 0 0).t.f 2 (takeA bA 8 0 0).t.g ∧ (takeA bA 8 0 0).t.f 0 = leafT 3 false 0 ⟨#[120]⟩ ∧ (takeA bA 8 0 0).t.f 1 = leafT 2 false 1 ⟨#[]⟩ ∧ (takeA bA 8 0 0).t.g 0 = ⟨#[97]⟩ ∧ (takeA bA 8 0 0).t.g 1 = ⟨#[98]⟩ := ⟨rfl, rfl, rfl, rfl, rfl⟩
theorem endA : endE bA (takeA bA 8 0 0) = 0 := by decide
def tW : Tr := (takeA bA 8 0 0).t
theorem decA : decE bA = 0 := by
  unfold decE
  rw [if_pos endA, takeA2.1]
  exact checkA takeA2.2.1 takeA2.2.2.1 takeA2.2.2.2.1 takeA2.2.2.2.2
theorem sameA : cmpT tA tW = 0 := by decide
theorem idxA : Lib.idxBy (fun _ y => y.toList == (⟨#[97]⟩ : ByteArray).toList) ((List.range 2).map tW.g) (default : ByteArray) = 0 := by
  show Lib.idxBy _ [tW.g 0, tW.g 1] _ = _
  rw [show tW.g 0 = ⟨#[97]⟩ from takeA2.2.2.2.1, show tW.g 1 = ⟨#[98]⟩ from takeA2.2.2.2.2]
  simp only [Lib.toList_data]
  decide
theorem idxB : Lib.idxBy (fun _ y => y.toList == (⟨#[98]⟩ : ByteArray).toList) ((List.range 2).map tW.g) (default : ByteArray) = 1 := by
  show Lib.idxBy _ [tW.g 0, tW.g 1] _ = _
  rw [show tW.g 0 = ⟨#[97]⟩ from takeA2.2.2.2.1, show tW.g 1 = ⟨#[98]⟩ from takeA2.2.2.2.2]
  simp only [Lib.toList_data]
  decide
end Go.Proofs.Ytjmjlijmeahmfaa
