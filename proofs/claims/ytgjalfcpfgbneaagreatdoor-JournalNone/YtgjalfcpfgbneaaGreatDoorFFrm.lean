/- Plain facts: the frame of a body is found where it stands, with just that body, and good. No condition but that the body has at most 65536 bytes. -/
import Derived.Test.YtgjalfcpfgbneaaGreatDoorFMath
namespace Go.Proofs.YtgjalfcpfgbneaaGreatDoor.F
open Go
theorem sub_mid (p m r : List UInt8) (a b : Nat) (ha : a = p.length) (hb : b = p.length + m.length) : sub (p ++ (m ++ r)) a b = m := by
  subst ha hb
  unfold sub
  rw [List.drop_left]
  have : p.length + m.length - p.length = m.length := by omega
  rw [this, List.take_left]
theorem lenB_nat (b : List UInt8) (h : b.length ≤ 65536) : (lenB b).toNat = b.length := by
  unfold lenB; rw [BitVec.toNat_ofNat]; omega
theorem frame_split (p b r : List UInt8) : p ++ (frameL b ++ r) = p ++ (four (lenB b) ++ (four (checkB (four (lenB b))) ++ (four (checkB b) ++ (b ++ r)))) := by
  simp [frameL, headL]
theorem sub_at4 (p b r : List UInt8) : sub (p ++ (frameL b ++ r)) p.length (p.length + 4) = four (lenB b) := by
  rw [frame_split]
  exact sub_mid p (four (lenB b)) _ _ _ rfl (by rw [four_len])
theorem long_frame (p b r : List UInt8) (h : b.length ≤ 65536) : longF (p ++ (frameL b ++ r)) p.length = b.length := by
  unfold longF
  rw [sub_at4, num_four, lenB_nat b h]
theorem sub_at8 (p b r : List UInt8) : sub (p ++ (frameL b ++ r)) (p.length + 4) (p.length + 8) = four (checkB (four (lenB b))) := by
  rw [frame_split, ← List.append_assoc p]
  exact sub_mid (p ++ four (lenB b)) _ _ _ _ (by simp [four_len]) (by simp [four_len])
theorem sub_at12 (p b r : List UInt8) : sub (p ++ (frameL b ++ r)) (p.length + 8) (p.length + 12) = four (checkB b) := by
  rw [frame_split, ← List.append_assoc p, ← List.append_assoc (p ++ _)]
  exact sub_mid (p ++ four (lenB b) ++ four (checkB (four (lenB b)))) _ _ _ _ (by simp [four_len]) (by simp [four_len])
theorem sub_body (p b r : List UInt8) : sub (p ++ (frameL b ++ r)) (p.length + 12) (p.length + 12 + b.length) = b := by
  rw [frame_split, ← List.append_assoc p, ← List.append_assoc (p ++ _), ← List.append_assoc (p ++ _ ++ _)]
  exact sub_mid (p ++ four (lenB b) ++ four (checkB (four (lenB b))) ++ four (checkB b)) _ _ _ _ (by simp [four_len]) (by simp [four_len])
theorem there_frame (p b r : List UInt8) (h : b.length ≤ 65536) : there (p ++ (frameL b ++ r)) p.length := by
  refine ⟨?_, ⟨?_, ?_⟩, ?_⟩
  · simp [frameL_len]; omega
  · rw [long_frame p b r h]; exact h
  · rw [sub_at8, sub_at4, num_four]
  · rw [long_frame p b r h]; simp [frameL_len]; omega
theorem frF_frame (p b r : List UInt8) (h : b.length ≤ 65536) : frF (p ++ (frameL b ++ r)) p.length = ⟨p.length + 12, b, true⟩ := by
  have e : bodyF (p ++ (frameL b ++ r)) p.length = b := by
    unfold bodyF; rw [long_frame p b r h, sub_body]
  unfold frF
  rw [e, sub_at12, num_four]
  simp
theorem scan_frame (p b r : List UInt8) (h : b.length ≤ 65536) : scanL (p ++ (frameL b ++ r)) p.length = ⟨p.length + 12, b, true⟩ :: scanL (p ++ (frameL b ++ r)) (p.length + 12 + b.length) := by
  rw [scanL_yes _ _ (there_frame p b r h), frF_frame p b r h]; rfl
theorem scan_end (s : List UInt8) (a : Nat) (h : s.length < a + 12) : scanL s a = [] :=
  scanL_no _ _ (fun ht => by have := ht.1; omega)
theorem scan_one (b : List UInt8) (h : b.length ≤ 65536) : scanL (frameL b) 0 = [⟨12, b, true⟩] := by
  have h1 := scan_frame [] b [] h
  simp at h1
  rw [h1, scan_end _ _ (by rw [frameL_len]; omega)]
end Go.Proofs.YtgjalfcpfgbneaaGreatDoor.F
