/-
  What Pack wrote, Unpack reads: as lists.
-/
import Derived.Test.YtbbjkdnebgeioaaDoorUnpack
namespace Go.Proofs.YtbbjkdnebgeioaaDoor

theorem vl_be (n : Nat) (x : List UInt8) (hn : n < 4294967296) : vl (be n 4 ++ x) 4 = n := by
  simp [vl, be]
  omega
theorem pack_cons (s : ByteArray) (M : List ByteArray) : packL (s :: M) = be s.size 4 ++ (s.data.toList ++ packL M) := by
  show packOne s ++ packL M = _
  rw [packOne, List.append_assoc]
theorem unp_pack : ∀ L : List ByteArray, (∀ s ∈ L, s.size < 4294967296) → unp ((packL L).length + 1) (packL L) = some L
  | [], _ => unp_nil rfl
  | s :: M, h => by
    have hs := h s (by simp)
    have ih := unp_pack M fun x hx => h x (by simp [hx])
    have hv : vl (packL (s :: M)) 4 = s.size := by rw [pack_cons]; exact vl_be _ _ hs
    have hl : (packL (s :: M)).length = 4 + s.size + (packL M).length := by rw [packL_length, packL_length, tot]
    have hd4 : (packL (s :: M)).drop 4 = s.data.toList ++ packL M := by
      rw [pack_cons]
      exact List.drop_left' (be_length _ 4)
    have hsz : s.data.toList.length = s.size := by simp
    have hd : (packL (s :: M)).drop (4 + vl (packL (s :: M)) 4) = packL M := by
      rw [hv, ← List.drop_drop, hd4]
      exact List.drop_left' hsz
    have hp : piece (packL (s :: M)) = s := by
      rw [piece, hv, hd4, List.take_left' hsz]
    rw [unp_step (by omega) (by omega), hd, hp, ih]
    rfl
theorem uL_pack {L : List ByteArray} (h : ∀ s ∈ L, s.size < 4294967296) : uL (packL L) = L ∧ uOk (packL L) = true := by
  rw [uL, uOk, unp_pack L h]
  exact ⟨rfl, rfl⟩
theorem tot_mem {L : List ByteArray} {s : ByteArray} (h : s ∈ L) : s.size ≤ tot L := by
  induction L with
  | nil => simp at h
  | cons a r ih =>
    simp only [List.mem_cons] at h
    rw [tot]
    rcases h with rfl | h
    · omega
    · have := ih h
      omega
end Go.Proofs.YtbbjkdnebgeioaaDoor
