/-
  A log on a new device.
-/
import Derived.Test.YtllmjlobhjcbkaaFrames
import Derived.Test.YtllmjlobhjcbkaaNew
namespace Go.Proofs.Ytllmjlobhjcbkaa
open Go.RowKit

theorem crc_zero : crcN (List.replicate 16 0) ≠ 0 := by decide +kernel
theorem fr_zero0 {S : List ByteArray} {g : G} (h : S[g.at']? = some zsec) : fr S g = none := by
  have hh := frHead_zero h
  by_cases he : stampL g = List.replicate 16 0
  · have hle : frLead S g = 0 := by rw [frLead, hh]; rfl
    have hln : frLen S g = 0 := by rw [frLen, hle]
    have ha : frAll S g = List.replicate 24 0 := by rw [frAll, hln]; exact hh
    refine fr_none4 ?_
    rw [ha, hle]
    exact crc_zero
  · refine fr_none2 ?_
    rw [hh]
    intro e
    exact he e.symm
theorem new_held {n p k ep : Nat} (hk : 1 ≤ k) (hn : p + k ≤ n) (hn4 : n ≤ 4096) (hep : ep < 18446744073709551616) : Held (D.new n blank) (G.new p k ep) (G.new p k ep) [] := by
  refine ⟨⟨rfl, rfl, rfl, ?_⟩, rfl, ?_, ⟨by simp [G.new], by simp [G.new]; omega, hep, by simp [G.new]⟩, by simp [G.new], by simp [G.new, D.new]; omega, rfl⟩
  · intro x hx
    simp only [D.new, List.mem_replicate] at hx
    rw [hx.2]
    exact zsec_size
  · refine fr_zero0 ?_
    simp only [D.new, G.new]
    rw [List.getElem?_replicate, if_pos (by omega)]
    rfl
end Go.Proofs.Ytllmjlobhjcbkaa
