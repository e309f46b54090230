/-
  The document's SameTexts by its contract.
-/
import Derived.Test.YtllmjlobhjcbkaaPack
import Derived.Deep.QuietTactic
import Derived.BigQuiet
namespace Go.Proofs.Ytllmjlobhjcbkaa
open Go.RowKit

def lst (L : List ByteArray) : List (List UInt8) := L.map fun s => s.data.toList
def eqS (L M : List ByteArray) : Bool := lst L == lst M
theorem eqS_len {L M : List ByteArray} (h : L.length ≠ M.length) : eqS L M = false := by
  rw [eqS, beq_eq_false_iff_ne]
  intro e
  have := congrArg List.length e
  simp [lst] at this
  omega
theorem eqS_at {L M : List ByteArray} {k : Nat} (h1 : k < L.length) (h2 : k < M.length) (h : L[k].data.toList ≠ M[k].data.toList) : eqS L M = false := by
  rw [eqS, beq_eq_false_iff_ne]
  intro e
  apply h
  have e1 : (lst L)[k]? = (lst M)[k]? := by rw [e]
  simpa [lst, List.getElem?_eq_getElem h1, List.getElem?_eq_getElem h2] using e1
theorem eqS_all {L M : List ByteArray} (h : L.length = M.length) (hk : ∀ k (h1 : k < L.length) (h2 : k < M.length), L[k].data.toList = M[k].data.toList) : eqS L M = true := by
  rw [eqS, beq_iff_eq]
  apply List.ext_getElem (by simpa [lst] using h)
  intro i h1 h2
  simpa [lst] using hk i (by simpa [lst] using h1) (by simpa [lst] using h2)

set_option maxHeartbeats 800000 in
theorem sameTexts_any (a a' : Option Addr) (L M : List ByteArray) (c c' : Nat) (w : World) (_hl : L.length ≤ 140737488351232) (hm : M.length ≤ 140737488351232) (h1 : Strs w a L) (h2 : Strs w a' M) :
    Calls Try.prog 34 #[.slice a L.length c, .slice a' M.length c'] w fun e w' => e = .returned (.bool (eqS L M)) ∧ Below w.heap.size w w' := by
  by_cases hlen : L.length = M.length
  · have hz : ((L.length : Int) != (M.length : Int)) = false := by simp; omega
    have HE : Hid (L.length = M.length) := hlen
    have hle : L.length ≤ M.length := by omega
    clear hlen
    go_enter Try.func34, Try.ntmps34
    go_wp2
    go_loopw [5] (fun i wr => ∃ k : Nat, k ≤ L.length ∧ i = .int .i64 k ∧ (∀ j (x : j < L.length) (y : j < M.length), j < k → L[j].data.toList = M[j].data.toList) ∧ Below w.heap.size w wr)
      (fun i _ => L.length - (intOf i).toNat)
    case atStart => exact ⟨0, Nat.zero_le _, rfl, fun j _ _ hj => by omega, Below.refl _ _⟩
    case round =>
      obtain ⟨k, hk, rfl, hall, hnx⟩ := hrel
      have HA : Hid (∀ j (x : j < L.length) (y : j < M.length), j < k → L[j].data.toList = M[j].data.toList) := hall
      clear hall
      by_cases hlt : k < L.length
      · have hlt' : k < M.length := by omega
        obtain ⟨b, off, rfl, hbl, hcs⟩ := h1.at hlt
        obtain ⟨b', off', rfl, hbl', hcs'⟩ := h2.at hlt'
        have hcell : wr.cell? ⟨b, off + k, none⟩ = some (.string L[k]) := (hnx.cell (p := ⟨b, off + k, none⟩) hbl).trans (hcs k hlt)
        have hcell' : wr.cell? ⟨b', off' + k, none⟩ = some (.string M[k]) := (hnx.cell (p := ⟨b', off' + k, none⟩) hbl').trans (hcs' k hlt')
        have k1 : (k : Int) < (L.length : Int) := by omega
        have k2 : (k : Int) < (M.length : Int) := by omega
        clear hcs hcs'
        by_cases heq : L[k].data.toList = M[k].data.toList
        · have hq : (!L[k].toList == M[k].toList) = false := by simp [ByteArray.toList_eq, heq]
          have HQ : Hid (L[k].data.toList = M[k].data.toList) := heq
          clear heq
          go_wp2_with fail
          go_quiet (fail)
          go_wp2
          go_roundw
          case rel =>
            refine ⟨k + 1, by omega, by go_num, ?_, below_drewN hnx _⟩
            intro j x y hj
            by_cases hjk : j = k
            · subst hjk
              exact HQ.out
            · exact HA.out j x y (by omega)
          case measure => simp [intOf]; omega
        · have hq : (!L[k].toList == M[k].toList) = true := by simp only [ByteArray.toList_eq, Bool.not_eq_true', beq_eq_false_iff_ne]; exact heq
          have HQ : Hid (eqS L M = false) := eqS_at hlt hlt' heq
          clear heq
          go_wp2_with fail
          go_quiet (fail)
          go_wp2
          go_ret
          exact ⟨ret_bool HQ.out.symm, below_drewN hnx _⟩
      · have HQ : Hid (eqS L M = true) := eqS_all HE.out (fun j x y => HA.out j x y (by omega))
        go_wp2
        go_ret
        exact ⟨ret_bool HQ.out.symm, hnx⟩
  · have hz : ((L.length : Int) != (M.length : Int)) = true := by simp; omega
    have HN : Hid (eqS L M = false) := eqS_len hlen
    clear hlen
    go_enter Try.func34, Try.ntmps34
    go_wp2
    go_ret
    exact ⟨ret_bool HN.out.symm, Below.refl _ _⟩
end Go.Proofs.Ytllmjlobhjcbkaa
