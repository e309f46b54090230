/-
  chars.isAddress, Bucket and Fold by their contracts; 'awake' of the statements' package.
-/
import Derived.Test.YtmodmeabjhaklaaGreatDoorSplit
import Derived.Test.YtmodmeabjhaklaaGreatDoorUne
import Derived.Test.YtmodmeabjhaklaaGreatDoorCount
namespace Go.Proofs.YtmodmeabjhaklaaGreatDoor
open Go.RowKit

def addrB (l : List UInt8) : Bool := decide ((splitL 46 l).length = 4) && (splitL 46 l).all (allB digB)
theorem enter77 : ∀ args w, (callFunc 132 args).run Tryz.prog w = .ok (.enter 132 args) w := fun args w => Tryz.call132 args w
theorem piece_size {c : UInt8} : ∀ {l : List UInt8} {x : List UInt8}, x ∈ splitL c l → x.length ≤ l.length
  | [], x, h => by simp [splitL] at h; simp [h]
  | a :: r, x, h => by
    unfold splitL at h
    split at h
    · rcases List.mem_cons.1 h with rfl | h
      · simp
      · have := piece_size h; simp; omega
    · have ih := @piece_size c r
      cases hs : splitL c r with
      | nil => exact absurd hs (splitL_ne c r)
      | cons y ys =>
        rw [hs] at h ih
        simp only at h
        rcases List.mem_cons.1 h with rfl | h
        · have := ih (List.mem_cons_self); simp; omega
        · have := ih (List.mem_cons_of_mem _ h); simp; omega

def lenB (l : List UInt8) : Bool := decide (3 ≤ l.length ∧ l.length ≤ 63)
def bucketB (l : List UInt8) : Bool := lenB l && (allB bukB l && (lodB (at0 l 0 : Nat) && (lodB (at0 l (l.length - 1) : Nat) && (!Lib.contains l [46, 46] && !addrB l))))
theorem at0_s' {s : ByteArray} {k : Nat} (h : k < s.size) : (at0 s.data.toList k : Int) = (s[k].toNat : Int) := by
  unfold at0
  rw [List.getD_eq_getElem?_getD, List.getElem?_eq_getElem (by simpa using h)]
  rfl

end Go.Proofs.YtmodmeabjhaklaaGreatDoor
