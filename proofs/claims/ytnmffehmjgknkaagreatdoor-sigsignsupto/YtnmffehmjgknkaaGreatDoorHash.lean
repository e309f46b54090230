/-
  hash.MD5 and hash.SHA256 by their contracts.
-/
import Derived.Test.YtnmffehmjgknkaaGreatDoorSum
namespace Go.Proofs.YtnmffehmjgknkaaGreatDoor
open Go.RowKit

theorem Bytes.blk {w : World} {a : Option Addr} {l : List UInt8} (h : Bytes w a l) (hl : 0 < l.length) : ∀ ad, a = some ad → ad.block < w.heap.size := by
  intro ad e
  obtain ⟨b, off, rfl, hb, _⟩ := h.at hl
  cases e
  exact hb
theorem Bytes.grown {w w' : World} {a : Option Addr} {l : List UInt8} {g : Nat} (h : Bytes w a l) (hg : w.grownBy w' (some g)) (hne : 0 < l.length → ∀ ad, a = some ad → ad.block ≠ g) : Bytes w' a l := by
  rcases h with rfl | ⟨b, off, rfl, hb, hc⟩
  · exact .inl rfl
  · rcases Nat.eq_zero_or_pos l.length with h0 | h0
    · exact .inl (List.eq_nil_of_length_eq_zero h0)
    · refine .inr ⟨b, off, rfl, Nat.lt_of_lt_of_le hb hg.size, fun j hj => ?_⟩
      rw [World.cell?_of_block (w := w) (a := ⟨b, off + j, none⟩) (hg.block b hb (by have := hne h0 _ rfl; simpa using this))]
      exact hc j hj
theorem own_mono {w : World} {b b' : Nat} {v : Value} {l : List UInt8} (h : Own w b v l) (hb : b' ≤ b) : Own w b' v l := by
  obtain ⟨h1, h2⟩ := h
  refine ⟨h1, ?_⟩
  rcases h2 with h2 | ⟨g, cap, cur, hv, hg, r⟩
  · exact .inl h2
  · exact .inr ⟨g, cap, cur, hv, Nat.le_trans hb hg, r⟩

def mInit : S4 := ⟨0x67452301, 0xefcdab89, 0x98badcfe, 0x10325476⟩
/-- The sum of a text. -/
def md5L (l : List UInt8) : List UInt8 := md5Out (eat mMix (mfin (rest l) l.length) (eat mMix l mInit))
def sInit : S8 := ⟨0x6a09e667, 0xbb67ae85, 0x3c6ef372, 0xa54ff53a, 0x510e527f, 0x9b05688c, 0x1f83d9ab, 0x5be0cd19⟩
/-- The sum of a text. -/
def shaL (l : List UInt8) : List UInt8 := shaOut (eat sMix (sfin (rest l) l.length) (eat sMix l sInit))
theorem sha_any (a : Option Addr) (l : List UInt8) (cap : Nat) (w : World) (hcap : l.length ≤ cap) (hl : l.length ≤ 281474976710656) (hb : Bytes w a l) :
    Calls Tryz.prog 50 #[.slice a l.length cap] w fun e w' => ∃ v, e = .returned v ∧ Own w' w.heap.size v (shaL l) ∧ Below w.heap.size w w' := by
  have hblk : 64 ≤ l.length → ∀ ad, a = some ad → ad.block < w.heap.size := fun h => hb.blk (by omega)
  have hblk' : 0 < l.length → ∀ ad, a = some ad → ad.block < w.heap.size := fun h => hb.blk h
  go_enter Tryz.func50, Tryz.ntmps50
  go_wp2_with fail
  refine (newSHA_any _).mono ?_
  rintro e w1 ⟨rfl, rfl⟩
  have hst : Wds (w.alloc (.cells (wcs sInit.toL).toArray 175)) w.heap.size 175 sInit.toL := Wds.new w 175 sInit.toL
  have hb1 : Below w.heap.size w (w.alloc (.cells (wcs sInit.toL).toArray 175)) := (Below.refl _ _).alloc (Nat.le_refl _) _
  have HC : Hid _ := shaTake_any w.heap.size sInit a l cap _ hcap hl hst (hb.below hb1 (Nat.le_refl _)) (fun h ad e => by have := hblk h ad e; omega)
  clear hst
  go_wp2_with fail
  refine Calls.mono HC.out ?_
  rintro e w2 ⟨ra, rc, rfl, hr, hrb, hrc, hg2, hw2⟩
  have hr2 : Bytes w2 ra (rest l) := hr.grown hg2 (fun h ad e => by
    obtain ⟨ad0, e0, eb⟩ := hrb ad e
    have := hblk' (by rw [rest_length] at h; omega) ad0 e0
    omega)
  have hlr := rest_length l
  have hb2 : Below w.heap.size w w2 := hb1.trans (grown_below hg2 hb1.size (Nat.le_refl _))
  have HC2 : Hid _ := shaSum_any w.heap.size _ ra (rest l) rc l.length w2 (by omega) (by omega) hw2 hr2
  rw [hlr] at HC2
  have hs2 := hb2.size
  clear HC hr hrb hrc hg2 hw2 hr2 hlr hb1
  go_wp2_with fail
  refine Calls.mono HC2.out ?_
  rintro e w3 ⟨v, rfl, ho, hb3⟩
  have B3 : Below w.heap.size w w3 := hb2.trans (hb3.mono hs2)
  have HO : Hid _ := own_mono ho hs2
  clear ho hb3 HC2
  go_wp2
  go_ret
  exact ⟨_, rfl, HO.out, B3⟩
end Go.Proofs.YtnmffehmjgknkaaGreatDoor
