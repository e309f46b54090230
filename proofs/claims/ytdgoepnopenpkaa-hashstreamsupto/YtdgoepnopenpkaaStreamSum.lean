/-
  (*Stream).Sum by its contract; both kinds of streams told by one form.
-/
import Derived.Test.YtdgoepnopenpkaaWriteB
import Derived.Test.YtdgoepnopenpkaaHash
namespace Go.Proofs.Ytdgoepnopenpkaa
open Go.RowKit

theorem slice_first (sg H : Nat) (w : World) (hH : H < 64) : (Instr.sliceAt 42 (.pointer (some ⟨sg, 1, none⟩)) none (some (.int .i64 (H : Int))) none).run Try.prog w = .ok (.slice (some ⟨sg, 1, none⟩) H 64) w := by
  have hl : (Try.prog.arrayLen 42) = 64 := by kernel_rfl
  obtain ⟨i0, hi, hz0, hz1, hz2⟩ := info_parts info5
  simp [Instr.sliceAt, Instr.sureAddr, run_underlying Try.underlying42, Instr.sliceBounds, run_sliceBound, sizeOf, typeInfo, hi, (by omega : (H : Int) ≤ 64), Addr.add]

set_option maxHeartbeats 2000000 in
theorem md5StreamSum (sg kg : Nat) (l : List UInt8) (w : World) (hI : SImd5 w sg kg l) (hl : l.length ≤ 281474976710656) :
    Calls Try.prog 20 #[.pointer (some ⟨sg, 0, none⟩)] w fun e w' => ∃ v, e = .returned v ∧ Own w' w.heap.size v (md5L l) ∧ Below w.heap.size w w' := by
  obtain ⟨hne, hK, R, hR, hRt, hS⟩ := hI
  have c65 := hS.size hR
  have c0 := hS.kind
  obtain ⟨H, hH⟩ : ∃ H, H = l.length % 64 := ⟨_, rfl⟩
  have hHn : H < 64 := by omega
  have hHi : Int.tmod (l.length : Int) 64 = (H : Int) := by rw [Int.tmod_eq_emod_of_nonneg (by omega)]; omega
  have hlb : (l.length : Int) ≤ 281474976710656 := by omega
  have hrl : (rest l).length = H := by rw [rest_length, hH]
  have hby : Bytes w (some ⟨sg, 1, none⟩) (rest l) := hS.bytes hR (rest l) (by rw [hrl, hH]; exact hRt)
  have hsl : ∀ wx, (Instr.sliceAt 42 (.pointer (some ⟨sg, 1, none⟩)) none (some (.int .i64 (H : Int))) none).run Try.prog wx = .ok (.slice (some ⟨sg, 1, none⟩) H 64) wx := fun wx => slice_first sg H wx hHn
  have HC : Hid (Calls Try.prog 38 #[.iface 48 (.pointer (some ⟨kg, 0, none⟩)), .slice (some ⟨sg, 1, none⟩) H 64, .int .i64 (l.length : Int)] w.drew fun e w' => ∃ v, e = .returned v ∧ Own w' w.heap.size v (md5L l) ∧ Below w.heap.size w w') := by
    have := sumOf_md5 kg (eat mMix l mInit) (some ⟨sg, 1, none⟩) (rest l) 64 l.length w.drew (by omega) (by omega) hK (Bytes.same hby rfl)
    rw [hrl] at this
    exact this.mono fun e w' ⟨v, he, h1, h2⟩ => ⟨v, he, h1, ⟨h2.os, h2.tape, h2.output, h2.size, h2.block⟩⟩
  have HLT : Hid (sg < w.heap.size) := hS.lt
  clear hK hRt hS hR hH hrl hby
  go_enter Try.func20, Try.ntmps20
  go_wp2_with fail
  go_region_held3 (fun w' => w'.cell? ⟨sg, 0, none⟩ = some (.iface 48 (.pointer (some ⟨kg, 0, none⟩))) ∧ w'.cell? ⟨sg, 65, none⟩ = some (.int .i64 (l.length : Int))) (go_keep)
    (first
      | (go_at_call 38; refine Calls.mono HC.out ?_; rintro e w2 ⟨v, rfl, ho, hb⟩; have s0 : w2.cell? ⟨sg, 0, none⟩ = some (.iface 48 (.pointer (some ⟨kg, 0, none⟩))) := (hb.cell (p := ⟨sg, 0, none⟩) HLT.out).trans c0; have s1 : w2.cell? ⟨sg, 65, none⟩ = some (.int .i64 (l.length : Int)) := (hb.cell (p := ⟨sg, 65, none⟩) HLT.out).trans c65))
  have HF : Hid (Own w2 w.heap.size v (md5L l) ∧ Below w.heap.size w w2) := ⟨ho, hb⟩
  clear ho hb s0 s1 HC c0 c65
  go_wp2
  go_ret
  exact ⟨_, rfl, HF.out⟩
set_option maxHeartbeats 2000000 in
theorem shaStreamSum (sg kg : Nat) (l : List UInt8) (w : World) (hI : SIsha w sg kg l) (hl : l.length ≤ 281474976710656) :
    Calls Try.prog 20 #[.pointer (some ⟨sg, 0, none⟩)] w fun e w' => ∃ v, e = .returned v ∧ Own w' w.heap.size v (shaL l) ∧ Below w.heap.size w w' := by
  obtain ⟨hne, hK, R, hR, hRt, hS⟩ := hI
  have c65 := hS.size hR
  have c0 := hS.kind
  obtain ⟨H, hH⟩ : ∃ H, H = l.length % 64 := ⟨_, rfl⟩
  have hHn : H < 64 := by omega
  have hHi : Int.tmod (l.length : Int) 64 = (H : Int) := by rw [Int.tmod_eq_emod_of_nonneg (by omega)]; omega
  have hlb : (l.length : Int) ≤ 281474976710656 := by omega
  have hrl : (rest l).length = H := by rw [rest_length, hH]
  have hby : Bytes w (some ⟨sg, 1, none⟩) (rest l) := hS.bytes hR (rest l) (by rw [hrl, hH]; exact hRt)
  have hsl : ∀ wx, (Instr.sliceAt 42 (.pointer (some ⟨sg, 1, none⟩)) none (some (.int .i64 (H : Int))) none).run Try.prog wx = .ok (.slice (some ⟨sg, 1, none⟩) H 64) wx := fun wx => slice_first sg H wx hHn
  have HC : Hid (Calls Try.prog 38 #[.iface 45 (.pointer (some ⟨kg, 0, none⟩)), .slice (some ⟨sg, 1, none⟩) H 64, .int .i64 (l.length : Int)] w.drew fun e w' => ∃ v, e = .returned v ∧ Own w' w.heap.size v (shaL l) ∧ Below w.heap.size w w') := by
    have := sumOf_sha kg (eat sMix l sInit) (some ⟨sg, 1, none⟩) (rest l) 64 l.length w.drew (by omega) (by omega) hK (Bytes.same hby rfl)
    rw [hrl] at this
    exact this.mono fun e w' ⟨v, he, h1, h2⟩ => ⟨v, he, h1, ⟨h2.os, h2.tape, h2.output, h2.size, h2.block⟩⟩
  have HLT : Hid (sg < w.heap.size) := hS.lt
  clear hK hRt hS hR hH hrl hby
  go_enter Try.func20, Try.ntmps20
  go_wp2_with fail
  go_region_held3 (fun w' => w'.cell? ⟨sg, 0, none⟩ = some (.iface 45 (.pointer (some ⟨kg, 0, none⟩))) ∧ w'.cell? ⟨sg, 65, none⟩ = some (.int .i64 (l.length : Int))) (go_keep)
    (first
      | (go_at_call 38; refine Calls.mono HC.out ?_; rintro e w2 ⟨v, rfl, ho, hb⟩; have s0 : w2.cell? ⟨sg, 0, none⟩ = some (.iface 45 (.pointer (some ⟨kg, 0, none⟩))) := (hb.cell (p := ⟨sg, 0, none⟩) HLT.out).trans c0; have s1 : w2.cell? ⟨sg, 65, none⟩ = some (.int .i64 (l.length : Int)) := (hb.cell (p := ⟨sg, 65, none⟩) HLT.out).trans c65))
  have HF : Hid (Own w2 w.heap.size v (shaL l) ∧ Below w.heap.size w w2) := ⟨ho, hb⟩
  clear ho hb s0 s1 HC c0 c65
  go_wp2
  go_ret
  exact ⟨_, rfl, HF.out⟩

/-- What a stream of either kind does, its text told by a list. -/
structure Kind (sg kg : Nat) (SI : World → List UInt8 → Prop) (sumL : List UInt8 → List UInt8) : Prop where
  of : ∀ w w' l, SI w l → w'.heap[sg]? = w.heap[sg]? → w'.heap[kg]? = w.heap[kg]? → SI w' l
  lt : ∀ w l, SI w l → sg < w.heap.size ∧ kg < w.heap.size
  write : ∀ l a b cap w, SI w l → b.length ≤ cap → l.length + b.length ≤ 281474976710656 → Bytes w a b → (0 < b.length → ∀ ad, a = some ad → ad.block ≠ sg ∧ ad.block ≠ kg) →
    Calls Try.prog 19 #[.pointer (some ⟨sg, 0, none⟩), .slice a b.length cap] w fun e w' => e = .returned (.tuple #[]) ∧ SI w' (l ++ b) ∧ Kept2 sg kg w w'
  sum : ∀ l w, SI w l → l.length ≤ 281474976710656 → Calls Try.prog 20 #[.pointer (some ⟨sg, 0, none⟩)] w fun e w' => ∃ v, e = .returned v ∧ Own w' w.heap.size v (sumL l) ∧ Below w.heap.size w w'
  size : ∀ l w, SI w l → Calls Try.prog 21 #[.pointer (some ⟨sg, 0, none⟩)] w fun e w' => e = .returned (.int .i64 (l.length : Int)) ∧ w = w'
theorem kind_md5 (sg kg : Nat) : Kind sg kg (fun w l => SImd5 w sg kg l) md5L where
  of := fun _ _ _ h e1 e2 => h.of e1 e2
  lt := fun _ _ h => h.lt
  write := fun l a b cap w h h1 h2 h3 h4 => md5Write_any sg kg l a b cap w h h1 h2 h3 h4
  sum := fun l w h h1 => md5StreamSum sg kg l w h h1
  size := fun l w h => by obtain ⟨_, _, R, hR, _, hS⟩ := h; exact size_any sg _ R l.length w hS hR
theorem kind_sha (sg kg : Nat) : Kind sg kg (fun w l => SIsha w sg kg l) shaL where
  of := fun _ _ _ h e1 e2 => h.of e1 e2
  lt := fun _ _ h => h.lt
  write := fun l a b cap w h h1 h2 h3 h4 => shaWrite_any sg kg l a b cap w h h1 h2 h3 h4
  sum := fun l w h h1 => shaStreamSum sg kg l w h h1
  size := fun l w h => by obtain ⟨_, _, R, hR, _, hS⟩ := h; exact size_any sg _ R l.length w hS hR

/-- A new stream, of either kind, out of what New leaves. -/
theorem new_kind_md5 (w w1 : World) (h : w1 = (w.alloc (.cells (wcs mInit.toL).toArray 72)).alloc (.cells (strCells (.iface 48 (.pointer (some ⟨w.heap.size, 0, none⟩))) (noughts 64) 0) 60)) :
    SImd5 w1 (w.heap.size + 1) w.heap.size [] ∧ Below w.heap.size w w1 ∧ w1.heap.size = w.heap.size + 2 := by
  subst h
  have e0 : (w.alloc (.cells (wcs mInit.toL).toArray 72)).heap.size = w.heap.size + 1 := by simp
  have h1 : Wds (w.alloc (.cells (wcs mInit.toL).toArray 72)) w.heap.size 72 mInit.toL := Wds.new w 72 mInit.toL
  refine ⟨⟨by omega, h1.alloc _, noughts 64, by simp [noughts], by simp [rest], ?_⟩, ((Below.refl _ w).alloc (Nat.le_refl _) _).alloc (by rw [e0]; omega) _, by simp⟩
  have := heap_alloc_last (w.alloc (.cells (wcs mInit.toL).toArray 72)) (.cells (strCells (.iface 48 (.pointer (some ⟨w.heap.size, 0, none⟩))) (noughts 64) 0) 60)
  rw [e0] at this
  exact this
theorem new_kind_sha (w w1 : World) (h : w1 = (w.alloc (.cells (wcs sInit.toL).toArray 65)).alloc (.cells (strCells (.iface 45 (.pointer (some ⟨w.heap.size, 0, none⟩))) (noughts 64) 0) 60)) :
    SIsha w1 (w.heap.size + 1) w.heap.size [] ∧ Below w.heap.size w w1 ∧ w1.heap.size = w.heap.size + 2 := by
  subst h
  have e0 : (w.alloc (.cells (wcs sInit.toL).toArray 65)).heap.size = w.heap.size + 1 := by simp
  have h1 : Wds (w.alloc (.cells (wcs sInit.toL).toArray 65)) w.heap.size 65 sInit.toL := Wds.new w 65 sInit.toL
  refine ⟨⟨by omega, h1.alloc _, noughts 64, by simp [noughts], by simp [rest], ?_⟩, ((Below.refl _ w).alloc (Nat.le_refl _) _).alloc (by rw [e0]; omega) _, by simp⟩
  have := heap_alloc_last (w.alloc (.cells (wcs sInit.toL).toArray 65)) (.cells (strCells (.iface 45 (.pointer (some ⟨w.heap.size, 0, none⟩))) (noughts 64) 0) 60)
  rw [e0] at this
  exact this

/-- A row of the call's own stays where its block stays. -/
theorem ownS_other {w w' : World} {base : Nat} {v : Value} {l : List UInt8} (h : Own w base v l) (hh : ∀ j, v.ownBlock = some j → w'.heap[j]? = w.heap[j]?) : Own w' base v l := by
  obtain ⟨hl, h0 | ⟨g, cap, cur, rfl, hb, hg, hr⟩⟩ := h
  · exact ⟨hl, .inl h0⟩
  · exact ⟨hl, .inr ⟨g, cap, cur, rfl, hb, (hh g rfl).trans hg, hr⟩⟩
theorem ownS_below {w w' : World} {base : Nat} {v : Value} {l : List UInt8} (h : Own w base v l) (hb : Below w.heap.size w w') : Own w' base v l :=
  ownS_other h (fun j hj => hb.block j (World.ownsRow.lt h j hj).2)
theorem ownS_kept {w w' : World} {base sg kg : Nat} {v : Value} {l : List UInt8} (h : Own w base v l) (hk : Kept2 sg kg w w') (h1 : sg < base) (h2 : kg < base) : Own w' base v l :=
  ownS_other h (fun j hj => by have := World.ownsRow.lt h j hj; exact hk.block j this.2 (by omega) (by omega))
end Go.Proofs.Ytdgoepnopenpkaa
