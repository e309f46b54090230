/-
  The next line (reader.line).
-/
import Derived.Test.YtmodmeabjhaklaaGreatDoorFlt
import Derived.BigQuiet
import Derived.Lib.SlBytesConst
namespace Go.Proofs.YtmodmeabjhaklaaGreatDoor
open Go.RowKit

def fndI (l : List UInt8) : Int := match fndL l with | some n => (n : Int) | none => -1
theorem bytes_map (l : List UInt8) : Lib.bytesOf (l.map fun c => (c.toNat : Int)) = l := by
  simp [Lib.bytesOf, Function.comp_def]
theorem fnd_short {l : List UInt8} (h : l.length < 2) : fndI l = -1 := by
  unfold fndI
  cases hf : fndL l with
  | none => rfl
  | some n => have := fnd_room l hf; omega
theorem index_any (A : Option Addr) (rest : List UInt8) (c g : Nat) (w : World) (hB : Bytes w A rest) (hc : rest.length ≤ c) (hl : rest.length ≤ 1000000000) (hg0 : w.cell? ⟨g, 0, none⟩ = some (.int .u8 13)) (hg1 : w.cell? ⟨g, 1, none⟩ = some (.int .u8 10)) (hm : Mx w) :
    Calls Tryz.prog 62 #[.slice A rest.length c, .slice (some ⟨g, 0, none⟩) 2 2] w fun e w' => e = .returned (.int .i64 (fndI rest)) ∧ Below w.heap.size w w' := by
  by_cases h2 : rest.length < 2
  · rw [fnd_short h2]
    exact (YtmodmeabjhaklaaGreatDoor.bytes_Index_longer A (some ⟨g, 0, none⟩) rest.length c 2 2 w (by omega) h2 (by omega)).mono fun e w' ⟨h3, h4⟩ => ⟨h3, by rw [h4]; exact Below.refl _ _⟩
  · rcases hB with hn | ⟨b, off, rfl, hb, hcs⟩
    · rw [hn] at h2; simp at h2
    · obtain ⟨m, hm⟩ := hm
      have hix : Lib.index (Lib.bytesOf (rest.map fun c => (c.toNat : Int))) (Lib.bytesOf [13, 10]) = fndI rest := by
        rw [bytes_map]
        exact fnd_index rest
      refine (YtmodmeabjhaklaaGreatDoor.bytes_Index_at ⟨b, off, none⟩ ⟨g, 0, none⟩ rest.length c 2 2 (rest.map fun c => (c.toNat : Int)) [13, 10] m w (by simp) rfl ?_ ?_ ?_ ?_ hc (by omega) (by omega) hm).mono ?_
      · intro x hx
        rw [List.mem_map] at hx
        obtain ⟨y, _, rfl⟩ := hx
        have := y.toNat_lt
        omega
      · intro y hy
        simp at hy
        omega
      · intro i hi
        rw [Addr.add_lit, hcs i hi]
        simp [List.getD, List.getElem?_eq_getElem hi]
      · intro i hi
        have : i = 0 ∨ i = 1 := by omega
        rcases this with rfl | rfl
        · exact hg0
        · exact hg1
      · rintro e w' ⟨rfl, n, rfl⟩
        rw [hix]
        exact ⟨rfl, drewN_below w n⟩

theorem Bytes.md {F : Nat → Prop} {w w' : World} {a : Option Addr} {l : List UInt8} (h : Bytes w a l) (hm : Md F w w') (hF : ∀ b off, a = some ⟨b, off, none⟩ → ¬ F b) : Bytes w' a l := by
  rcases h with h | ⟨b, off, h1, h2, h3⟩
  · exact .inl h
  · refine .inr ⟨b, off, h1, Nat.lt_of_lt_of_le h2 hm.size, fun j hj => ?_⟩
    rw [World.cell?_of_block (w := w) (a := ⟨b, off + j, none⟩) (hm.block b h2 (hF b off h1))]
    exact h3 j hj
/-- What a slice from a place on is. -/
def fromA (a : Option Addr) (cap k : Nat) : Option Addr := if cap = k then a else a.map fun x => x.add k
theorem bytes_from {w : World} {a : Option Addr} {l : List UInt8} {cap k : Nat} (hB : Bytes w a l) (hcap : l.length ≤ cap) : Bytes w (fromA a cap k) (l.drop k) := by
  unfold fromA
  split
  · left
    exact List.drop_eq_nil_of_le (by omega)
  · rcases hB with rfl | ⟨b, off, rfl, hb, hc⟩
    · left; simp
    · refine .inr ⟨b, off + k, by simp [Addr.add_lit], hb, fun j hj => ?_⟩
      rw [List.length_drop] at hj
      rw [Nat.add_assoc, hc (k + j) (by omega)]
      simp
theorem from_ne {a : Option Addr} {cap k p : Nat} (h : ∀ b off, a = some ⟨b, off, none⟩ → b ≠ p) (hs : ∀ x, a = some x → x.spot = none) : ∀ b off, fromA a cap k = some ⟨b, off, none⟩ → b ≠ p := by
  intro b off
  unfold fromA
  split
  · exact h b off
  · cases a with
    | none => intro hh; cases hh
    | some x =>
      obtain ⟨xb, xo, xs⟩ := x
      obtain rfl : xs = none := hs _ rfl
      intro hh
      simp only [Option.map_some, Addr.add_lit, Option.some.injEq, Addr.mk.injEq] at hh
      exact hh.1 ▸ h xb xo rfl
theorem bytes_take {w : World} {a : Option Addr} {l : List UInt8} (hB : Bytes w a l) (n : Nat) : Bytes w a (l.take n) := by
  rcases hB with rfl | ⟨b, off, rfl, hb, hc⟩
  · left; simp
  · refine .inr ⟨b, off, rfl, hb, fun j hj => ?_⟩
    rw [List.length_take] at hj
    rw [hc j (by omega)]
    simp
def LnR (w w' : World) (p : Nat) (r : Rs) (x : Int) (e : Ending) : Ln → Prop
  | .more => e = .returned (.tuple #[.string ⟨#[]⟩, .bool false]) ∧ Rb w' p { r with told := moreT } ∧ Md (· = p) w w'
  | .long => e = .returned (.tuple #[.string ⟨#[]⟩, .bool false]) ∧ Rb w' p { r with told := badT x } ∧ Md (· = p) w w'
  | .ok s => e = .returned (.tuple #[.string ⟨s.toArray⟩, .bool true]) ∧ Rb w' p { r with at_ := r.at_ + (s.length + 2) } ∧ Md (· = p) w w'
theorem ln_more {most opn : Int} {rest : List UInt8} (h : fndL rest = none) (h1 : (rest.length : Int) ≤ opn) : lnL most opn rest = .more := by rw [lnL, h]; simp [h1]
theorem ln_long {most opn : Int} {rest : List UInt8} (h : fndL rest = none) (h1 : ¬ (rest.length : Int) ≤ opn) : lnL most opn rest = .long := by rw [lnL, h]; simp [h1]
theorem ln_long2 {most opn : Int} {rest : List UInt8} {n : Nat} (h : fndL rest = some n) (h1 : ¬ (n : Int) ≤ most) : lnL most opn rest = .long := by rw [lnL, h]; simp [h1]
theorem ln_yes {most opn : Int} {rest : List UInt8} {n : Nat} (h : fndL rest = some n) (h1 : (n : Int) ≤ most) : lnL most opn rest = .ok (rest.take n) := by rw [lnL, h]; simp [h1]
theorem LnR.more {w w' : World} {p : Nat} {r : Rs} {x : Int} {e : Ending} {ln : Ln} (h : ln = .more) (he : e = .returned (.tuple #[.string ⟨#[]⟩, .bool false])) (h1 : Rb w' p { r with told := moreT }) (h2 : Md (· = p) w w') : LnR w w' p r x e ln := by rw [h]; exact ⟨he, h1, h2⟩
theorem LnR.long {w w' : World} {p : Nat} {r : Rs} {x : Int} {e : Ending} {ln : Ln} (h : ln = .long) (he : e = .returned (.tuple #[.string ⟨#[]⟩, .bool false])) (h1 : Rb w' p { r with told := badT x }) (h2 : Md (· = p) w w') : LnR w w' p r x e ln := by rw [h]; exact ⟨he, h1, h2⟩
theorem LnR.ok {w w' : World} {p : Nat} {r : Rs} {x : Int} {e : Ending} {ln : Ln} {s : List UInt8} (h : ln = .ok s) (he : e = .returned (.tuple #[.string ⟨s.toArray⟩, .bool true])) (h1 : Rb w' p { r with at_ := r.at_ + (s.length + 2) }) (h2 : Md (· = p) w w') : LnR w w' p r x e ln := by rw [h]; exact ⟨he, h1, h2⟩
set_option maxRecDepth 20000 in
set_option maxHeartbeats 4000000 in
theorem line_any (p : Nat) (r : Rs) (a : Option Addr) (l : List UInt8) (cap : Nat) (most opn x : Int) (w : World) (h : Rb w p r) (hbv : r.bv = .slice a l.length cap) (hcap : l.length ≤ cap) (hB : Bytes w a l) (hne : ∀ b off, a = some ⟨b, off, none⟩ → b ≠ p) (hsp : ∀ x, a = some x → x.spot = none) (hk : r.at_ ≤ l.length) (hl : l.length ≤ 1000000000) (hm : Mx w) :
    Calls Tryz.prog 39 #[.pointer (some ⟨p, 0, none⟩), .int .i64 most, .int .i64 opn, .int .i64 x] w fun e w' => LnR w w' p r x e (lnL most opn (l.drop r.at_)) := by
  have c0 := h.cell 0 rfl
  have c1 := h.cell 1 rfl
  rw [hbv] at c0
  obtain ⟨k, hkk⟩ : ∃ k, k = r.at_ := ⟨_, rfl⟩
  rw [← hkk] at c1 hk ⊢
  have H := (show Hid (Rb w p r ∧ k = r.at_) from ⟨h, hkk⟩)
  have hk1 : (k : Int) ≤ (l.length : Int) := by omega
  have hk0 : (0 : Int) ≤ (k : Int) := by omega
  have hc1 : (l.length : Int) ≤ (cap : Int) := by omega
  have HBr : Hid (Bytes w (fromA a cap k) (l.drop k)) := bytes_from hB hcap
  have HNe : Hid (∀ b off, fromA a cap k = some ⟨b, off, none⟩ → b ≠ p) := from_ne hne hsp
  have hlen : (l.drop k).length = l.length - k := by simp
  have HM : Hid (Mx w) := hm
  clear h hkk hB hne hsp hm hbv
  go_enter Tryz.func39, Tryz.ntmps39
  go_wp2
  go_quiet (fail)
  have HW : Hid (Below w.heap.size w (w.drewN nq) ∧ (w.drewN nq).heap = w.heap) := ⟨drewN_below w nq, rfl⟩
  generalize w.drewN nq = W at *
  rw [show (if cap = k then a else Option.map (fun x => x.add k) a) = fromA a cap k from rfl, ← hlen]
  generalize fromA a cap k = A at *
  obtain ⟨rest, hrest⟩ : ∃ rest, rest = l.drop k := ⟨_, rfl⟩
  rw [← hrest] at hlen HBr ⊢
  have HRE : Hid (rest = l.drop k) := hrest
  clear hrest
  obtain ⟨c, hc⟩ : ∃ c, c = cap - k := ⟨_, rfl⟩
  rw [← hc]
  have hrc : rest.length ≤ c := by omega
  have hr9 : rest.length ≤ 1000000000 := by omega
  have HR : Hid (Rb W p r) := HW.out.1.block p H.out.1.lt |>.trans H.out.1
  have HBW : Hid (Bytes W A rest) := HBr.out.below HW.out.1 (Nat.le_refl _)
  have HMW : Hid (Mx W) := HM.out.below HW.out.1 (Nat.le_refl _)
  clear hc hlen hcap hk0 hk1 hc1 c0 c1 HBr HM
  have hcc := Lib.run_convert_bytes_const (P := Tryz.prog) W 22 5 #[.int .u8 13, .int .u8 10] 2 2 Tryz.underlying22 Tryz.underlying5
  go_wp2_with fail
  clear hcc
  refine Calls.mono (index_any A rest c W.heap.size (W.alloc (.cells #[.int .u8 13, .int .u8 10] 5 (2, 3))) (HBW.out.below ((Below.refl _ _).alloc (Nat.le_refl _) _) (Nat.le_refl _)) hrc hr9 (World.cell?_alloc_mark W _ 5 (2, 3) 0) (World.cell?_alloc_mark W _ 5 (2, 3) 1) (HMW.out.below ((Below.refl _ _).alloc (Nat.le_refl _) _) (Nat.le_refl _))) ?_
  rintro e w1 ⟨rfl, hb1⟩
  have HB1 : Hid (Below W.heap.size W w1) := ((Below.refl _ W).alloc (Nat.le_refl _) _).trans (hb1.mono (by simp))
  have HB0 : Hid (Md (· = p) w w1) := (Md.ofBelow HW.out.1).below (HB1.out)
  have HR1 : Hid (Rb w1 p r) := HR.out.below HB1.out
  have HMo := (show Hid _ from more_any p r w1 HR1.out)
  have HBa := (show Hid _ from bad_any p r x w1 HR1.out)
  clear hb1 HMW
  cases hf : fndL rest with
  | none =>
    have hfi : fndI rest = -1 := by rw [fndI, hf]
    rw [hfi]
    clear hfi
    by_cases ho : (rest.length : Int) ≤ opn
    · have HL : Hid (lnL most opn (l.drop k) = .more) := by show _ = _; rw [← HRE.out]; exact ln_more hf ho
      clear hf
      go_wp2_with (go_at_call 48; refine Calls.mono HMo.out ?_; rintro e w2 ⟨rfl, h2, h3⟩)
      go_ret2
      exact LnR.more HL.out rfl h2 (HB0.out.trans h3)
    · have HL : Hid (lnL most opn (l.drop k) = .long) := by show _ = _; rw [← HRE.out]; exact ln_long hf ho
      have ho' : opn < (rest.length : Int) := by omega
      clear hf ho
      go_wp2_with (go_at_call 43; refine Calls.mono HBa.out ?_; rintro e w2 ⟨rfl, h2, h3⟩)
      go_ret2
      exact LnR.long HL.out rfl h2 (HB0.out.trans h3)
  | some n =>
    have hfi : fndI rest = (n : Int) := by rw [fndI, hf]
    have hn := fnd_room rest hf
    rw [hfi]
    clear hfi
    have hn0 : ¬ (n : Int) < 0 := by omega
    by_cases hmo : (n : Int) ≤ most
    · have HL : Hid (lnL most opn (l.drop k) = .ok (rest.take n)) := by show _ = _; rw [← HRE.out]; exact ln_yes hf hmo
      have hmo' : ¬ most < (n : Int) := by omega
      have c1 := HR1.out.cell 1 rfl
      have f1 := HR1.out.fz 1
      have HS : Hid (Rb (w1.setCell ⟨p, 1, none⟩ (.int .i64 ((r.at_ : Int) + ((n : Int) + 2)))) p { r with at_ := r.at_ + (n + 2) }) := by
        refine Rb.of (set_lst HR1.out 1 _) ?_
        simp [Rs.c]
      have HMd : Hid (Md (· = p) w1 (w1.setCell ⟨p, 1, none⟩ (.int .i64 ((r.at_ : Int) + ((n : Int) + 2))))) := (Md.refl _ _).setp _ _
      have hln : (rest.take n).length = n := by rw [List.length_take]; omega
      have hcv : (convert 22 9 (.slice A n c)).run Tryz.prog (w1.setCell ⟨p, 1, none⟩ (.int .i64 ((r.at_ : Int) + ((n : Int) + 2)))) = .ok (.string ⟨(rest.take n).toArray⟩) (w1.setCell ⟨p, 1, none⟩ (.int .i64 ((r.at_ : Int) + ((n : Int) + 2)))) := by
        have hb := (HBW.out.below HB1.out (Nat.le_refl _)).md HMd.out HNe.out
        have := convert_bytes _ A c (rest.take n) (bytes_take hb n)
        rw [hln] at this
        exact this
      have HLn : Hid ((rest.take n).length = n) := hln
      have hat : r.at_ ≤ 1000000000 := by have := H.out.2; omega
      have hn9 : n ≤ 1000000000 := by omega
      have hnr : (n : Int) ≤ (rest.length : Int) := by omega
      have hnc : (n : Int) ≤ (c : Int) := by omega
      clear hf hln HMo HBa hmo
      go_wp2
      go_ret2
      refine LnR.ok HL.out rfl ?_ (HB0.out.trans HMd.out)
      rw [HLn.out]
      exact HS.out
    · have HL : Hid (lnL most opn (l.drop k) = .long) := by show _ = _; rw [← HRE.out]; exact ln_long2 hf hmo
      have hmo' : most < (n : Int) := by omega
      clear hf hmo
      go_wp2_with (go_at_call 43; refine Calls.mono HBa.out ?_; rintro e w2 ⟨rfl, h2, h3⟩)
      go_ret2
      exact LnR.long HL.out rfl h2 (HB0.out.trans h3)
end Go.Proofs.YtmodmeabjhaklaaGreatDoor
