/-
  'awake' of the statements' package by its contract: it answers true and turns nothing that was there.
-/
import Derived.Test.YtbbjkdnebgeioaaDoorInt
import Derived.Test.YtbbjkdnebgeioaaDoorPack
import Derived.Test.YtbbjkdnebgeioaaDoorB64
import Derived.Lib.SlBytesConst
namespace Go.Proofs.YtbbjkdnebgeioaaDoor
open Go.RowKit

theorem unhex_0aff (w : World) : Calls Tryd.prog 10 #[.string ⟨#[48, 97, 102, 102]⟩] w fun e w' => ∃ b off c, e = .returned (.tuple #[.slice (some ⟨b, off, none⟩) 2 c, .bool true]) ∧ w'.cell? ⟨b, off + 1, none⟩ = some (.int .u8 255) ∧ Below w.heap.size w w' := by
  refine (unhex_any ⟨#[48, 97, 102, 102]⟩ w (by decide)).mono ?_
  rintro e w' ⟨v, rfl, ho, hb⟩
  have e1 : uhOk [48, 97, 102, 102] = true := by decide +kernel
  have e2 : uhL [48, 97, 102, 102] = [10, 255] := by decide +kernel
  have ho' : Own w' w.heap.size v [10, 255] := by
    have : Own w' w.heap.size v (uhL [48, 97, 102, 102]) := ho
    rw [e2] at this
    exact this
  obtain ⟨a, c, rfl, hbs⟩ := ho'.bytes
  obtain ⟨b, off, rfl, _, hcs⟩ := hbs.at (k := 1) (by decide)
  exact ⟨b, off, c, ret_vb e1, hcs 1 (by decide), hb⟩

theorem int_42 (w : World) : Calls Tryd.prog 5 #[.string ⟨#[52, 50]⟩] w fun e w' => e = .returned (.tuple #[.int .i64 42, .bool true]) ∧ w = w' := by
  refine (int_any ⟨#[52, 50]⟩ w (by decide)).mono ?_
  rintro e w' ⟨rfl, rfl⟩
  have e1 : intOk [52, 50] = true := by decide +kernel
  have e2 : intV [52, 50] = 42 := by decide +kernel
  exact ⟨ret_ib e2 e1, rfl⟩

theorem b64_man (a : Addr) (w : World) (hb : Bytes w (some a) [77, 97, 110]) : Calls Tryd.prog 13 #[.slice (some a) 3 3] w fun e w' => e = .returned (.string ⟨#[84, 87, 70, 117]⟩) ∧ Below w.heap.size w w' := by
  refine (base64_any (some a) [77, 97, 110] 3 w (by decide) (by decide) hb).mono ?_
  rintro e w' ⟨rfl, hb⟩
  have e1 : b64 [77, 97, 110] = [84, 87, 70, 117] := by decide +kernel
  exact ⟨ret_str (by rw [e1]), hb⟩

theorem pack_ab (a : Addr) (w : World) (hs : Strs w (some a) [⟨#[97, 98]⟩, ⟨#[]⟩]) : Calls Tryd.prog 15 #[.slice (some a) 2 2] w fun e w' => ∃ x c, e = .returned (.slice x 10 c) ∧ Below w.heap.size w w' := by
  refine (pack_any (some a) [⟨#[97, 98]⟩, ⟨#[]⟩] 2 w (by decide) hs).mono ?_
  rintro e w' ⟨v, rfl, ho, hb⟩
  obtain ⟨x, c, rfl, _⟩ := ho.bytes
  refine ⟨x, c, ?_, hb⟩
  rw [packL_length]
  rfl

theorem put64_1 (w : World) : Calls Tryd.prog 17 #[.int .u64 1] w fun e w' => ∃ x c, e = .returned (.slice x 8 c) ∧ Below w.heap.size w w' := by
  refine (put64_any 1 w (by decide)).mono ?_
  rintro e w' ⟨v, rfl, ho, hb⟩
  obtain ⟨x, c, rfl, _⟩ := ho.bytes
  refine ⟨x, c, ?_, hb⟩
  rw [be_length]

theorem man_bytes (w : World) : Bytes (w.alloc (.cells #[.int .u8 77, .int .u8 97, .int .u8 110] 5 (3, 4))) (some ⟨w.heap.size, 0, none⟩) [77, 97, 110] := by
  refine .inr ⟨w.heap.size, 0, rfl, by simp, fun j hj => ?_⟩
  rw [World.cell?_alloc_mark]
  match j, hj with
  | 0, _ => rfl
  | 1, _ => rfl
  | 2, _ => rfl
theorem ab_strs (w : World) : Strs (w.alloc (.cells #[.string ⟨#[97, 98]⟩, .string ⟨#[]⟩] 9)) (some ⟨w.heap.size, 0, none⟩) [⟨#[97, 98]⟩, ⟨#[]⟩] := by
  refine .inr ⟨w.heap.size, 0, rfl, by simp, fun j hj => ?_⟩
  rw [World.cell?_alloc_mark]
  match j, hj with
  | 0, _ => rfl
  | 1, _ => rfl

set_option maxHeartbeats 1000000 in
theorem awake_any (w : World) : Calls Tryd.prog 9 #[] w fun e w' => e = .returned (.bool true) ∧ Below w.heap.size w w' := by
  have kc := fun (w : World) (C : Array Value) (n c : Nat) => Lib.run_convert_bytes_const (P := Tryd.prog) w 27 5 C n c Tryd.underlying27 Tryd.underlying5
  go_enter Tryd.func9, Tryd.ntmps9
  go_wp2_with fail
  refine (unhex_0aff _).mono ?_
  rintro e w1 ⟨b, off, c, rfl, hcell, hb1⟩
  go_wp2_with fail
  refine (int_42 _).mono ?_
  rintro e w2 ⟨rfl, rfl⟩
  go_wp2_with fail
  clear kc hcell
  refine (b64_man _ _ (man_bytes w1)).mono ?_
  rintro e w3 ⟨rfl, hb3⟩
  go_wp2_with fail
  refine (pack_ab _ _ (ab_strs w3)).mono ?_
  rintro e w5 ⟨x5, c5, rfl, hb5⟩
  go_wp2_with fail
  refine (put64_1 _).mono ?_
  rintro e w6 ⟨x6, c6, rfl, hb6⟩
  have z1 := hb1.size
  have z3 := hb3.size
  have z5 := hb5.size
  simp only [World.size_alloc] at z3 z5
  have B1 : Below w.heap.size w w3 := (hb1.alloc z1 _).trans (hb3.mono (by simp; omega))
  have B2 : Below w.heap.size w w5 := (B1.alloc (by omega) _).trans (hb5.mono (by simp; omega))
  have B3 : Below w.heap.size w w6 := B2.trans (hb6.mono (by omega))
  clear hb1 hb3 hb5 hb6 z1 z3 z5 B1 B2
  go_wp2
  go_ret
  exact ⟨rfl, B3⟩
end Go.Proofs.YtbbjkdnebgeioaaDoor
