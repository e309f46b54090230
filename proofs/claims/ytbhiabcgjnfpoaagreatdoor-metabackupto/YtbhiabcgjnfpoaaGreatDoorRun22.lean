/-
  What the fields of a record are made of.
-/
import Derived.Test.YtbhiabcgjnfpoaaGreatDoorRun20
import Derived.Test.YtbhiabcgjnfpoaaGreatDoorRun21
import Derived.Test.YtbhiabcgjnfpoaaGreatDoorRun17
namespace Go.Proofs.YtbhiabcgjnfpoaaGreatDoor
open Go.RowKit

def tx (n : Int) : ByteArray := ⟨(Lib.itoa n).toArray⟩
def flF (b : Bool) : ByteArray := if b then ⟨#[49]⟩ else ⟨#[48]⟩
def prF (L : List (ByteArray × ByteArray)) : List ByteArray := L.flatMap fun p => [p.1, p.2]
theorem prF_snoc {L : List (ByteArray × ByteArray)} {k : Nat} (h : k < L.length) : prF (L.take (k + 1)) = prF (L.take k) ++ [L[k].1, L[k].2] := by
  rw [List.take_succ_eq_append_getElem h, prF, prF, List.flatMap_append]
  simp
theorem prF_len (L : List (ByteArray × ByteArray)) : (prF L).length = 2 * L.length := by
  unfold prF
  induction L with
  | nil => rfl
  | cons a r ih => simp only [List.flatMap_cons, List.length_append, ih, List.length_cons, List.length_nil]; omega
/-- A slice of pairs in memory. -/
def Prs (w : World) (a : Option Addr) (L : List (ByteArray × ByteArray)) : Prop :=
  L = [] ∨ ∃ b off, a = some ⟨b, off, none⟩ ∧ b < w.heap.size ∧ ∀ j (h : j < L.length), w.cell? ⟨b, off + j * 2, none⟩ = some (.string L[j].1) ∧ w.cell? ⟨b, off + j * 2 + 1, none⟩ = some (.string L[j].2)
theorem Prs.at {w : World} {a : Option Addr} {L : List (ByteArray × ByteArray)} (h : Prs w a L) {k : Nat} (hk : k < L.length) : ∃ b off, a = some ⟨b, off, none⟩ ∧ b < w.heap.size ∧ ∀ j (h : j < L.length), w.cell? ⟨b, off + j * 2, none⟩ = some (.string L[j].1) ∧ w.cell? ⟨b, off + j * 2 + 1, none⟩ = some (.string L[j].2) := by
  rcases h with rfl | h
  · simp at hk
  · exact h
theorem Prs.below {w w' : World} {a : Option Addr} {L : List (ByteArray × ByteArray)} (h : Prs w a L) {B : Nat} (hb : Below B w w') (hB : w.heap.size ≤ B) : Prs w' a L := by
  rcases h with rfl | ⟨b, off, rfl, hb', hc⟩
  · exact .inl rfl
  · refine .inr ⟨b, off, rfl, by have := hb.size; omega, fun j hj => ⟨?_, ?_⟩⟩
    · rw [hb.cell (p := ⟨b, off + j * 2, none⟩) (by show b < B; omega)]
      exact (hc j hj).1
    · rw [hb.cell (p := ⟨b, off + j * 2 + 1, none⟩) (by show b < B; omega)]
      exact (hc j hj).2
/-- A row of texts that was just built. -/
theorem own_built (w : World) (base : Nat) (hb : base ≤ w.heap.size) (L : List ByteArray) (hl : L.length ≤ 1000) : En.OwnS (w.alloc (.cells (L.map Value.string).toArray 9)) base (.slice (some ⟨w.heap.size, 0, none⟩) L.length L.length) L := by
  refine ⟨by simp, .inr ⟨w.heap.size, L.length, _, rfl, hb, heap_alloc_new w _, Nat.le_refl _, by unfold maxLen; omega, by simp, by rw [Nat.mul_one]; exact List.take_of_length_le (by simp)⟩⟩

theorem asz (w : World) (o : Obj) : (w.alloc o).heap.size = w.heap.size + 1 := by show (w.heap.push o).size = _; simp

theorem flagField_any (b : Bool) (w : World) : Calls Tryz.prog 41 #[.bool b] w fun e w' => e = .returned (.string (flF b)) ∧ w = w' := by
  cases b
  · go_enter Tryz.func41, Tryz.ntmps41
    go_wp2
    go_ret
    exact ⟨rfl, rfl⟩
  · go_enter Tryz.func41, Tryz.ntmps41
    go_wp2
    go_ret
    exact ⟨rfl, rfl⟩
theorem headerFields_any (x y : ByteArray) (w : World) : Calls Tryz.prog 43 #[.agg #[.string x, .string y]] w fun e w' => ∃ g, e = .returned (.slice (some ⟨g, 0, none⟩) 2 2) ∧ En.OwnS w' w.heap.size (.slice (some ⟨g, 0, none⟩) 2 2) [x, y] ∧ Below w.heap.size w w' := by
  have HO := (show Hid (∀ W, w.heap.size ≤ W.heap.size → _) from fun W h => own_built W w.heap.size h [x, y] (by simp))
  go_enter Tryz.func43, Tryz.ntmps43
  go_wp2
  go_ret
  have h := HO.out (w.alloc (.cells #[.string x, .string y] 81)) (by show w.heap.size ≤ (w.heap.push _).size; simp)
  rw [asz] at h
  exact ⟨_, rfl, h, ((Below.refl _ w).alloc (Nat.le_refl _) _).alloc (by show w.heap.size ≤ (w.heap.push _).size; simp) _⟩
theorem tagFields_any (x y : ByteArray) (w : World) : Calls Tryz.prog 36 #[.agg #[.string x, .string y]] w fun e w' => ∃ g, e = .returned (.slice (some ⟨g, 0, none⟩) 2 2) ∧ En.OwnS w' w.heap.size (.slice (some ⟨g, 0, none⟩) 2 2) [x, y] ∧ Below w.heap.size w w' := by
  have HO := (show Hid (∀ W, w.heap.size ≤ W.heap.size → _) from fun W h => own_built W w.heap.size h [x, y] (by simp))
  go_enter Tryz.func36, Tryz.ntmps36
  go_wp2
  go_ret
  have h := HO.out (w.alloc (.cells #[.string x, .string y] 72)) (by show w.heap.size ≤ (w.heap.push _).size; simp)
  rw [asz] at h
  exact ⟨_, rfl, h, ((Below.refl _ w).alloc (Nat.le_refl _) _).alloc (by show w.heap.size ≤ (w.heap.push _).size; simp) _⟩

set_option maxRecDepth 20000 in
set_option maxHeartbeats 2000000 in
theorem headersL_any (a : Option Addr) (L : List (ByteArray × ByteArray)) (cap : Nat) (w : World) (hp : Prs w a L) (hn : L.length ≤ 1048576) (ht : Tab w) :
    Calls Tryz.prog 42 #[.slice a L.length cap, .func (.func 43) #[] #[]] w fun e w' => ∃ v, e = .returned v ∧ En.OwnS w' w.heap.size v (tx L.length :: prF L) ∧ Below w.heap.size w w' := by
  have hent : ∀ args w, (callFunc 43 args).run Tryz.prog w = .ok (.enter 43 args) w := fun args w => Tryz.call43 args w
  have HT := (show Hid (Calls Tryz.prog 32 #[.int .i64 (L.length : Int)] w fun e w' => e = .returned (.string (tx L.length)) ∧ Below w.heap.size w w') from text_any _ w (by omega) (by omega) ht)
  have HO := (show Hid (∀ W, w.heap.size ≤ W.heap.size → _) from fun W h => own_built W w.heap.size h [tx L.length] (by simp))
  have HP : Hid (Prs w a L) := hp
  generalize tx L.length = tn at *
  clear hp ht
  go_enter Tryz.func42, Tryz.ntmps42
  go_wp2_with fail
  refine HT.out.mono ?_
  rintro e w1 ⟨rfl, hb1⟩
  have ho1 := HO.out w1 hb1.size
  have H1 : Hid (En.OwnS (w1.alloc (.cells #[.string tn] 9)) w.heap.size (.slice (some ⟨w1.heap.size, 0, none⟩) 1 1) [tn] ∧ Below w.heap.size w (w1.alloc (.cells #[.string tn] 9))) := ⟨ho1, hb1.alloc hb1.size _⟩
  clear ho1 hb1 HO HT
  go_wp2_with fail
  go_loopw [5, 14] (fun v i wr => ∃ k : Nat, k ≤ L.length ∧ i = .int .i64 k ∧ En.OwnS wr w.heap.size v (tn :: prF (L.take k)) ∧ Below w.heap.size w wr) (fun _ i _ => L.length - (intOf i).toNat)
  case atStart => exact ⟨0, Nat.zero_le _, rfl, H1.out.1, H1.out.2⟩
  case round =>
    obtain ⟨k, hk, rfl, hown, hnx⟩ := hrel
    by_cases hlt : k < L.length
    · obtain ⟨b, off, rfl, hbl, hcs⟩ := HP.out.at hlt
      obtain ⟨q0, q1⟩ := hcs k hlt
      have hc0 := (hnx.cell (p := ⟨b, off + k * 2, none⟩) hbl).trans q0
      have hc1 := (hnx.cell (p := ⟨b, off + k * 2 + 1, none⟩) hbl).trans q1
      clear hcs q0 q1
      have HC := (show Hid (∀ W, _) from fun W => headerFields_any L[k].1 L[k].2 W)
      have hsn := prF_snoc hlt
      have hz := hnx.size
      have HS : Hid (prF (L.take (k + 1)) = prF (L.take k) ++ [L[k].1, L[k].2]) := hsn
      have hpl : (prF (L.take k)).length ≤ 2097152 := by rw [prF_len, List.length_take]; omega
      generalize L[k].1 = x at *
      generalize L[k].2 = y at *
      clear hsn
      go_wp2_with fail
      refine Calls.mono (HC.out _) ?_
      rintro e w2 ⟨g, rfl, ho2, hb2⟩
      obtain ⟨a2, c2, e2, hst2⟩ := ho2.strs
      simp only [Value.slice.injEq] at e2
      obtain ⟨rfl, -, rfl⟩ := e2
      have hown2 : En.OwnS w2 w.heap.size u5 (tn :: prF (L.take k)) := own_md (World.ownsRow.alloc hown _) ((Md.refl (fun _ => False) _).below hb2) (fun _ _ h => h)
      have hnx2 : Below w.heap.size w w2 := step_below (hnx.alloc hz _) hb2 (Nat.le_refl _)
      have hz2 := hnx2.size
      have hlow := World.ownsRow.lt hown2
      clear ho2 hb2 hown hnx HC
      go_wp2_with (at_builtin; refine wpList_append_strs rfl (.tmp 18) (.tmp 21) rfl w.heap.size _ _ rfl hown2 (some ⟨g, 0, none⟩) [x, y] 2 rfl hst2 (by simp) (by simp; omega) hz2 ?_; intro v3 w3 ho3 hg3)
      go_roundw
      case rel => exact ⟨k + 1, by omega, by go_num, by rw [HS.out]; exact ho3, hnx2.grown hg3 hz2 (fun j hj => (hlow j hj).1)⟩
      case measure => simp [intOf]; omega
    · obtain rfl : k = L.length := by omega
      rw [List.take_length] at hown
      go_wp2
      go_ret
      exact ⟨_, rfl, hown, hnx⟩
set_option maxRecDepth 20000 in
set_option maxHeartbeats 2000000 in
theorem tagsL_any (a : Option Addr) (L : List (ByteArray × ByteArray)) (cap : Nat) (w : World) (hp : Prs w a L) (hn : L.length ≤ 1048576) (ht : Tab w) :
    Calls Tryz.prog 35 #[.slice a L.length cap, .func (.func 36) #[] #[]] w fun e w' => ∃ v, e = .returned v ∧ En.OwnS w' w.heap.size v (tx L.length :: prF L) ∧ Below w.heap.size w w' := by
  have hent : ∀ args w, (callFunc 36 args).run Tryz.prog w = .ok (.enter 36 args) w := fun args w => Tryz.call36 args w
  have HT := (show Hid (Calls Tryz.prog 32 #[.int .i64 (L.length : Int)] w fun e w' => e = .returned (.string (tx L.length)) ∧ Below w.heap.size w w') from text_any _ w (by omega) (by omega) ht)
  have HO := (show Hid (∀ W, w.heap.size ≤ W.heap.size → _) from fun W h => own_built W w.heap.size h [tx L.length] (by simp))
  have HP : Hid (Prs w a L) := hp
  generalize tx L.length = tn at *
  clear hp ht
  go_enter Tryz.func35, Tryz.ntmps35
  go_wp2_with fail
  refine HT.out.mono ?_
  rintro e w1 ⟨rfl, hb1⟩
  have ho1 := HO.out w1 hb1.size
  have H1 : Hid (En.OwnS (w1.alloc (.cells #[.string tn] 9)) w.heap.size (.slice (some ⟨w1.heap.size, 0, none⟩) 1 1) [tn] ∧ Below w.heap.size w (w1.alloc (.cells #[.string tn] 9))) := ⟨ho1, hb1.alloc hb1.size _⟩
  clear ho1 hb1 HO HT
  go_wp2_with fail
  go_loopw [5, 14] (fun v i wr => ∃ k : Nat, k ≤ L.length ∧ i = .int .i64 k ∧ En.OwnS wr w.heap.size v (tn :: prF (L.take k)) ∧ Below w.heap.size w wr) (fun _ i _ => L.length - (intOf i).toNat)
  case atStart => exact ⟨0, Nat.zero_le _, rfl, H1.out.1, H1.out.2⟩
  case round =>
    obtain ⟨k, hk, rfl, hown, hnx⟩ := hrel
    by_cases hlt : k < L.length
    · obtain ⟨b, off, rfl, hbl, hcs⟩ := HP.out.at hlt
      obtain ⟨q0, q1⟩ := hcs k hlt
      have hc0 := (hnx.cell (p := ⟨b, off + k * 2, none⟩) hbl).trans q0
      have hc1 := (hnx.cell (p := ⟨b, off + k * 2 + 1, none⟩) hbl).trans q1
      clear hcs q0 q1
      have HC := (show Hid (∀ W, _) from fun W => tagFields_any L[k].1 L[k].2 W)
      have hsn := prF_snoc hlt
      have hz := hnx.size
      have HS : Hid (prF (L.take (k + 1)) = prF (L.take k) ++ [L[k].1, L[k].2]) := hsn
      have hpl : (prF (L.take k)).length ≤ 2097152 := by rw [prF_len, List.length_take]; omega
      generalize L[k].1 = x at *
      generalize L[k].2 = y at *
      clear hsn
      go_wp2_with fail
      refine Calls.mono (HC.out _) ?_
      rintro e w2 ⟨g, rfl, ho2, hb2⟩
      obtain ⟨a2, c2, e2, hst2⟩ := ho2.strs
      simp only [Value.slice.injEq] at e2
      obtain ⟨rfl, -, rfl⟩ := e2
      have hown2 : En.OwnS w2 w.heap.size u5 (tn :: prF (L.take k)) := own_md (World.ownsRow.alloc hown _) ((Md.refl (fun _ => False) _).below hb2) (fun _ _ h => h)
      have hnx2 : Below w.heap.size w w2 := step_below (hnx.alloc hz _) hb2 (Nat.le_refl _)
      have hz2 := hnx2.size
      have hlow := World.ownsRow.lt hown2
      clear ho2 hb2 hown hnx HC
      go_wp2_with (at_builtin; refine wpList_append_strs rfl (.tmp 18) (.tmp 21) rfl w.heap.size _ _ rfl hown2 (some ⟨g, 0, none⟩) [x, y] 2 rfl hst2 (by simp) (by simp; omega) hz2 ?_; intro v3 w3 ho3 hg3)
      go_roundw
      case rel => exact ⟨k + 1, by omega, by go_num, by rw [HS.out]; exact ho3, hnx2.grown hg3 hz2 (fun j hj => (hlow j hj).1)⟩
      case measure => simp [intOf]; omega
    · obtain rfl : k = L.length := by omega
      rw [List.take_length] at hown
      go_wp2
      go_ret
      exact ⟨_, rfl, hown, hnx⟩

set_option maxRecDepth 20000 in
theorem packF_any (b : Nat) (xs : List Sl) (cap : Nat) (w : World) (hx : Rws w b xs) (hn : xs.length ≤ 1000) (ht : (cat xs).length ≤ 1000000000) (htt : En.tot (cat xs) ≤ 70368744177664) :
    Calls Tryz.prog 31 #[.slice (some ⟨b, 0, none⟩) xs.length cap] w fun e w' => e = .returned (.string ⟨(En.packL (cat xs)).toArray⟩) ∧ Below w.heap.size w w' := by
  have HK := concat_any b xs cap w hx hn ht
  have HP := (show Hid (∀ a c W, En.Strs W a (cat xs) → _) from fun a c W h => En.pack_any a (cat xs) c W (by omega) h)
  clear hx hn ht htt
  go_enter Tryz.func31, Tryz.ntmps31
  go_wp2_with fail
  refine HK.mono ?_
  rintro e w1 ⟨v, rfl, ho, hb1⟩
  obtain ⟨a, c, rfl, hs⟩ := ho.strs
  have HP1 := HP.out a c w1 hs
  clear ho hs HP HK
  go_wp2_with fail
  refine Calls.mono HP1 ?_
  rintro e w2 ⟨v2, rfl, ho2, hb2⟩
  obtain ⟨a2, c2, rfl, hs2⟩ := ho2.bytes
  have hcv := En.convert_bytes w2 a2 c2 _ hs2
  have B2 := step_below hb1 hb2 (Nat.le_refl _)
  clear ho2 hs2 hb1 hb2
  go_wp2
  go_ret
  exact ⟨rfl, B2⟩
end Go.Proofs.YtbhiabcgjnfpoaaGreatDoor
/-
  A place on the device as fields.
-/
namespace Go.Proofs.YtbhiabcgjnfpoaaGreatDoor
open Go.RowKit

theorem bel_alloc {a w : World} (h : Below a.heap.size a w) (o : Obj) : Below a.heap.size a (w.alloc o) := h.alloc h.size o
theorem bel_drew {a w : World} (h : Below a.heap.size a w) : Below a.heap.size a w.drew := h.drew
theorem bel_step {a w1 w2 : World} (h : Below a.heap.size a w1) (hb : Below w1.heap.size w1 w2) : Below a.heap.size a w2 := step_below h hb (Nat.le_refl _)

set_option maxRecDepth 20000 in
set_option maxHeartbeats 2000000 in
theorem refFields_any (i j : Int) (w : World) (hi0 : -9223372036854775808 ≤ i) (hi1 : i ≤ 9223372036854775807) (hj0 : -9223372036854775808 ≤ j) (hj1 : j ≤ 9223372036854775807) (ht : Tab w) :
    Calls Tryz.prog 44 #[.agg #[.int .i64 i, .int .i64 j]] w fun e w' => ∃ g, e = .returned (.slice (some ⟨g, 0, none⟩) 2 2) ∧ En.OwnS w' w.heap.size (.slice (some ⟨g, 0, none⟩) 2 2) [tx i, tx j] ∧ Below w.heap.size w w' := by
  have HT : Hid (Tab w) := ht
  clear ht
  go_enter Tryz.func44, Tryz.ntmps44
  go_wp2
  obtain ⟨W0, hW0⟩ : ∃ W0, W0 = w.alloc (.cells #[.int .i64 i, .int .i64 j] 28) := ⟨_, rfl⟩
  obtain ⟨g, hg⟩ : ∃ g, g = w.heap.size := ⟨_, rfl⟩
  have b0 : W0.heap[g]? = some (.cells #[.int .i64 i, .int .i64 j] 28 (0, 0)) := by rw [hW0, hg]; exact heap_alloc_new w _
  have hB0 : Below w.heap.size w W0 := by rw [hW0]; exact bel_alloc (Below.refl _ w) _
  have ht0 : Tab W0 := HT.out.below hB0
  have HK : Hid (∀ n W, Below W0.heap.size W0 W → -9223372036854775808 ≤ n → n ≤ 9223372036854775807 → Calls Tryz.prog 32 #[.int .i64 n] W fun e w' => e = .returned (.string (tx n)) ∧ Below W.heap.size W w') := fun n W hb h0 h1 => text_any n W h0 h1 (ht0.below hb)
  have HCE : Hid (∀ w', Below W0.heap.size W0 w' → w'.cell? ⟨g, 0, none⟩ = some (.int .i64 i) ∧ w'.cell? ⟨g, 1, none⟩ = some (.int .i64 j) ∧ Below W0.heap.size W0 w') := by
    intro w' hb
    have c1 := (hb.block g (blk_lt b0)).trans b0
    exact ⟨cell_blk c1 0, cell_blk c1 1, hb⟩
  have HO := (show Hid (∀ W, w.heap.size ≤ W.heap.size → _) from fun W h => own_built W w.heap.size h [tx i, tx j] (by simp))
  have HB0 : Hid (Below w.heap.size w W0) := hB0
  have hb0 : Below W0.heap.size W0 W0.drew := bel_drew (Below.refl _ _)
  clear hB0 ht0 b0
  rw [← hW0, ← hg]
  clear hW0 hg
  go_region_held3 (fun w' => w'.cell? ⟨g, 0, none⟩ = some (.int .i64 i) ∧ w'.cell? ⟨g, 1, none⟩ = some (.int .i64 j) ∧ Below W0.heap.size W0 w') (first | ((with_reducible refine HCE.out _ ?_); (with_reducible assumption)) | ((with_reducible refine HCE.out _ (bel_alloc ?_ _)); (with_reducible assumption)))
    (first
      | (go_at_call 32; (with_reducible refine Calls.mono (HK.out i _ hb0 hi0 hi1) ?_); rintro e w1 ⟨rfl, hb1'⟩; have hb1 := bel_step hb0 hb1')
      | (go_at_call 32; (with_reducible refine Calls.mono (HK.out j _ hb1 hj0 hj1) ?_); rintro e w2 ⟨rfl, hb2'⟩; have hb2 := bel_step hb1 hb2'))
  have h := HO.out w2 (Nat.le_trans HB0.out.size hb2.size)
  have HE := (show Hid (Below w.heap.size w (w2.alloc (.cells #[.string (tx i), .string (tx j)] 9))) from step_below HB0.out (bel_alloc hb2 _) (Nat.le_refl _))
  go_wp2
  go_ret
  exact ⟨_, rfl, h, HE.out⟩
end Go.Proofs.YtbhiabcgjnfpoaaGreatDoor
