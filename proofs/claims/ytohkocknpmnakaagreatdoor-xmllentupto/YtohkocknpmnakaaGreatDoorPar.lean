/-
  xml.Parse.
-/
import Derived.Test.YtohkocknpmnakaaGreatDoorEle
namespace Go.Proofs.YtohkocknpmnakaaGreatDoor
open Go.RowKit

theorem elem_all : ∀ k, k ≤ 16 → ElC k
  | 0, _ => elem_zero
  | k + 1, h => elem_succ k (by omega) (elem_all k (by omega))
/-- The element that a text holds. -/
def prsL (l : List UInt8) : Option Nod := if (cntP xmlP l).isSome then docF une l else none
/-- What Parse tells. -/
def PaR (l : List UInt8) (W : World) (e : Ending) (w' : World) : Prop :=
  Below W.heap.size W w' ∧
  ((65536 < l.length ∧ e = .returned (.tuple #[ndZ, .int .i64 2])) ∨
   (l.length ≤ 65536 ∧ prsL l = none ∧ e = .returned (.tuple #[ndZ, .int .i64 130])) ∨
   (l.length ≤ 65536 ∧ ∃ t a c, prsL l = some t ∧ e = .returned (.tuple #[ndV t a c, .int .i64 0]) ∧ Kd (fun b => W.heap.size ≤ b) 16 w' a t.ks))
theorem decl_len {l r : List UInt8} (h : declL l = some r) : r.length ≤ l.length := by
  unfold declL at h
  cases he : eat [60, 63, 120, 109, 108] l with
  | none => rw [he] at h; cases h; exact Nat.le_refl _
  | some q =>
    have := (eat_len he).1
    rw [he] at h
    cases q with
    | nil => cases h
    | cons c q =>
      simp only at h
      split at h
      · split at h
        · cases h
          unfold Lib.cut
          simp only [List.length_cons, List.length_nil] at this
          split
          · simp; omega
          · simp
        · cases h
      · cases h
structure PS (w W : World) (l : List UInt8) : Prop where
  rd : Rd W (w.heap.size + 2) l
  bx : Bx W (w.heap.size + 1) [] [] (.slice none 0 0)
  rs : Bx W w.heap.size [] [] (.slice none 0 0)
  mx : Mx W
  er : Er W
  bl : Below w.heap.size w W
theorem PS.step {w W W' : World} {l l' : List UInt8} (h : PS w W l) (h3 : 3 < w.heap.size) (hm : Md (fun b => b = w.heap.size + 2) W W') (hr : Rd W' (w.heap.size + 2) l') : PS w W' l' :=
  ⟨hr, h.bx.keep hm (by omega), h.rs.keep hm (by omega), h.mx.md hm (by omega), h.er.md hm (by omega), Md.toBelow h.bl hm (fun b hb hf => by omega) (Nat.le_refl _)⟩
theorem PS.below {w W W' : World} {l : List UInt8} (h : PS w W l) (hb : Below W.heap.size W W') : PS w W' l := by
  have hm : Md (fun _ => False) W W' := Md.ofBelow hb
  exact ⟨h.rd.keep hm (fun h => h), h.bx.keep hm (fun h => h), h.rs.keep hm (fun h => h), h.mx.md hm (fun h => h), h.er.md hm (fun h => h), h.bl.trans (hb.mono h.bl.size)⟩
theorem PS.start {w : World} {l : List UInt8} (hm : Mx w) (he : Er w) : PS w (((w.alloc (.cells #[.string ⟨#[]⟩, .string ⟨#[]⟩, .slice none 0 0] 24)).alloc (.cells #[.string ⟨#[]⟩, .string ⟨#[]⟩, .slice none 0 0] 24)).alloc (.cells #[.string ⟨l.toArray⟩] 55)) l := by
  have b1 : Below w.heap.size w (w.alloc (.cells #[.string ⟨#[]⟩, .string ⟨#[]⟩, .slice none 0 0] 24)) := (Below.refl _ _).alloc (Nat.le_refl _) _
  have e1 : (w.alloc (.cells #[.string ⟨#[]⟩, .string ⟨#[]⟩, .slice none 0 0] 24)).heap.size = w.heap.size + 1 := by show (w.heap.push _).size = _; simp
  have m2 : Md (fun _ => False) (w.alloc (.cells #[.string ⟨#[]⟩, .string ⟨#[]⟩, .slice none 0 0] 24)) ((w.alloc (.cells #[.string ⟨#[]⟩, .string ⟨#[]⟩, .slice none 0 0] 24)).alloc (.cells #[.string ⟨#[]⟩, .string ⟨#[]⟩, .slice none 0 0] 24)) := (Md.refl _ _).alloc _
  have e2 : ((w.alloc (.cells #[.string ⟨#[]⟩, .string ⟨#[]⟩, .slice none 0 0] 24)).alloc (.cells #[.string ⟨#[]⟩, .string ⟨#[]⟩, .slice none 0 0] 24)).heap.size = w.heap.size + 2 := by show ((w.heap.push _).push _).size = _; simp
  have m3 : Md (fun _ => False) ((w.alloc (.cells #[.string ⟨#[]⟩, .string ⟨#[]⟩, .slice none 0 0] 24)).alloc (.cells #[.string ⟨#[]⟩, .string ⟨#[]⟩, .slice none 0 0] 24)) (((w.alloc (.cells #[.string ⟨#[]⟩, .string ⟨#[]⟩, .slice none 0 0] 24)).alloc (.cells #[.string ⟨#[]⟩, .string ⟨#[]⟩, .slice none 0 0] 24)).alloc (.cells #[.string ⟨l.toArray⟩] 55)) := (Md.refl _ _).alloc _
  have m0 := (Md.ofBelow (F := fun _ => False) b1).trans (m2.trans m3)
  have n2 := heap_alloc_new (w.alloc (.cells #[.string ⟨#[]⟩, .string ⟨#[]⟩, .slice none 0 0] 24)) (.cells #[.string ⟨#[]⟩, .string ⟨#[]⟩, .slice none 0 0] 24)
  rw [e1] at n2
  have n3 := heap_alloc_new ((w.alloc (.cells #[.string ⟨#[]⟩, .string ⟨#[]⟩, .slice none 0 0] 24)).alloc (.cells #[.string ⟨#[]⟩, .string ⟨#[]⟩, .slice none 0 0] 24)) (.cells #[.string ⟨l.toArray⟩] 55)
  rw [e2] at n3
  exact ⟨n3, keep_blk n2 m3 (fun h => h), keep_blk (heap_alloc_new w _) (m2.trans m3) (fun h => h), hm.md m0 (fun h => h), he.md m0 (fun h => h), Md.toBelow (Below.refl _ _) m0 (fun _ _ h => h) (Nat.le_refl _)⟩
set_option maxRecDepth 20000 in
set_option maxHeartbeats 3200000 in
theorem parse_any (l : List UInt8) (w : World) (hs : l.length ≤ maxLen) (hm : Mx w) (he : Er w) :
    Calls Tryz.prog 9 #[.string ⟨l.toArray⟩] w fun e w' => PaR l w e w' := by
  have hz : l.length ≤ 9223372036854775807 := by unfold maxLen at hs; exact hs
  have h3 := he.pos
  have HS0 : Hid (PS w _ l) := PS.start hm he
  by_cases hlong : 65536 < l.length
  · have hli : (65536 : Int) < (l.length : Int) := by omega
    obtain ⟨⟨c0, c1, c2⟩, f0, f1, f2⟩ := Bx.cells HS0.out.rs
    go_enter Tryz.func9, Tryz.ntmps9
    go_wp2_with fail
    refine wp_scope_ahead 0 rfl ?_
    go_wp2_with fail
    rw [Jmp_ret]
    go_wp2
    refine bodyPost_ret (v := .tuple #[ndZ, .int .i64 2]) (by simp [results, Tryz.results9, go_sem, ndZ, c0, c1, c2]) rfl ⟨?_, .inl ⟨hlong, rfl⟩⟩
    first
      | exact HS0.out.bl
      | exact (Md.toBelow HS0.out.bl ((((Md.refl (fun b => b = w.heap.size) _).set (.inl rfl) 0 _).set (.inl rfl) 1 _).set (.inl rfl) 2 _) (fun b hb hf => by omega) (Nat.le_refl _))
  · have hli : ¬ (65536 : Int) < (l.length : Int) := by omega
    have hll : l.length ≤ 65536 := by omega
    have KL := (show Hid (∀ W, Calls Tryz.prog 26 #[.string ⟨l.toArray⟩] W fun e w' => e = .returned (.bool (cntP xmlP l).isSome) ∧ Below W.heap.size W w') from fun W => legal_any ⟨l.toArray⟩ W (by rw [mk_size]; exact hs))
    have HD := (show Hid (∀ W, PS w W l → Calls Tryz.prog 27 #[.pointer (some ⟨w.heap.size + 2, 0, none⟩)] W fun e w' => e = .returned (.bool (declL l).isSome) ∧ (∀ r, declL l = some r → Rd w' (w.heap.size + 2) r) ∧ Md (fun b => b = w.heap.size + 2) W w') from fun W h => decl_any _ l W h.rd h.mx hll)
    have HW := (show Hid (∀ W q, Rd W (w.heap.size + 2) q → Calls Tryz.prog 28 #[.pointer (some ⟨w.heap.size + 2, 0, none⟩)] W fun e w' => e = .returned (.bool (decide ((skp q).length < q.length))) ∧ Rd w' (w.heap.size + 2) (skp q) ∧ Md (fun b => b = w.heap.size + 2) W w') from fun W q h => white_any _ q W h)
    have HE := (show Hid (∀ W q, Rd W (w.heap.size + 2) q → Mx W → Er W → q.length ≤ 65536 → Calls Tryz.prog 29 #[.pointer (some ⟨w.heap.size + 2, 0, none⟩), .int .i64 1] W fun e w' => ElR 16 (elemF une 16 q) W (w.heap.size + 2) e w') from fun W q h1 h2 h3 h4 => elem_all 16 (Nat.le_refl _) _ q W h1 h2 h3 h4)
    obtain ⟨X, hX⟩ : ∃ X, X = prsL l := ⟨_, rfl⟩
    have HPR : Hid (∀ e w', (Below w.heap.size w w' ∧ ((65536 < l.length ∧ e = .returned (.tuple #[ndZ, .int .i64 2])) ∨ (l.length ≤ 65536 ∧ X = none ∧ e = .returned (.tuple #[ndZ, .int .i64 130])) ∨ (l.length ≤ 65536 ∧ ∃ t a c, X = some t ∧ e = .returned (.tuple #[ndV t a c, .int .i64 0]) ∧ Kd (fun b => w.heap.size ≤ b) 16 w' a t.ks))) → PaR l w e w') := by
      rintro e w' h
      unfold PaR
      rw [← hX]
      exact h
    refine Calls.mono ?_ HPR.out
    unfold prsL at hX
    clear HPR hm he
    cases hlg : (cntP xmlP l).isSome
    · have HF : Hid (X = none) := by rw [hlg] at hX; exact hX
      rw [hlg] at KL
      clear hlg hX
      go_enter Tryz.func9, Tryz.ntmps9
      go_wp2_with fail
      refine wp_scope_ahead 0 rfl ?_
      go_wp2_with fail
      refine (KL.out _).mono ?_
      rintro e w1 ⟨rfl, hb1⟩
      have S1 : Hid (PS w w1 l) := HS0.out.below hb1
      clear hb1 HS0
      obtain ⟨⟨c0, c1, c2⟩, f0, f1, f2⟩ := Bx.cells S1.out.rs
      go_wp2_with fail
      go_step3
      refine ⟨rfl, ?_⟩
      go_wp2
      rw [Exit.noGoto_ret]
      go_wp2
      exact bodyPost_ret (v := .tuple #[ndZ, .int .i64 130]) (by simp [results, Tryz.results9, go_sem, ndZ, c0, c1, c2]) rfl ⟨(Md.toBelow S1.out.bl ((((Md.refl (fun b => b = w.heap.size) _).set (.inl rfl) 0 _).set (.inl rfl) 1 _).set (.inl rfl) 2 _) (fun b hb hf => by omega) (Nat.le_refl _)), .inr (.inl ⟨by omega, HF.out, rfl⟩)⟩
    · have hX1 : X = docF une l := by rw [hlg] at hX; exact hX
      rw [hlg] at KL
      clear hlg hX
      unfold docF at hX1
      go_enter Tryz.func9, Tryz.ntmps9
      go_wp2_with fail
      refine wp_scope_ahead 0 rfl ?_
      go_wp2_with fail
      refine (KL.out _).mono ?_
      rintro e w1 ⟨rfl, hb1⟩
      have S1 : Hid (PS w w1 l) := HS0.out.below hb1
      clear hb1 HS0 KL
      have K2 := HD.out w1 S1.out
      cases hdd : declL l with
      | none =>
        have HF : Hid (X = none) := by rw [hdd] at hX1; exact hX1
        rw [hdd] at K2
        clear hdd hX1
        go_wp2_with fail
        refine K2.mono ?_
        rintro e w2 ⟨rfl, -, m2⟩
        have S2 : Hid (Bx w2 w.heap.size [] [] (.slice none 0 0) ∧ Below w.heap.size w w2) := ⟨S1.out.rs.keep m2 (by omega), Md.toBelow S1.out.bl m2 (fun b hb hf => by omega) (Nat.le_refl _)⟩
        clear m2 K2 S1
        obtain ⟨⟨c0, c1, c2⟩, f0, f1, f2⟩ := Bx.cells S2.out.1
        go_wp2_with fail
        go_step3
        refine ⟨rfl, ?_⟩
        go_wp2
        rw [Exit.noGoto_ret]
        go_wp2
        exact bodyPost_ret (v := .tuple #[ndZ, .int .i64 130]) (by simp [results, Tryz.results9, go_sem, ndZ, c0, c1, c2]) rfl ⟨(Md.toBelow S2.out.2 ((((Md.refl (fun b => b = w.heap.size) _).set (.inl rfl) 0 _).set (.inl rfl) 1 _).set (.inl rfl) 2 _) (fun b hb hf => by omega) (Nat.le_refl _)), .inr (.inl ⟨by omega, HF.out, rfl⟩)⟩
      | some l1 =>
        have hl1 := decl_len hdd
        have hX2 : X = (elemF une 16 (skp l1)).bind fun p => if skp p.2 = [] then some p.1 else none := by rw [hdd] at hX1; exact hX1
        rw [hdd] at K2
        clear hdd hX1
        go_wp2_with fail
        refine K2.mono ?_
        rintro e w2 ⟨rfl, r2, m2⟩
        have S2 : Hid (PS w w2 l1) := S1.out.step h3 m2 (r2 l1 rfl)
        clear r2 m2 K2 S1
        have K3 := HW.out w2 l1 S2.out.rd
        go_wp2_with fail
        refine K3.mono ?_
        rintro e w3 ⟨rfl, r3, m3⟩
        have S3 : Hid (PS w w3 (skp l1)) := S2.out.step h3 m3 r3
        have hsk := skp_le l1
        clear r3 m3 K3 S2
        have K4 := HE.out w3 (skp l1) S3.out.rd S3.out.mx S3.out.er (by omega)
        go_wp2_with fail
        refine K4.mono ?_
        rintro e w4 (⟨t, r, a, c, ho, rfl, kd4, r4, m4⟩ | ⟨ho, rfl, m4⟩)
        · have S4 : Hid (PS w w4 r) := S3.out.step h3 m4 r4
          have hw3 := blk_lt S3.out.rd
          have KD4 : Hid (Kd (fun b => w.heap.size + 3 ≤ b) 16 w4 a t.ks) := kd4.mono (fun b hb _ => by omega)
          have hX3 : X = if skp r = [] then some t else none := by rw [ho] at hX2; exact hX2
          obtain ⟨⟨b0, b1, b2⟩, g0, g1, g2⟩ := Bx.cells S4.out.bx
          clear ho hX2 r4 m4 kd4 K4 S3
          obtain ⟨w5, hw5⟩ : ∃ w5, w5 = ((w4.setCell ⟨w.heap.size + 1, 0, none⟩ (.string ⟨t.nm.toArray⟩)).setCell ⟨w.heap.size + 1, 1, none⟩ (.string ⟨t.tx.toArray⟩)).setCell ⟨w.heap.size + 1, 2, none⟩ (.slice a t.ks.length c) := ⟨_, rfl⟩
          have m5 : Md (fun b => b = w.heap.size + 1) w4 w5 := by rw [hw5]; exact (((Md.refl (fun b => b = w.heap.size + 1) w4).set (.inl rfl) 0 _).set (.inl rfl) 1 _).set (.inl rfl) 2 _
          have B5 : Bx w5 (w.heap.size + 1) t.nm t.tx (.slice a t.ks.length c) := by rw [hw5]; exact (set_blk (set_blk (set_blk S4.out.bx 0 _) 1 _) 2 _).trans rfl
          have S5 : Hid (Rd w5 (w.heap.size + 2) r ∧ Bx w5 (w.heap.size + 1) t.nm t.tx (.slice a t.ks.length c) ∧ Bx w5 w.heap.size [] [] (.slice none 0 0) ∧ Below w.heap.size w w5 ∧ Kd (fun b => w.heap.size + 3 ≤ b) 16 w5 a t.ks) := ⟨S4.out.rd.keep m5 (by omega), B5, S4.out.rs.keep m5 (by omega), Md.toBelow S4.out.bl m5 (fun b hb hf => by omega) (Nat.le_refl _), KD4.out.md m5 (fun b _ h1 h2 => by omega)⟩
          clear m5 B5 KD4 S4
          unfold ndV
          have K6 := HW.out w5 r S5.out.1
          go_wp2_with fail
          rw [← hw5]
          refine K6.mono ?_
          rintro e w6 ⟨rfl, r6, m6⟩
          have S6 : Hid (Rd w6 (w.heap.size + 2) (skp r) ∧ Bx w6 (w.heap.size + 1) t.nm t.tx (.slice a t.ks.length c) ∧ Bx w6 w.heap.size [] [] (.slice none 0 0) ∧ Below w.heap.size w w6 ∧ Kd (fun b => w.heap.size + 3 ≤ b) 16 w6 a t.ks) := ⟨r6, S5.out.2.1.keep m6 (by omega), S5.out.2.2.1.keep m6 (by omega), Md.toBelow S5.out.2.2.2.1 m6 (fun b hb hf => by omega) (Nat.le_refl _), S5.out.2.2.2.2.md m6 (fun b _ h1 h2 => by omega)⟩
          clear r6 m6 K6 S5 hw5 b0 b1 b2 g0 g1 g2
          have d0 := cell_blk S6.out.1 0
          obtain ⟨q, hq⟩ : ∃ q : ByteArray, q = ⟨(skp r).toArray⟩ := ⟨_, rfl⟩
          simp only [List.getElem?_toArray] at d0
          rw [← hq] at d0
          have hqt : q.toList = skp r := by rw [Lib.toList_data, hq]
          by_cases hsr : skp r = []
          · have hqe : q.toList.isEmpty = true := by rw [hqt, hsr]; rfl
            have HF : Hid (X = some t) := by rw [if_pos hsr] at hX3; exact hX3
            obtain ⟨⟨c0, c1, c2⟩, f0, f1, f2⟩ := Bx.cells S6.out.2.2.1
            obtain ⟨⟨b0, b1, b2⟩, g0, g1, g2⟩ := Bx.cells S6.out.2.1
            clear hqt hsr hX3 hq
            go_wp2_with fail
            rw [Jmp_ret]
            go_wp2
            have mm : Md (fun b => b = w.heap.size) w6 (((w6.setCell ⟨w.heap.size, 0, none⟩ (.string ⟨t.nm.toArray⟩)).setCell ⟨w.heap.size, 1, none⟩ (.string ⟨t.tx.toArray⟩)).setCell ⟨w.heap.size, 2, none⟩ (.slice a t.ks.length c)) := (((Md.refl (fun b => b = w.heap.size) w6).set (.inl rfl) 0 _).set (.inl rfl) 1 _).set (.inl rfl) 2 _
            exact bodyPost_ret (v := .tuple #[ndV t a c, .int .i64 0]) (by simp [results, Tryz.results9, go_sem, ndV, c0, c1, c2]) rfl ⟨Md.toBelow S6.out.2.2.2.1 mm (fun b hb hf => by omega) (Nat.le_refl _), .inr (.inr ⟨hll, t, a, c, HF.out, rfl, (S6.out.2.2.2.2.md mm (fun b _ h1 h2 => by omega)).mono (fun b hb _ => by omega)⟩)⟩
          · have hqe : q.toList.isEmpty = false := by
              rw [hqt]
              cases h : skp r with
              | nil => exact absurd h hsr
              | cons x y => rfl
            have HF : Hid (X = none) := by rw [if_neg hsr] at hX3; exact hX3
            clear hqt hsr hX3 hq
            obtain ⟨⟨c0, c1, c2⟩, f0, f1, f2⟩ := Bx.cells S6.out.2.2.1
            go_wp2_with fail
            go_step3
            refine ⟨rfl, ?_⟩
            go_wp2
            rw [Exit.noGoto_ret]
            go_wp2
            exact bodyPost_ret (v := .tuple #[ndZ, .int .i64 130]) (by simp [results, Tryz.results9, go_sem, ndZ, c0, c1, c2]) rfl ⟨(Md.toBelow S6.out.2.2.2.1 ((((Md.refl (fun b => b = w.heap.size) _).set (.inl rfl) 0 _).set (.inl rfl) 1 _).set (.inl rfl) 2 _) (fun b hb hf => by omega) (Nat.le_refl _)), .inr (.inl ⟨by omega, HF.out, rfl⟩)⟩
        · have HF : Hid (X = none) := by rw [ho] at hX2; exact hX2
          have S4 : Hid (PS w w3 (skp l1) ∧ Md (fun b => b = w.heap.size + 2) w3 w4) := ⟨S3.out, m4⟩
          have b4 := S3.out.bx.keep m4 (by omega)
          obtain ⟨⟨b0, b1, b2⟩, g0, g1, g2⟩ := Bx.cells b4
          obtain ⟨w5, hw5⟩ : ∃ w5, w5 = ((w4.setCell ⟨w.heap.size + 1, 0, none⟩ (.string ⟨#[]⟩)).setCell ⟨w.heap.size + 1, 1, none⟩ (.string ⟨#[]⟩)).setCell ⟨w.heap.size + 1, 2, none⟩ (.slice none 0 0) := ⟨_, rfl⟩
          have m5 : Md (fun b => b = w.heap.size + 1) w4 w5 := by rw [hw5]; exact (((Md.refl (fun b => b = w.heap.size + 1) w4).set (.inl rfl) 0 _).set (.inl rfl) 1 _).set (.inl rfl) 2 _
          have S5 : Hid (Bx w5 w.heap.size [] [] (.slice none 0 0) ∧ Below w.heap.size w w5) := ⟨(S3.out.rs.keep m4 (by omega)).keep m5 (by omega), Md.toBelow (Md.toBelow S3.out.bl m4 (fun b hb hf => by omega) (Nat.le_refl _)) m5 (fun b hb hf => by omega) (Nat.le_refl _)⟩
          obtain ⟨⟨c0, c1, c2⟩, f0, f1, f2⟩ := Bx.cells S5.out.1
          rw [hw5] at c0 c1 c2 f0 f1 f2 S5
          clear ho hX2 m4 K4 S3 b4 m5 hw5 S4
          unfold ndZ
          go_wp2_with fail
          go_step3
          refine ⟨rfl, ?_⟩
          go_wp2
          rw [Exit.noGoto_ret]
          go_wp2
          exact bodyPost_ret (v := .tuple #[ndZ, .int .i64 130]) (by simp [results, Tryz.results9, go_sem, ndZ, c0, c1, c2]) rfl ⟨(Md.toBelow S5.out.2 ((((Md.refl (fun b => b = w.heap.size) _).set (.inl rfl) 0 _).set (.inl rfl) 1 _).set (.inl rfl) 2 _) (fun b hb hf => by omega) (Nat.le_refl _)), .inr (.inl ⟨by omega, HF.out, rfl⟩)⟩
end Go.Proofs.YtohkocknpmnakaaGreatDoor
