/-
  An element.
-/
import Derived.Test.YtohkocknpmnakaaGreatDoorCon
namespace Go.Proofs.YtohkocknpmnakaaGreatDoor
open Go.RowKit

theorem ats_more : ∀ (f g : Nat) (l : List UInt8), l.length < f → l.length < g → atsF f l = atsF g l
  | 0, g, l, h, _ => by omega
  | f + 1, 0, l, _, h => by omega
  | f + 1, g + 1, l, h1, h2 => by
    simp only [atsF]
    split
    · cases e : atrL (skp l) with
      | none => rfl
      | some r =>
        have := atr_len e
        have := skp_le l
        exact ats_more f g r (by omega) (by omega)
    · rfl
theorem elemF_eq (k : Nat) (l : List UInt8) : elemF une (k + 1) l = (eat [60] l).bind fun l1 => if nmL l1 = [] then none else (atsF ((l1.drop (nmL l1).length).length + 1) (l1.drop (nmL l1).length)).bind fun r => restF une (elemF une k) (nmL l1) r := by
  simp only [elemF]
  congr 1
  funext l1
  split
  · rfl
  · rw [ats_more (l1.length + 1) ((l1.drop (nmL l1).length).length + 1) _ (by simp; omega) (by omega)]
/-- Where an element's reading stands: the reader, the node's box, the result's box. -/
structure ES (w W : World) (p : Nat) (l n x : List UInt8) (v : Value) : Prop where
  rd : Rd W p l
  bx : Bx W (w.heap.size + 1) n x v
  rs : Bx W w.heap.size [] [] (.slice none 0 0)
  mx : Mx W
  er : Er W
  md : Md (fun b => b = p) w W
theorem ES.step {w W W' : World} {p : Nat} {l l' n x : List UInt8} {v : Value} (h : ES w W p l n x v) (hp : p < w.heap.size) (h0 : ¬ 0 = p) (h3 : ¬ 3 = p) (hm : Md (fun b => b = p) W W') (hr : Rd W' p l') : ES w W' p l' n x v :=
  ⟨hr, h.bx.keep hm (by omega), h.rs.keep hm (by omega), h.mx.md hm h0, h.er.md hm h3, h.md.trans hm⟩
theorem ES.start {w : World} {p : Nat} {l : List UInt8} (h : Rd w p l) (hm : Mx w) (he : Er w) : ES w ((w.alloc (.cells #[.string ⟨#[]⟩, .string ⟨#[]⟩, .slice none 0 0] 24)).alloc (.cells #[.string ⟨#[]⟩, .string ⟨#[]⟩, .slice none 0 0] 24)) p l [] [] (.slice none 0 0) := by
  have m1 : Md (fun _ => False) w (w.alloc (.cells #[.string ⟨#[]⟩, .string ⟨#[]⟩, .slice none 0 0] 24)) := (Md.refl _ w).alloc _
  have m2 : Md (fun _ => False) (w.alloc (.cells #[.string ⟨#[]⟩, .string ⟨#[]⟩, .slice none 0 0] 24)) ((w.alloc (.cells #[.string ⟨#[]⟩, .string ⟨#[]⟩, .slice none 0 0] 24)).alloc (.cells #[.string ⟨#[]⟩, .string ⟨#[]⟩, .slice none 0 0] 24)) := (Md.refl _ _).alloc _
  have m12 := m1.trans m2
  have e1 : (w.alloc (.cells #[.string ⟨#[]⟩, .string ⟨#[]⟩, .slice none 0 0] 24)).heap.size = w.heap.size + 1 := by show (w.heap.push _).size = _; simp
  refine ⟨h.keep m12 (fun h => h), ?_, keep_blk (heap_alloc_new w _) m2 (fun h => h), hm.md m12 (fun h => h), he.md m12 (fun h => h), m12.mono (fun _ _ h => h.elim)⟩
  have := heap_alloc_new (w.alloc (.cells #[.string ⟨#[]⟩, .string ⟨#[]⟩, .slice none 0 0] 24)) (.cells #[.string ⟨#[]⟩, .string ⟨#[]⟩, .slice none 0 0] 24)
  rw [e1] at this
  exact this
theorem ES.setN {w W : World} {p : Nat} {l n : List UInt8} {v : Value} (h : ES w W p l [] [] v) (hp : p < w.heap.size) (hz : 3 < w.heap.size) : ES w (W.setCell ⟨w.heap.size + 1, 0, none⟩ (.string ⟨n.toArray⟩)) p l n [] v := by
  have mm : Md (fun b => b = w.heap.size + 1) W (W.setCell ⟨w.heap.size + 1, 0, none⟩ (.string ⟨n.toArray⟩)) := (Md.refl (fun b => b = w.heap.size + 1) W).set (.inl rfl) 0 _
  exact ⟨h.rd.keep mm (by omega), (set_blk h.bx 0 _).trans rfl, h.rs.keep mm (by omega), h.mx.md mm (by omega), h.er.md mm (by omega), h.md.set (.inr (by omega)) 0 _⟩
theorem elem_zero : ElC 0 := by
  intro p l W h hm he hl
  have hS := ES.start h hm he
  have c0 := cell_blk hS.rs 0
  have f0 := frozen_blk hS.rs 0
  have c1 := cell_blk hS.rs 1
  have f1 := frozen_blk hS.rs 1
  have c2 := cell_blk hS.rs 2
  have f2 := frozen_blk hS.rs 2
  have HM : Hid (Md (fun b => b = p) W ((W.alloc (.cells #[.string ⟨#[]⟩, .string ⟨#[]⟩, .slice none 0 0] 24)).alloc (.cells #[.string ⟨#[]⟩, .string ⟨#[]⟩, .slice none 0 0] 24))) := hS.md
  simp only [List.getElem?_toArray] at c0 c1 c2
  have e17 : ((17 - 0 : Nat) : Int) = 17 := rfl
  rw [e17]
  clear hS h hm he e17
  go_enter Tryz.func29, Tryz.ntmps29
  go_wp2_with fail
  refine wp_scope_ahead 0 rfl ?_
  go_wp2_with fail
  go_step3
  refine ⟨rfl, ?_⟩
  go_wp2
  rw [Exit.noGoto_ret]
  go_wp2
  exact bodyPost_ret (v := .tuple #[ndZ, .bool false]) (by simp [results, Tryz.results29, go_sem, ndZ]) rfl (.inr ⟨rfl, rfl, HM.out⟩)

theorem Bx.cells {w : World} {q : Nat} {n x : List UInt8} {v : Value} (h : Bx w q n x v) : (w.cell? ⟨q, 0, none⟩ = some (.string ⟨n.toArray⟩) ∧ w.cell? ⟨q, 1, none⟩ = some (.string ⟨x.toArray⟩) ∧ w.cell? ⟨q, 2, none⟩ = some v) ∧ w.frozen? ⟨q, 0, none⟩ = false ∧ w.frozen? ⟨q, 1, none⟩ = false ∧ w.frozen? ⟨q, 2, none⟩ = false :=
  ⟨⟨cell_blk h 0, cell_blk h 1, cell_blk h 2⟩, frozen_blk h 0, frozen_blk h 1, frozen_blk h 2⟩
set_option maxRecDepth 20000 in
set_option maxHeartbeats 3200000 in
theorem elem_succ (k : Nat) (hk : k ≤ 15) (HE : ElC k) : ElC (k + 1) := by
  intro p l w h hm he hl
  rw [show 17 - (k + 1) = 16 - k by omega]
  have hp0 := h.pos hm
  have hp3 := h.pos3 he
  have hplt := h.lt
  have h3lt := he.pos
  have hS0 := ES.start h hm he
  have hdep : ¬ (16 : Int) < ((16 - k : Nat) : Int) := by omega
  have HCo := (show Hid (∀ (q : Nat) (l n : List UInt8) (W : World), Rd W p l → Bx W q n [] (.slice none 0 0) → p ≠ q → Mx W → Er W → l.length ≤ 65536 → Calls Tryz.prog 58 #[.pointer (some ⟨p, 0, none⟩), .pointer (some ⟨q, 0, none⟩), .int .i64 ((16 - k : Nat) : Int)] W fun e w' => CoR k (contF une (elemF une k) l) W p q n e w') from fun q l n W h1 h2 h3 h4 h5 h6 => content_any k hk HE p q l n W h1 h2 h3 h4 h5 h6)
  obtain ⟨D, hD⟩ : ∃ D : Int, D = ((16 - k : Nat) : Int) := ⟨_, rfl⟩
  rw [← hD] at hdep HCo
  rw [← hD]
  have HW := (show Hid (∀ W q, Rd W p q → Calls Tryz.prog 28 #[.pointer (some ⟨p, 0, none⟩)] W fun e w' => e = .returned (.bool (decide ((skp q).length < q.length))) ∧ Rd w' p (skp q) ∧ Md (fun b => b = p) W w') from fun W q h => white_any p q W h)
  have HN := (show Hid (∀ W q, Rd W p q → q.length ≤ 65536 → Calls Tryz.prog 56 #[.pointer (some ⟨p, 0, none⟩)] W fun e w' => e = .returned (.string ⟨(nmL q).toArray⟩) ∧ Rd w' p (q.drop (nmL q).length) ∧ Md (fun b => b = p) W w') from fun W q h h2 => name_any p q W h h2)
  have HY := (show Hid (∀ W q r x, Rd W p q → eat (ByteArray.data x).toList q = some r → Calls Tryz.prog 52 #[.pointer (some ⟨p, 0, none⟩), .string x] W fun e w' => e = .returned (.bool true) ∧ Rd w' p r ∧ Md (fun b => b = p) W w') from fun W q r x h h2 => take_yes p q r x W h h2)
  have HO := (show Hid (∀ W q x, Rd W p q → eat (ByteArray.data x).toList q = none → Calls Tryz.prog 52 #[.pointer (some ⟨p, 0, none⟩), .string x] W fun e w' => e = .returned (.bool false) ∧ Rd w' p q ∧ Md (fun b => b = p) W w') from fun W q x h h2 => take_no p q x W h h2)
  have HA := (show Hid (∀ W q, Rd W p q → Mx W → q.length ≤ 65536 → Calls Tryz.prog 57 #[.pointer (some ⟨p, 0, none⟩)] W fun e w' => e = .returned (.bool (atsF (q.length + 1) q).isSome) ∧ (∀ r, atsF (q.length + 1) q = some r → Rd w' p r) ∧ Md (fun b => b = p) W w') from fun W q h h2 h3 => attrs_any p q W h h2 h3)
  obtain ⟨X, hX⟩ : ∃ X, X = elemF une (k + 1) l := ⟨_, rfl⟩
  rw [← hX]
  rw [elemF_eq] at hX
  have HSt : Hid (ES w _ p l [] [] (.slice none 0 0)) := hS0
  clear hS0 h hm he hD HE
  cases he1 : eat [60] l with
  | none =>
    have HF : Hid (X = none) := by rw [he1] at hX; exact hX
    have K := HO.out _ l ⟨#[60]⟩ HSt.out.rd he1
    clear he1 hX
    go_enter Tryz.func29, Tryz.ntmps29
    go_wp2_with fail
    refine wp_scope_ahead 0 rfl ?_
    go_wp2_with fail
    refine K.mono ?_
    rintro e w1 ⟨rfl, r1, m1⟩
    have S1 : Hid (ES w w1 p l [] [] (.slice none 0 0)) := HSt.out.step hplt hp0 hp3 m1 r1
    clear r1 m1 K HSt
    obtain ⟨⟨c0, c1, c2⟩, f0, f1, f2⟩ := Bx.cells S1.out.rs
    go_wp2_with fail
    go_step3
    refine ⟨rfl, ?_⟩
    go_wp2
    rw [Exit.noGoto_ret]
    go_wp2
    exact bodyPost_ret (v := .tuple #[ndZ, .bool false]) (by simp [results, Tryz.results29, go_sem, ndZ, c0, c1, c2]) rfl (.inr ⟨HF.out, rfl, (((S1.out.md).set (.inr (Nat.le_refl _)) 0 _).set (.inr (Nat.le_refl _)) 1 _).set (.inr (Nat.le_refl _)) 2 _⟩)
  | some l1 =>
    have hl1 := (eat_len he1).1
    simp only [List.length_cons, List.length_nil] at hl1
    have hX1 : X = if nmL l1 = [] then none else (atsF ((l1.drop (nmL l1).length).length + 1) (l1.drop (nmL l1).length)).bind fun r => restF une (elemF une k) (nmL l1) r := by rw [he1] at hX; exact hX
    have K1 := HY.out _ l l1 ⟨#[60]⟩ HSt.out.rd he1
    clear he1 hX
    go_enter Tryz.func29, Tryz.ntmps29
    go_wp2_with fail
    refine wp_scope_ahead 0 rfl ?_
    go_wp2_with fail
    refine K1.mono ?_
    rintro e w1 ⟨rfl, r1, m1⟩
    have S1 : Hid (ES w w1 p l1 [] [] (.slice none 0 0)) := HSt.out.step hplt hp0 hp3 m1 r1
    clear r1 m1 K1 HSt
    have K2 := HN.out w1 l1 S1.out.rd (by omega)
    obtain ⟨s, hs⟩ : ∃ s : ByteArray, s = ⟨(nmL l1).toArray⟩ := ⟨_, rfl⟩
    have HSs : Hid (s = ⟨(nmL l1).toArray⟩ ∧ s.data.toList = nmL l1) := ⟨hs, by rw [hs]⟩
    rw [← hs] at K2
    go_wp2_with fail
    refine K2.mono ?_
    rintro e w2 ⟨rfl, r2, m2⟩
    have S2 : Hid (ES w w2 p (l1.drop (nmL l1).length) [] [] (.slice none 0 0)) := S1.out.step hplt hp0 hp3 m2 r2
    obtain ⟨⟨b0, b1, b2⟩, g0, g1, g2⟩ := Bx.cells S2.out.bx
    have S3 : Hid (ES w (w2.setCell ⟨w.heap.size + 1, 0, none⟩ (.string s)) p (l1.drop (nmL l1).length) (nmL l1) [] (.slice none 0 0)) := by
      rw [hs]
      exact S2.out.setN hplt h3lt
    clear r2 m2 K2 S1 S2
    by_cases hn : nmL l1 = []
    · have HF : Hid (X = none) := by rw [if_pos hn] at hX1; exact hX1
      have hse : s.toList.isEmpty = true := by rw [Lib.toList_data, HSs.out.2, hn]; rfl
      have d0 : (w2.setCell ⟨w.heap.size + 1, 0, none⟩ (.string s)).cell? ⟨w.heap.size + 1, 0, none⟩ = some (.string s) := by
        have := (Bx.cells S3.out.bx).1.1
        rw [← hs] at this
        exact this
      clear hX1 hn hs
      obtain ⟨⟨c0, c1, c2⟩, f0, f1, f2⟩ := Bx.cells S3.out.rs
      go_wp2_with fail
      go_step3
      refine ⟨rfl, ?_⟩
      go_wp2
      rw [Exit.noGoto_ret]
      go_wp2
      exact bodyPost_ret (v := .tuple #[ndZ, .bool false]) (by simp [results, Tryz.results29, go_sem, ndZ, c0, c1, c2]) rfl (.inr ⟨HF.out, rfl, (((S3.out.md).set (.inr (Nat.le_refl _)) 0 _).set (.inr (Nat.le_refl _)) 1 _).set (.inr (Nat.le_refl _)) 2 _⟩)
    · have hse : s.toList.isEmpty = false := by
        rw [Lib.toList_data, HSs.out.2]
        cases h : nmL l1 with
        | nil => exact absurd h hn
        | cons a b => rfl
      have hX2 : X = (atsF ((l1.drop (nmL l1).length).length + 1) (l1.drop (nmL l1).length)).bind fun r => restF une (elemF une k) (nmL l1) r := by rw [if_neg hn] at hX1; exact hX1
      have hl2 : (l1.drop (nmL l1).length).length ≤ l1.length := by simp
      generalize hnm : nmL l1 = nm at *
      generalize hl2e : l1.drop nm.length = l2 at *
      have K3 := HA.out _ l2 S3.out.rd S3.out.mx (by omega)
      clear hX1 hn hs hnm hl2e
      cases ha : atsF (l2.length + 1) l2 with
      | none =>
        have HF : Hid (X = none) := by rw [ha] at hX2; exact hX2
        rw [ha] at K3
        clear ha hX2
        go_wp2_with fail
        refine K3.mono ?_
        rintro e w4 ⟨rfl, -, m4⟩
        have R4 : Hid (Bx w4 w.heap.size [] [] (.slice none 0 0) ∧ Md (fun b => b = p) w w4) := ⟨S3.out.rs.keep m4 (by omega), S3.out.md.trans m4⟩
        clear m4 K3 S3
        obtain ⟨⟨c0, c1, c2⟩, f0, f1, f2⟩ := Bx.cells R4.out.1
        go_wp2_with fail
        go_step3
        refine ⟨rfl, ?_⟩
        go_wp2
        rw [Exit.noGoto_ret]
        go_wp2
        exact bodyPost_ret (v := .tuple #[ndZ, .bool false]) (by simp [results, Tryz.results29, go_sem, ndZ, c0, c1, c2]) rfl (.inr ⟨HF.out, rfl, (((R4.out.2).set (.inr (Nat.le_refl _)) 0 _).set (.inr (Nat.le_refl _)) 1 _).set (.inr (Nat.le_refl _)) 2 _⟩)
      | some r =>
        have hrl := ats_len ha
        have hX3 : X = restF une (elemF une k) nm r := by rw [ha] at hX2; exact hX2
        rw [ha] at K3
        clear ha hX2
        go_wp2_with fail
        refine K3.mono ?_
        rintro e w4 ⟨rfl, r4, m4⟩
        have S4 : Hid (ES w w4 p r nm [] (.slice none 0 0)) := S3.out.step hplt hp0 hp3 m4 (r4 r rfl)
        clear r4 m4 K3 S3 b0 b1 b2 g0 g1 g2
        unfold restF at hX3
        cases he5 : eat [47, 62] r with
        | some r5 =>
          have HF : Hid (X = some (.nd nm [] [], r5)) := by rw [he5] at hX3; exact hX3
          have K5 := HY.out w4 r r5 ⟨#[47, 62]⟩ S4.out.rd he5
          clear he5 hX3
          go_wp2_with fail
          refine K5.mono ?_
          rintro e w5 ⟨rfl, r5', m5⟩
          have S5 : Hid (ES w w5 p r5 nm [] (.slice none 0 0)) := S4.out.step hplt hp0 hp3 m5 r5'
          clear r5' m5 K5 S4
          obtain ⟨⟨c0, c1, c2⟩, f0, f1, f2⟩ := Bx.cells S5.out.rs
          obtain ⟨⟨b0, b1, b2⟩, g0, g1, g2⟩ := Bx.cells S5.out.bx
          go_wp2_with fail
          rw [Jmp_ret]
          go_wp2
          have mm : Md (fun b => b = w.heap.size) w5 (((w5.setCell ⟨w.heap.size, 0, none⟩ (.string ⟨nm.toArray⟩)).setCell ⟨w.heap.size, 1, none⟩ (.string ⟨#[]⟩)).setCell ⟨w.heap.size, 2, none⟩ (.slice none 0 0)) := (((Md.refl (fun b => b = w.heap.size) w5).set (.inl rfl) 0 _).set (.inl rfl) 1 _).set (.inl rfl) 2 _
          refine bodyPost_ret (v := .tuple #[ndV (.nd nm [] []) none 0, .bool true]) (by simp [results, Tryz.results29, go_sem, ndV, Nod.nm, Nod.tx, Nod.ks, c0, c1, c2]) rfl (.inl ⟨.nd nm [] [], r5, none, 0, HF.out, rfl, ?_, ?_, ?_⟩)
          · exact Kd.nil _ _ _ _
          · exact S5.out.rd.keep mm (by omega)
          · exact ((S5.out.md.set (.inr (Nat.le_refl _)) 0 _).set (.inr (Nat.le_refl _)) 1 _).set (.inr (Nat.le_refl _)) 2 _
        | none =>
          have K5 := HO.out w4 r ⟨#[47, 62]⟩ S4.out.rd he5
          have hX4 : X = (eat [62] r).bind fun r1 => (contF une (elemF une k) r1).bind fun p => (closeL nm p.2.2).map fun r3 => (.nd nm p.1 p.2.1, r3) := by rw [he5] at hX3; exact hX3
          clear he5 hX3
          go_wp2_with fail
          refine K5.mono ?_
          rintro e w5 ⟨rfl, r5', m5⟩
          have S5 : Hid (ES w w5 p r nm [] (.slice none 0 0)) := S4.out.step hplt hp0 hp3 m5 r5'
          clear r5' m5 K5 S4
          cases he6 : eat [62] r with
          | none =>
            have HF : Hid (X = none) := by rw [he6] at hX4; exact hX4
            have K6 := HO.out w5 r ⟨#[62]⟩ S5.out.rd he6
            clear he6 hX4
            go_wp2_with fail
            refine K6.mono ?_
            rintro e w6 ⟨rfl, r6', m6⟩
            have R4 : Hid (Bx w6 w.heap.size [] [] (.slice none 0 0) ∧ Md (fun b => b = p) w w6) := ⟨S5.out.rs.keep m6 (by omega), S5.out.md.trans m6⟩
            clear r6' m6 K6 S5
            obtain ⟨⟨c0, c1, c2⟩, f0, f1, f2⟩ := Bx.cells R4.out.1
            go_wp2_with fail
            go_step3
            refine ⟨rfl, ?_⟩
            go_wp2
            rw [Exit.noGoto_ret]
            go_wp2
            exact bodyPost_ret (v := .tuple #[ndZ, .bool false]) (by simp [results, Tryz.results29, go_sem, ndZ, c0, c1, c2]) rfl (.inr ⟨HF.out, rfl, (((R4.out.2).set (.inr (Nat.le_refl _)) 0 _).set (.inr (Nat.le_refl _)) 1 _).set (.inr (Nat.le_refl _)) 2 _⟩)
          | some r6 =>
            have hr6 := (eat_len he6).1
            simp only [List.length_cons, List.length_nil] at hr6
            have hX5 : X = (contF une (elemF une k) r6).bind fun p => (closeL nm p.2.2).map fun r3 => (.nd nm p.1 p.2.1, r3) := by rw [he6] at hX4; exact hX4
            have K6 := HY.out w5 r r6 ⟨#[62]⟩ S5.out.rd he6
            clear he6 hX4
            go_wp2_with fail
            refine K6.mono ?_
            rintro e w6 ⟨rfl, r6', m6⟩
            have S6 : Hid (ES w w6 p r6 nm [] (.slice none 0 0)) := S5.out.step hplt hp0 hp3 m6 r6'
            clear r6' m6 K6 S5
            have K7 := HCo.out (w.heap.size + 1) r6 nm w6 S6.out.rd S6.out.bx (by omega) S6.out.mx S6.out.er (by omega)
            go_wp2_with fail
            refine K7.mono ?_
            rintro e w7 (⟨x, ks, r7, a, c, ho, rfl, bx7, kd7, rd7, m7⟩ | ⟨ho, rfl, m7⟩)
            · have hr7 := cont_len (elem_len une k) ho
              have hw6 := blk_lt S6.out.bx
              have S7 : Hid (ES w w7 p r7 nm x (.slice a ks.length c) ∧ Kd (fun b => w.heap.size + 2 ≤ b) (k + 1) w7 a ks) := ⟨⟨rd7, bx7, S6.out.rs.keep m7 (by omega), S6.out.mx.md m7 (by omega), S6.out.er.md m7 (by omega), S6.out.md.then m7 (fun b hb h => h.elim id (fun h => by omega))⟩, kd7.mono (fun b hb _ => by omega)⟩
              have hX6 : X = (closeL nm r7).map fun r3 => (.nd nm x ks, r3) := by rw [ho] at hX5; exact hX5
              unfold closeL at hX6
              clear ho hX5 bx7 kd7 rd7 m7 K7 S6 hw6
              cases he8 : eat [60, 47] r7 with
              | none =>
                have HF : Hid (X = none) := by rw [he8] at hX6; exact hX6
                have K8 := HO.out w7 r7 ⟨#[60, 47]⟩ S7.out.1.rd he8
                clear he8 hX6
                go_wp2_with fail
                refine K8.mono ?_
                rintro e w8 ⟨rfl, r8', m8⟩
                have R4 : Hid (Bx w8 w.heap.size [] [] (.slice none 0 0) ∧ Md (fun b => b = p) w w8) := ⟨S7.out.1.rs.keep m8 (by omega), S7.out.1.md.trans m8⟩
                clear r8' m8 K8 S7
                obtain ⟨⟨c0, c1, c2⟩, f0, f1, f2⟩ := Bx.cells R4.out.1
                go_wp2_with fail
                go_step3
                refine ⟨rfl, ?_⟩
                go_wp2
                rw [Exit.noGoto_ret]
                go_wp2
                exact bodyPost_ret (v := .tuple #[ndZ, .bool false]) (by simp [results, Tryz.results29, go_sem, ndZ, c0, c1, c2]) rfl (.inr ⟨HF.out, rfl, (((R4.out.2).set (.inr (Nat.le_refl _)) 0 _).set (.inr (Nat.le_refl _)) 1 _).set (.inr (Nat.le_refl _)) 2 _⟩)
              | some r8 =>
                have hr8 := (eat_len he8).1
                simp only [List.length_cons, List.length_nil] at hr8
                have hX7 : X = ((eat nm r8).bind fun b => eat [62] (skp b)).map fun r3 => (.nd nm x ks, r3) := by rw [he8] at hX6; exact hX6
                have K8 := HY.out w7 r7 r8 ⟨#[60, 47]⟩ S7.out.1.rd he8
                clear he8 hX6
                go_wp2_with fail
                refine K8.mono ?_
                rintro e w8 ⟨rfl, r8', m8⟩
                have S8 : Hid (ES w w8 p r8 nm x (.slice a ks.length c) ∧ Kd (fun b => w.heap.size + 2 ≤ b) (k + 1) w8 a ks) := ⟨S7.out.1.step hplt hp0 hp3 m8 r8', S7.out.2.md m8 (fun b _ h1 h2 => by omega)⟩
                clear r8' m8 K8 S7
                have d0 : w8.cell? ⟨w.heap.size + 1, 0, none⟩ = some (.string s) := by
                  have := (Bx.cells S8.out.1.bx).1.1
                  rw [← HSs.out.1] at this
                  exact this
                cases he9 : eat nm r8 with
                | none =>
                  have HF : Hid (X = none) := by rw [he9] at hX7; exact hX7
                  have K9 := HO.out w8 r8 s S8.out.1.rd (by rw [HSs.out.2]; exact he9)
                  clear he9 hX7
                  go_wp2_with fail
                  refine K9.mono ?_
                  rintro e w9 ⟨rfl, r9', m9⟩
                  have R4 : Hid (Bx w9 w.heap.size [] [] (.slice none 0 0) ∧ Md (fun b => b = p) w w9) := ⟨S8.out.1.rs.keep m9 (by omega), S8.out.1.md.trans m9⟩
                  clear r9' m9 K9 S8 d0
                  obtain ⟨⟨c0, c1, c2⟩, f0, f1, f2⟩ := Bx.cells R4.out.1
                  go_wp2_with fail
                  go_step3
                  refine ⟨rfl, ?_⟩
                  go_wp2
                  rw [Exit.noGoto_ret]
                  go_wp2
                  exact bodyPost_ret (v := .tuple #[ndZ, .bool false]) (by simp [results, Tryz.results29, go_sem, ndZ, c0, c1, c2]) rfl (.inr ⟨HF.out, rfl, (((R4.out.2).set (.inr (Nat.le_refl _)) 0 _).set (.inr (Nat.le_refl _)) 1 _).set (.inr (Nat.le_refl _)) 2 _⟩)
                | some r9 =>
                  have hX8 : X = (eat [62] (skp r9)).map fun r3 => (.nd nm x ks, r3) := by rw [he9] at hX7; exact hX7
                  have K9 := HY.out w8 r8 r9 s S8.out.1.rd (by rw [HSs.out.2]; exact he9)
                  clear he9 hX7
                  go_wp2_with fail
                  refine K9.mono ?_
                  rintro e w9 ⟨rfl, r9', m9⟩
                  have S9 : Hid (ES w w9 p r9 nm x (.slice a ks.length c) ∧ Kd (fun b => w.heap.size + 2 ≤ b) (k + 1) w9 a ks) := ⟨S8.out.1.step hplt hp0 hp3 m9 r9', S8.out.2.md m9 (fun b _ h1 h2 => by omega)⟩
                  clear r9' m9 K9 S8 d0
                  go_wp2_with fail
                  refine (HW.out _ r9 S9.out.1.rd).mono ?_
                  rintro e w10 ⟨rfl, r10', m10⟩
                  have S10 : Hid (ES w w10 p (skp r9) nm x (.slice a ks.length c) ∧ Kd (fun b => w.heap.size + 2 ≤ b) (k + 1) w10 a ks) := ⟨S9.out.1.step hplt hp0 hp3 m10 r10', S9.out.2.md m10 (fun b _ h1 h2 => by omega)⟩
                  clear r10' m10 S9
                  cases he11 : eat [62] (skp r9) with
                  | none =>
                    have HF : Hid (X = none) := by rw [he11] at hX8; exact hX8
                    have K11 := HO.out w10 _ ⟨#[62]⟩ S10.out.1.rd he11
                    clear he11 hX8
                    go_wp2_with fail
                    refine K11.mono ?_
                    rintro e w11 ⟨rfl, r11', m11⟩
                    have R4 : Hid (Bx w11 w.heap.size [] [] (.slice none 0 0) ∧ Md (fun b => b = p) w w11) := ⟨S10.out.1.rs.keep m11 (by omega), S10.out.1.md.trans m11⟩
                    clear r11' m11 K11 S10
                    obtain ⟨⟨c0, c1, c2⟩, f0, f1, f2⟩ := Bx.cells R4.out.1
                    go_wp2_with fail
                    go_step3
                    refine ⟨rfl, ?_⟩
                    go_wp2
                    rw [Exit.noGoto_ret]
                    go_wp2
                    exact bodyPost_ret (v := .tuple #[ndZ, .bool false]) (by simp [results, Tryz.results29, go_sem, ndZ, c0, c1, c2]) rfl (.inr ⟨HF.out, rfl, (((R4.out.2).set (.inr (Nat.le_refl _)) 0 _).set (.inr (Nat.le_refl _)) 1 _).set (.inr (Nat.le_refl _)) 2 _⟩)
                  | some r11 =>
                    have HF : Hid (X = some (.nd nm x ks, r11)) := by rw [he11] at hX8; exact hX8
                    have K11 := HY.out w10 _ r11 ⟨#[62]⟩ S10.out.1.rd he11
                    clear he11 hX8
                    go_wp2_with fail
                    refine K11.mono ?_
                    rintro e w11 ⟨rfl, r11', m11⟩
                    have S11 : Hid (ES w w11 p r11 nm x (.slice a ks.length c) ∧ Kd (fun b => w.heap.size + 2 ≤ b) (k + 1) w11 a ks) := ⟨S10.out.1.step hplt hp0 hp3 m11 r11', S10.out.2.md m11 (fun b _ h1 h2 => by omega)⟩
                    clear r11' m11 K11 S10
                    obtain ⟨⟨c0, c1, c2⟩, f0, f1, f2⟩ := Bx.cells S11.out.1.rs
                    obtain ⟨⟨b0, b1, b2⟩, g0, g1, g2⟩ := Bx.cells S11.out.1.bx
                    go_wp2_with fail
                    rw [Jmp_ret]
                    go_wp2
                    have mm : Md (fun b => b = w.heap.size) w11 (((w11.setCell ⟨w.heap.size, 0, none⟩ (.string ⟨nm.toArray⟩)).setCell ⟨w.heap.size, 1, none⟩ (.string ⟨x.toArray⟩)).setCell ⟨w.heap.size, 2, none⟩ (.slice a ks.length c)) := (((Md.refl (fun b => b = w.heap.size) w11).set (.inl rfl) 0 _).set (.inl rfl) 1 _).set (.inl rfl) 2 _
                    refine bodyPost_ret (v := .tuple #[ndV (.nd nm x ks) a c, .bool true]) (by simp [results, Tryz.results29, go_sem, ndV, Nod.nm, Nod.tx, Nod.ks, c0, c1, c2]) rfl (.inl ⟨.nd nm x ks, r11, a, c, HF.out, rfl, ?_, ?_, ?_⟩)
                    · exact (S11.out.2.md mm (fun b _ h1 h2 => by omega)).mono (fun b hb _ => by omega)
                    · exact S11.out.1.rd.keep mm (by omega)
                    · exact ((S11.out.1.md.set (.inr (Nat.le_refl _)) 0 _).set (.inr (Nat.le_refl _)) 1 _).set (.inr (Nat.le_refl _)) 2 _
            · have HF : Hid (X = none) := by rw [ho] at hX5; exact hX5
              have R4 : Hid (Bx w7 w.heap.size [] [] (.slice none 0 0) ∧ Md (fun b => b = p) w w7) := ⟨S6.out.rs.keep m7 (by omega), S6.out.md.then m7 (fun b hb h => h.elim id (fun h => by omega))⟩
              clear ho hX5 m7 K7 S6
              obtain ⟨⟨c0, c1, c2⟩, f0, f1, f2⟩ := Bx.cells R4.out.1
              go_wp2_with fail
              go_step3
              refine ⟨rfl, ?_⟩
              go_wp2
              rw [Exit.noGoto_ret]
              go_wp2
              exact bodyPost_ret (v := .tuple #[ndZ, .bool false]) (by simp [results, Tryz.results29, go_sem, ndZ, c0, c1, c2]) rfl (.inr ⟨HF.out, rfl, (((R4.out.2).set (.inr (Nat.le_refl _)) 0 _).set (.inr (Nat.le_refl _)) 1 _).set (.inr (Nat.le_refl _)) 2 _⟩)
end Go.Proofs.YtohkocknpmnakaaGreatDoor
