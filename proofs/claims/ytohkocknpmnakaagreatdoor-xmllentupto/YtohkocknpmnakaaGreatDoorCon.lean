/-
  What stands in an element.
-/
import Derived.Test.YtohkocknpmnakaaGreatDoorTrb
import Derived.Test.YtohkocknpmnakaaGreatDoorRdF
namespace Go.Proofs.YtohkocknpmnakaaGreatDoor
open Go.RowKit

theorem Rd.pos3 {w : World} {p : Nat} {l : List UInt8} (h : Rd w p l) (hm : Er w) : ¬ 3 = p := by
  rintro rfl
  obtain ⟨ev, h0, h1⟩ := hm
  rw [cell_blk h 0] at h0
  simp at h0
  subst h0
  rcases h1 with h1 | ⟨_, _, h1⟩ <;> cases h1
/-- A node's box. -/
def Bx (w : World) (q : Nat) (n x : List UInt8) (v : Value) : Prop := w.heap[q]? = some (.cells #[.string ⟨n.toArray⟩, .string ⟨x.toArray⟩, v] 24 (0, 0))
theorem Bx.keep {F : Nat → Prop} {w w' : World} {q : Nat} {n x : List UInt8} {v : Value} (h : Bx w q n x v) (hm : Md F w w') (hF : ¬ F q) : Bx w' q n x v := keep_blk h hm hF
theorem Bx.pos {w : World} {q : Nat} {n x : List UInt8} {v : Value} (h : Bx w q n x v) (hm : Mx w) (he : Er w) : ¬ 0 = q ∧ ¬ 3 = q := by
  constructor
  · rintro rfl
    obtain ⟨m, h0⟩ := hm
    rw [cell_blk h 0] at h0
    simp at h0
  · rintro rfl
    obtain ⟨ev, h0, h1⟩ := he
    rw [cell_blk h 0] at h0
    simp at h0
    subst h0
    rcases h1 with h1 | ⟨_, _, h1⟩ <;> cases h1
/-- A node's value. -/
def ndV (t : Nod) (a : Option Addr) (c : Nat) : Value := .agg #[.string ⟨t.nm.toArray⟩, .string ⟨t.tx.toArray⟩, .slice a t.ks.length c]
def ndZ : Value := .agg #[.string ⟨#[]⟩, .string ⟨#[]⟩, .slice none 0 0]
/-- What an element's reading tells. -/
def ElR (k : Nat) (o : Option (Nod × List UInt8)) (W : World) (p : Nat) (e : Ending) (w' : World) : Prop :=
  (∃ t r a c, o = some (t, r) ∧ e = .returned (.tuple #[ndV t a c, .bool true]) ∧ Kd (fun b => W.heap.size ≤ b) k w' a t.ks ∧ Rd w' p r ∧ Md (fun b => b = p) W w') ∨
  (o = none ∧ e = .returned (.tuple #[ndZ, .bool false]) ∧ Md (fun b => b = p) W w')
/-- What is asked of the reading of elements. -/
def ElC (k : Nat) : Prop := ∀ (p : Nat) (l : List UInt8) (W : World), Rd W p l → Mx W → Er W → l.length ≤ 65536 → Calls Tryz.prog 29 #[.pointer (some ⟨p, 0, none⟩), .int .i64 ((17 - k : Nat) : Int)] W fun e w' => ElR k (elemF une k l) W p e w'
/-- What a content's reading tells. -/
def CoR (k : Nat) (o : Option (List UInt8 × List Nod × List UInt8)) (W : World) (p q : Nat) (n : List UInt8) (e : Ending) (w' : World) : Prop :=
  (∃ x ks r a c, o = some (x, ks, r) ∧ e = .returned (.bool true) ∧ Bx w' q n x (.slice a ks.length c) ∧ Kd (fun b => W.heap.size ≤ b) (k + 1) w' a ks ∧ Rd w' p r ∧ Md (fun b => b = p ∨ b = q) W w') ∨
  (o = none ∧ e = .returned (.bool false) ∧ Md (fun b => b = p ∨ b = q) W w')

theorem upto_take_len (c : UInt8) (l : List UInt8) : l.take (upto c l).length = upto c l := by
  unfold upto
  exact (List.prefix_iff_eq_take.1 (List.takeWhile_prefix _)).symm
theorem info24 : (Tryz.prog.info? 24).map (fun i => (i.zero, i.size, i.bytes)) = some (some (.agg #[.string ⟨#[]⟩, .string ⟨#[]⟩, .slice none 0 0]), 3, 56) := by kernel_rfl

set_option maxRecDepth 20000 in
set_option maxHeartbeats 3200000 in
theorem content_any (k : Nat) (hk : k ≤ 15) (HE : ElC k) (p q : Nat) (l n : List UInt8) (w : World) (h : Rd w p l) (hbx : Bx w q n [] (.slice none 0 0)) (hpq : p ≠ q) (hm : Mx w) (he : Er w) (hl : l.length ≤ 65536) :
    Calls Tryz.prog 58 #[.pointer (some ⟨p, 0, none⟩), .pointer (some ⟨q, 0, none⟩), .int .i64 ((16 - k : Nat) : Int)] w fun e w' => CoR k (contF une (elemF une k) l) w p q n e w' := by
  have hp0 := h.pos hm
  have hp3 := h.pos3 he
  obtain ⟨hq0, hq3⟩ := hbx.pos hm he
  have c0 := cell_blk h 0
  have f0 := frozen_blk h 0
  simp only [List.getElem?_toArray] at c0
  have HC := (show Hid (Calls Tryz.prog 54 #[.string ⟨l.toArray⟩, .string ⟨#[60]⟩] w fun e w' => e = .returned (.tuple #[.string ⟨(Lib.cut l [60]).1.toArray⟩, .string ⟨(Lib.cut l [60]).2.1.toArray⟩, .bool (Lib.cut l [60]).2.2]) ∧ ∃ n, w' = w.drewN n) from by
    obtain ⟨m, h0⟩ := hm
    exact strings_Cut ⟨l.toArray⟩ ⟨#[60]⟩ m w (by rw [mk_size]; omega) h0)
  rw [cut_one] at HC
  obtain ⟨O, hO⟩ : ∃ O, O = contF une (elemF une k) l := ⟨_, rfl⟩
  rw [← hO]
  have hule := upto_le 60 l
  have H0 : Hid (Rd w p l ∧ Bx w q n [] (.slice none 0 0) ∧ Mx w ∧ Er w) := ⟨h, hbx, hm, he⟩
  unfold contF at hO
  by_cases hn : (upto 60 l).length = l.length
  · rw [if_pos hn] at hO HC
    have HO : Hid (O = none) := hO
    clear hO hn h hbx hm he HE
    go_enter Tryz.func58, Tryz.ntmps58
    go_wp2_with fail
    refine wp_scope_ahead 0 rfl ?_
    go_wp2_with fail
    refine HC.out.mono ?_
    rintro e w1 ⟨rfl, m, rfl⟩
    go_wp2_with fail
    go_step3
    refine ⟨rfl, ?_⟩
    go_wp2
    rw [Exit.noGoto_ret]
    go_wp2
    go_ret
    exact .inr ⟨HO.out, rfl, Md.ofBelow (below_drewN (Below.refl _ _) _)⟩
  · rw [if_neg hn] at hO HC
    have HP := (show Hid (∀ (x : List UInt8) (z : ByteArray) W, Calls Tryz.prog 87 #[.string ⟨x.toArray⟩, .string z] W fun e w' => e = .returned (.bool (Lib.hasPrefix x z.data.toList)) ∧ W = w') from fun x z W => (strings_HasPrefix ⟨x.toArray⟩ z W).mono (fun _ _ h => ⟨h.1, h.2.symm⟩))
    by_cases hs : Lib.hasPrefix (l.drop ((upto 60 l).length + 1)) [47] = true
    · rw [if_pos hs] at hO
      have HP1 := HP.out (l.drop ((upto 60 l).length + 1)) ⟨#[47]⟩
      rw [show Lib.hasPrefix (l.drop ((upto 60 l).length + 1)) (ByteArray.data ⟨#[47]⟩).toList = true from hs] at HP1
      have HU := (show Hid (∀ W, Mx W → Er W → Calls Tryz.prog 20 #[.string ⟨(upto 60 l).toArray⟩] W fun e w' => UsR (une (upto 60 l)) e ∧ Below W.heap.size W w') from fun W h1 h2 => unescape_any _ W (by omega) h1 h2)
      have hx1 : (⟨l.toArray⟩ : ByteArray).extract (upto 60 l).length l.length = ⟨(l.drop (upto 60 l).length).toArray⟩ := by
        rw [mk_ext, List.take_length]
      have HO : Hid (O = (une (upto 60 l)).map fun x => (x, [], l.drop (upto 60 l).length)) := hO
      clear hO hn hs h hbx hm he HE HP
      have hui : ((upto 60 l).length : Int) ≤ (l.length : Int) := by omega
      go_enter Tryz.func58, Tryz.ntmps58
      go_wp2_with fail
      refine wp_scope_ahead 0 rfl ?_
      go_wp2_with fail
      refine HC.out.mono ?_
      rintro e w1 ⟨rfl, m, rfl⟩
      have hb1 : Below w.heap.size w (w.drewN m) := below_drewN (Below.refl _ _) _
      generalize w.drewN m = w1 at *
      have r1 := H0.out.1.keep (Md.ofBelow (F := fun _ => False) hb1) (fun h => h)
      have c1 := cell_blk r1 0
      have f1 := frozen_blk r1 0
      simp only [List.getElem?_toArray] at c1
      have H1 : Hid (Rd w1 p l ∧ Bx w1 q n [] (.slice none 0 0) ∧ Mx w1 ∧ Er w1 ∧ Md (fun b => b = p ∨ b = q) w w1) := ⟨r1, H0.out.2.1.keep (Md.ofBelow (F := fun _ => False) hb1) (fun h => h), H0.out.2.2.1.md (Md.ofBelow (F := fun _ => False) hb1) (fun h => h), H0.out.2.2.2.md (Md.ofBelow (F := fun _ => False) hb1) (fun h => h), Md.ofBelow hb1⟩
      clear r1 hb1 c0 f0
      go_wp2_with (go_at_call 87; refine (HP1 _).mono ?_; rintro e w' ⟨rfl, rfl⟩)
      have H2 : Hid (∀ W2, W2 = w1.setCell ⟨p, 0, none⟩ (Value.string ⟨(l.drop (upto 60 l).length).toArray⟩) → Rd W2 p (l.drop (upto 60 l).length) ∧ Bx W2 q n [] (.slice none 0 0) ∧ Mx W2 ∧ Er W2 ∧ Md (fun b => b = p ∨ b = q) w W2) := by
        rintro W2 rfl
        have mm : Md (fun b => b = p) w1 (w1.setCell ⟨p, 0, none⟩ (Value.string ⟨(l.drop (upto 60 l).length).toArray⟩)) := (Md.refl (fun b => b = p) w1).set (.inl rfl) 0 _
        exact ⟨(set_blk H1.out.1 0 _).trans rfl, H1.out.2.1.keep mm (fun h => hpq h.symm), H1.out.2.2.1.md mm hp0, H1.out.2.2.2.1.md mm hp3, H1.out.2.2.2.2.set (.inl (.inl rfl)) 0 _⟩
      generalize hW2 : w1.setCell ⟨p, 0, none⟩ (Value.string ⟨(l.drop (upto 60 l).length).toArray⟩) = W2
      have H3 := (show Hid _ from H2.out W2 hW2.symm)
      have K := HU.out W2 H3.out.2.2.1 H3.out.2.2.2.1
      clear hW2 H2 H1 c1 f1 HU
      refine K.mono ?_
      rintro e w3 ⟨⟨x, hx, rfl⟩ | ⟨hx, rfl⟩, hb3⟩
      · have b3 := H3.out.2.1.keep (Md.ofBelow (F := fun _ => False) hb3) (fun h => h)
        have d1 := cell_blk b3 1
        have g1 := frozen_blk b3 1
        simp only [List.getElem?_toArray] at d1
        have H4 : Hid (O = some (x, [], l.drop (upto 60 l).length) ∧ Rd w3 p (l.drop (upto 60 l).length) ∧ Bx w3 q n [] (.slice none 0 0) ∧ Md (fun b => b = p ∨ b = q) w w3) := ⟨by rw [HO.out, hx]; rfl, H3.out.1.keep (Md.ofBelow (F := fun _ => False) hb3) (fun h => h), b3, H3.out.2.2.2.2.below hb3⟩
        clear b3 hb3 hx K
        go_wp2_with fail
        rw [Jmp_ret]
        go_wp2
        go_ret
        refine .inl ⟨x, [], _, none, 0, H4.out.1, rfl, (set_blk H4.out.2.2.1 1 _).trans rfl, Kd.nil _ _ _ _, ?_, H4.out.2.2.2.set (.inl (.inr rfl)) 1 _⟩
        exact H4.out.2.1.keep ((Md.refl (fun b => b = q) w3).set (.inl rfl) 1 _) hpq
      · have b3 := H3.out.2.1.keep (Md.ofBelow (F := fun _ => False) hb3) (fun h => h)
        have d1 := cell_blk b3 1
        have g1 := frozen_blk b3 1
        simp only [List.getElem?_toArray] at d1
        have H4 : Hid (O = none ∧ Md (fun b => b = p ∨ b = q) w w3) := ⟨by rw [HO.out, hx]; rfl, H3.out.2.2.2.2.below hb3⟩
        clear b3 hb3 hx K
        go_wp2_with fail
        rw [Jmp_ret]
        go_wp2
        go_ret
        exact .inr ⟨H4.out.1, rfl, H4.out.2.set (.inl (.inr rfl)) 1 _⟩
    · rw [if_neg hs] at hO
      have HP1 := HP.out (l.drop ((upto 60 l).length + 1)) ⟨#[47]⟩
      rw [show Lib.hasPrefix (l.drop ((upto 60 l).length + 1)) (ByteArray.data ⟨#[47]⟩).toList = false from by simpa using hs] at HP1
      have HO : Hid (O = (kidsF (elemF une k) (l.length + 1) l).map fun p => ([], p.1, p.2)) := hO
      have HW := (show Hid (∀ W q, Rd W p q → Calls Tryz.prog 28 #[.pointer (some ⟨p, 0, none⟩)] W fun e w' => e = .returned (.bool (decide ((skp q).length < q.length))) ∧ Rd w' p (skp q) ∧ Md (fun b => b = p) W w') from fun W q h => white_any p q W h)
      have HEl := (show Hid (∀ (l : List UInt8) (W : World), Rd W p l → Mx W → Er W → l.length ≤ 65536 → Calls Tryz.prog 29 #[.pointer (some ⟨p, 0, none⟩), .int .i64 ((17 - k : Nat) : Int)] W fun e w' => ElR k (elemF une k l) W p e w') from fun l W => HE p l W)
      have hdep : IntKind.i64.wrap (((16 - k : Nat) : Int) + 1) = ((17 - k : Nat) : Int) := by
        rw [show ((16 - k : Nat) : Int) + 1 = ((17 - k : Nat) : Int) by omega]
        exact wrap_small _ (by omega) (by omega)
      obtain ⟨D, hD⟩ : ∃ D : Int, D = ((17 - k : Nat) : Int) := ⟨_, rfl⟩
      obtain ⟨D0, hD0⟩ : ∃ D0 : Int, D0 = ((16 - k : Nat) : Int) := ⟨_, rfl⟩
      rw [← hD] at HEl hdep
      rw [← hD0] at hdep
      rw [← hD0]
      clear hO hn hs h hbx hm he HE hD hD0
      go_enter Tryz.func58, Tryz.ntmps58
      go_wp2_with fail
      refine wp_scope_ahead 0 rfl ?_
      go_wp2_with fail
      refine HC.out.mono ?_
      rintro e w1 ⟨rfl, m, rfl⟩
      have hb1 : Below w.heap.size w (w.drewN m) := below_drewN (Below.refl _ _) _
      generalize w.drewN m = w1 at *
      have H1 : Hid (Rd w1 p l ∧ Bx w1 q n [] (.slice none 0 0) ∧ Mx w1 ∧ Er w1 ∧ Md (fun b => b = p ∨ b = q) w w1) := ⟨H0.out.1.keep (Md.ofBelow (F := fun _ => False) hb1) (fun h => h), H0.out.2.1.keep (Md.ofBelow (F := fun _ => False) hb1) (fun h => h), H0.out.2.2.1.md (Md.ofBelow (F := fun _ => False) hb1) (fun h => h), H0.out.2.2.2.md (Md.ofBelow (F := fun _ => False) hb1) (fun h => h), Md.ofBelow hb1⟩
      clear hb1 c0 f0 HC
      go_wp2_with (go_at_call 87; refine (HP1 _).mono ?_; rintro e w' ⟨rfl, rfl⟩)
      refine (HW.out _ l H1.out.1).mono ?_
      rintro e w2 ⟨rfl, r2, m2⟩
      have H2 : Hid (Rd w2 p (skp l) ∧ Bx w2 q n [] (.slice none 0 0) ∧ Mx w2 ∧ Er w2 ∧ Md (fun b => b = p ∨ b = q) w w2) := ⟨r2, H1.out.2.1.keep m2 (fun h => hpq h.symm), H1.out.2.2.1.md m2 hp0, H1.out.2.2.2.1.md m2 hp3, H1.out.2.2.2.2.then m2 (fun b _ h => .inl h)⟩
      clear r2 m2 H1 HP1
      go_wp2_with fail
      go_loopg [] (l.length + 1) (fun gf wx => ∃ (l' : List UInt8) (ks : List Nod) (v : Value), l'.length ≤ 65536 ∧ l'.length + 1 ≤ gf ∧ ks.length + l'.length ≤ 65536 ∧ Rd wx p (skp l') ∧ Bx wx q n [] v ∧ KR 24 (fun b => w.heap.size ≤ b ∧ v.ownBlock ≠ some b) k wx w.heap.size v ks ∧ Mx wx ∧ Er wx ∧ Md (fun b => b = p ∨ b = q) w wx ∧ O = (kidsF (elemF une k) gf l').map fun p => ([], ks ++ p.1, p.2))
      case atStart => exact ⟨l, [], .slice none 0 0, hl, by omega, by simpa using hl, H2.out.1, H2.out.2.1, KR.nil _ _ _ _ _, H2.out.2.2.1, H2.out.2.2.2.1, H2.out.2.2.2.2, by rw [HO.out]; simp⟩
      case round =>
        obtain ⟨l', ks, v, hl', hf, hkl, hr, hbx, hkr, hM, hEr, hmd, hx⟩ := hrel
        obtain ⟨g', rfl⟩ : ∃ g', gk = g' + 1 := ⟨gk - 1, by omega⟩
        have hsk := skp_le l'
        simp only [kidsF] at hx
        have c1 := cell_blk hr 0
        simp only [List.getElem?_toArray] at c1
        have P1 := HP.out (skp l') ⟨#[60, 47]⟩
        by_cases hs : Lib.hasPrefix (skp l') [60, 47] = true
        · rw [show Lib.hasPrefix (skp l') (ByteArray.data ⟨#[60, 47]⟩).toList = true from hs] at P1
          rw [if_pos hs] at hx
          obtain ⟨a, c, hv⟩ := hkr.slice
          subst hv
          have hkd := hkr.kd (G := fun b => w.heap.size ≤ b ∧ (Value.slice a ks.length c).ownBlock ≠ some b)
          have HZ : Hid (O = some ([], ks, skp l') ∧ Rd wr p (skp l') ∧ Bx wr q n [] (.slice a ks.length c) ∧ Kd (fun b => w.heap.size ≤ b) (k + 1) wr a ks ∧ Md (fun b => b = p ∨ b = q) w wr) := by
            refine ⟨by rw [hx]; simp, hr, hbx, ?_, hmd⟩
            have hkr2 : KR 24 (fun b => w.heap.size ≤ b) k wr w.heap.size (.slice a ks.length c) ks := by
              obtain ⟨hs, hl, ho, hk2⟩ := hkr
              exact ⟨hs, hl, ho, fun j hj => (hk2 j hj).mono (fun b hb _ => hb.1)⟩
            exact (hkr2.kd (fun b hb _ _ => hb)).2
          clear hkd hx hr hbx hkr hM hEr hmd hs HP HEl HW
          go_wp2_with (go_at_call 87; refine (P1 _).mono ?_; rintro e w' ⟨rfl, rfl⟩)
          rw [Jmp_ret]
          go_wp2
          go_ret
          exact .inl ⟨[], ks, _, a, c, HZ.out.1, rfl, HZ.out.2.2.1, HZ.out.2.2.2.1, HZ.out.2.1, HZ.out.2.2.2.2⟩
        · rw [show Lib.hasPrefix (skp l') (ByteArray.data ⟨#[60, 47]⟩).toList = false from by simpa using hs] at P1
          rw [if_neg hs] at hx
          have K := HEl.out (skp l') wr hr hM hEr (by omega)
          have HZ : Hid (O = ((elemF une k (skp l')).bind fun p => (kidsF (elemF une k) g' p.2).map fun q => (p.1 :: q.1, q.2)).map fun p => ([], ks ++ p.1, p.2)) := hx
          have HR : Hid (Bx wr q n [] v ∧ KR 24 (fun b => w.heap.size ≤ b ∧ v.ownBlock ≠ some b) k wr w.heap.size v ks ∧ Mx wr ∧ Er wr ∧ Md (fun b => b = p ∨ b = q) w wr ∧ w.heap.size ≤ wr.heap.size) := ⟨hbx, hkr, hM, hEr, hmd, hmd.size⟩
          clear hx hr hbx hkr hM hEr hmd hs
          go_wp2_with (go_at_call 87; refine (P1 _).mono ?_; rintro e w' ⟨rfl, rfl⟩)
          refine K.mono ?_
          rintro e w3 (⟨t, r, a, c, ho, rfl, hkd, hr3, hm3⟩ | ⟨ho, rfl, hm3⟩)
          · have hel := elem_len une k _ _ _ ho
            have HOt : Hid (O = (kidsF (elemF une k) g' r).map fun p => ([], (ks ++ [t]) ++ p.1, p.2)) := by
              show _ = _
              rw [HZ.out, ho, Option.bind_some, Option.map_map]
              congr 1
              funext x
              simp
            obtain ⟨hs, hlh, hown, hks⟩ := HR.out.2.1
            obtain ⟨a0, c0, hv0⟩ := own_slice hown
            subst hv0
            have HKR := (show Hid (∀ j (hj : j < ks.length), Kd (fun b => w.heap.size ≤ b ∧ (Value.slice a0 ks.length c0).ownBlock ≠ some b) k wr (hs[j]'(by omega)).1 (ks[j]).ks) from hks)
            have hlow := hown.lt
            have hwr := HR.out.2.2.2.2.2
            have hrow : ∀ j, (Value.slice a0 ks.length c0).ownBlock = some j → w.heap.size ≤ j ∧ j < wr.heap.size := hlow
            have hplt : p < w.heap.size := Rd.lt H0.out.1
            have own3 := own_md hown hm3 (fun j hj hf => by have := (hrow j hj).1; omega)
            have hsz3 := hm3.size
            have own5 := ((own3.alloc (.cells #[.string ⟨t.nm.toArray⟩, .string ⟨t.tx.toArray⟩, .slice a t.ks.length c] 24)).alloc (.cells #[.string ⟨#[]⟩, .string ⟨#[]⟩, .slice none 0 0] 24)).drew
            have bq3 := HR.out.1.keep hm3 (fun h => hpq h.symm)
            have HKC := (show Hid (∀ w5, (((w3.alloc (.cells #[.string ⟨t.nm.toArray⟩, .string ⟨t.tx.toArray⟩, .slice a t.ks.length c] 24)).alloc (.cells #[.string ⟨#[]⟩, .string ⟨#[]⟩, .slice none 0 0] 24)).drew).grownBy w5 (Value.slice a0 ks.length c0).ownBlock →
                w5.cell? ⟨w3.heap.size, 0, none⟩ = some (.string ⟨t.nm.toArray⟩) ∧ w5.cell? ⟨w3.heap.size, 1, none⟩ = some (.string ⟨t.tx.toArray⟩) ∧ w5.cell? ⟨w3.heap.size, 2, none⟩ = some (.slice a t.ks.length c) ∧ w5.cell? ⟨q, 2, none⟩ = some (.slice a0 ks.length c0) ∧ w5.frozen? ⟨q, 2, none⟩ = false ∧ Bx w5 q n [] (.slice a0 ks.length c0)) from by
              intro w5 hg
              have hA : (((w3.alloc (.cells #[.string ⟨t.nm.toArray⟩, .string ⟨t.tx.toArray⟩, .slice a t.ks.length c] 24)).alloc (.cells #[.string ⟨#[]⟩, .string ⟨#[]⟩, .slice none 0 0] 24)).drew).heap[w3.heap.size]? = some (.cells #[.string ⟨t.nm.toArray⟩, .string ⟨t.tx.toArray⟩, .slice a t.ks.length c] 24 (0, 0)) := by
                have h1 := heap_alloc_new w3 (.cells #[.string ⟨t.nm.toArray⟩, .string ⟨t.tx.toArray⟩, .slice a t.ks.length c] 24)
                exact keep_blk h1 (((Md.refl (fun _ => False) _).alloc (.cells #[.string ⟨#[]⟩, .string ⟨#[]⟩, .slice none 0 0] 24)).below ((Below.refl _ _).drew)) (fun h => h)
              have hQ := bq3.keep ((((Md.refl (fun _ => False) w3).alloc (.cells #[.string ⟨t.nm.toArray⟩, .string ⟨t.tx.toArray⟩, .slice a t.ks.length c] 24)).alloc (.cells #[.string ⟨#[]⟩, .string ⟨#[]⟩, .slice none 0 0] 24)).below ((Below.refl _ _).drew)) (fun h => h)
              have hA5 := keep_blk hA (Md.ofGrown hg) (fun h => by have := (hrow _ h).2; omega)
              have hQ5 := hQ.keep (Md.ofGrown hg) (fun h => by have h1 := (hrow _ h).1; have h2 := blk_lt H0.out.2.1; omega)
              refine ⟨cell_blk hA5 0, cell_blk hA5 1, cell_blk hA5 2, cell_blk hQ5 2, frozen_blk hQ5 2, hQ5⟩)
            have HFIN := (show Hid (∀ w5 g cap WF, (((w3.alloc (.cells #[.string ⟨t.nm.toArray⟩, .string ⟨t.tx.toArray⟩, .slice a t.ks.length c] 24)).alloc (.cells #[.string ⟨#[]⟩, .string ⟨#[]⟩, .slice none 0 0] 24)).drew).grownBy w5 (Value.slice a0 ks.length c0).ownBlock → w5.ownsRow w.heap.size 24 3 (Value.slice (some ⟨g, 0, none⟩) (ks.length + 1) cap) (ks.length + 1) (ncs ks hs ++ [.string ⟨#[]⟩, .string ⟨#[]⟩, .slice none 0 0]) → ((Value.slice (some ⟨g, 0, none⟩) (ks.length + 1) cap).ownBlock = (Value.slice a0 ks.length c0).ownBlock ∨ ∀ b, (Value.slice (some ⟨g, 0, none⟩) (ks.length + 1) cap).ownBlock = some b → (((w3.alloc (.cells #[.string ⟨t.nm.toArray⟩, .string ⟨t.tx.toArray⟩, .slice a t.ks.length c] 24)).alloc (.cells #[.string ⟨#[]⟩, .string ⟨#[]⟩, .slice none 0 0] 24)).drew).heap.size ≤ b) → (WF = (((w5.setCell ⟨g, ks.length * 3, none⟩ (.string ⟨t.nm.toArray⟩)).setCell ⟨g, ks.length * 3 + 1, none⟩ (.string ⟨t.tx.toArray⟩)).setCell ⟨g, ks.length * 3 + 2, none⟩ (.slice a t.ks.length c)).setCell ⟨q, 2, none⟩ (Value.slice (some ⟨g, 0, none⟩) (ks.length + 1) cap) ∨ WF = ((((w5.setCell ⟨q, 2, none⟩ (Value.slice (some ⟨g, 0, none⟩) (ks.length + 1) cap)).setCell ⟨g, ks.length * 3, none⟩ (.string ⟨t.nm.toArray⟩)).setCell ⟨g, ks.length * 3 + 1, none⟩ (.string ⟨t.tx.toArray⟩)).setCell ⟨g, ks.length * 3 + 2, none⟩ (.slice a t.ks.length c))) →
                Rd WF p r ∧ Bx WF q n [] (Value.slice (some ⟨g, 0, none⟩) (ks.length + 1) cap) ∧ KR 24 (fun b => w.heap.size ≤ b ∧ (Value.slice (some ⟨g, 0, none⟩) (ks.length + 1) cap).ownBlock ≠ some b) k WF w.heap.size (Value.slice (some ⟨g, 0, none⟩) (ks.length + 1) cap) (ks ++ [t]) ∧ Mx WF ∧ Er WF ∧ Md (fun b => b = p ∨ b = q) w WF) from by
              intro w5 g cap WF hg5 ho5 hv5 hWF
              have hqlt : q < w.heap.size := blk_lt H0.out.2.1
              have hgl := (ho5.lt g rfl).1
              have hgq : q ≠ g := by omega
              have bq5 := (HKC.out w5 hg5).2.2.2.2.2
              have key : WF.ownsRow w.heap.size 24 3 (Value.slice (some ⟨g, 0, none⟩) (ks.length + 1) cap) (ks.length + 1) (ncs ks hs ++ [.string ⟨t.nm.toArray⟩, .string ⟨t.tx.toArray⟩, .slice a t.ks.length c]) ∧ Md (fun b => b = g ∨ b = q) w5 WF ∧ Bx WF q n [] (Value.slice (some ⟨g, 0, none⟩) (ks.length + 1) cap) := by
                rcases hWF with rfl | rfl
                · have own6 := own_set3 (.string ⟨t.nm.toArray⟩) (.string ⟨t.tx.toArray⟩) (.slice a t.ks.length c) ho5
                  refine ⟨own_md own6 ((Md.refl (fun b => b = q) _).set (.inl rfl) 2 _) (fun j hj hf => ?_), ?_, ?_⟩
                  · simp only [Value.ownBlock, Option.some.injEq] at hj
                    omega
                  · exact ((((Md.refl _ w5).set (.inl (.inl rfl)) _ _).set (.inl (.inl rfl)) _ _).set (.inl (.inl rfl)) _ _).set (.inl (.inr rfl)) _ _
                  · exact (set_blk (bq5.keep ((((Md.refl (fun b => b = g) w5).set (.inl rfl) _ _).set (.inl rfl) _ _).set (.inl rfl) _ _) hgq) 2 _).trans rfl
                · have own6 := own_md ho5 ((Md.refl (fun b => b = q) w5).set (.inl rfl) 2 (Value.slice (some ⟨g, 0, none⟩) (ks.length + 1) cap)) (fun j hj hf => by
                    simp only [Value.ownBlock, Option.some.injEq] at hj
                    omega)
                  refine ⟨own_set3 (.string ⟨t.nm.toArray⟩) (.string ⟨t.tx.toArray⟩) (.slice a t.ks.length c) own6, ?_, ?_⟩
                  · exact ((((Md.refl _ w5).set (.inl (.inr rfl)) _ _).set (.inl (.inl rfl)) _ _).set (.inl (.inl rfl)) _ _).set (.inl (.inl rfl)) _ _
                  · exact Bx.keep ((set_blk bq5 2 (Value.slice (some ⟨g, 0, none⟩) (ks.length + 1) cap)).trans rfl) ((((Md.refl (fun b => b = g) _).set (.inl rfl) _ _).set (.inl rfl) _ _).set (.inl rfl) _ _) hgq
              have mX : Md (fun _ => False) w3 (((w3.alloc (.cells #[.string ⟨t.nm.toArray⟩, .string ⟨t.tx.toArray⟩, .slice a t.ks.length c] 24)).alloc (.cells #[.string ⟨#[]⟩, .string ⟨#[]⟩, .slice none 0 0] 24)).drew) := (((Md.refl (fun _ => False) w3).alloc (.cells #[.string ⟨t.nm.toArray⟩, .string ⟨t.tx.toArray⟩, .slice a t.ks.length c] 24)).alloc (.cells #[.string ⟨#[]⟩, .string ⟨#[]⟩, .slice none 0 0] 24)).below ((Below.refl _ _).drew)
              have mwX : Md (fun b => b = p ∨ b = q) w (((w3.alloc (.cells #[.string ⟨t.nm.toArray⟩, .string ⟨t.tx.toArray⟩, .slice a t.ks.length c] 24)).alloc (.cells #[.string ⟨#[]⟩, .string ⟨#[]⟩, .slice none 0 0] 24)).drew) := (HR.out.2.2.2.2.1.then hm3 (fun b _ h => .inl h)).then mX (fun b _ h => h.elim)
              have mw5 : Md (fun b => b = p ∨ b = q) w w5 := mwX.grown hg5 (fun j hj => (hrow j hj).1)
              have mwF : Md (fun b => b = p ∨ b = q) w WF := mw5.then key.2.1 (fun b hb h => h.elim (fun h => by omega) .inr)
              refine ⟨?_, key.2.2, ?_, H0.out.2.2.1.md mwF (fun h => h.elim hp0 hq0), H0.out.2.2.2.md mwF (fun h => h.elim hp3 hq3), mwF⟩
              · have r1 := hr3.keep mX (fun h => h)
                have r2 := r1.keep (Md.ofGrown hg5) (fun h => by have := (hrow _ h).1; omega)
                exact r2.keep key.2.1 (fun h => h.elim (fun h => by omega) hpq)
              · refine kr_grow hlh HKR.out ?_ (hm3.then mX (fun b _ h => h.elim)) (fun b _ hL _ hf => by omega) hg5 hv5 key.2.1 (fun b hL hf => by omega) key.1
                exact (hkd.mono (fun b hb hlt => ⟨by omega, fun hc => by have := (hrow b hc).2; omega⟩)).md mX (fun b _ _ h => h))
            have HZ5 := (show Hid (∀ j u, [Value.string ⟨#[]⟩, .string ⟨#[]⟩, .slice none 0 0][j]? = some u → (((w3.alloc (.cells #[.string ⟨t.nm.toArray⟩, .string ⟨t.tx.toArray⟩, .slice a t.ks.length c] 24)).alloc (.cells #[.string ⟨#[]⟩, .string ⟨#[]⟩, .slice none 0 0] 24)).drew).cell? ((⟨w3.heap.size + 1, 0, none⟩ : Addr).add j) = some u) from by
              intro j u hu
              have := cell_three_new (w3.alloc (.cells #[.string ⟨t.nm.toArray⟩, .string ⟨t.tx.toArray⟩, .slice a t.ks.length c] 24)) (.string ⟨#[]⟩) (.string ⟨#[]⟩) (.slice none 0 0) 24 j u hu
              have e1 : (w3.alloc (.cells #[.string ⟨t.nm.toArray⟩, .string ⟨t.tx.toArray⟩, .slice a t.ks.length c] 24)).heap.size = w3.heap.size + 1 := by show (w3.heap.push _).size = _; simp
              rw [e1] at this
              exact this)
            have hbase5 : w.heap.size ≤ (((w3.alloc (.cells #[.string ⟨t.nm.toArray⟩, .string ⟨t.tx.toArray⟩, .slice a t.ks.length c] 24)).alloc (.cells #[.string ⟨#[]⟩, .string ⟨#[]⟩, .slice none 0 0] 24)).drew).heap.size := by
              have e1 : (((w3.alloc (.cells #[.string ⟨t.nm.toArray⟩, .string ⟨t.tx.toArray⟩, .slice a t.ks.length c] 24)).alloc (.cells #[.string ⟨#[]⟩, .string ⟨#[]⟩, .slice none 0 0] 24)).drew).heap.size = w3.heap.size + 2 := by show ((w3.heap.push _).push _).size = _; simp
              rw [e1]
              omega
            have cq := cell_blk bq3 2
            have fq := frozen_blk bq3 2
            simp only [List.getElem?_toArray] at cq
            unfold ndV
            obtain ⟨i0, hi, hz0, hz1, hz2⟩ := info_parts info24
            have hqs : q < w3.heap.size := blk_lt bq3
            have hqlt : q < w.heap.size := blk_lt H0.out.2.1
            have hnkb : ks.length ≤ 65536 := by omega
            have hidx : (ks.length : Int) < (ks.length : Int) + 1 := by omega
            go_wp2_with fail
            go_region_law
              (first
                | (refine step_append_two rfl (.tmp 66) (.tmp 69) 22 rfl w.heap.size 24 i0 (.agg #[.string ⟨#[]⟩, .string ⟨#[]⟩, .slice none 0 0]) 3 56 Tryz.underlying22 hi hz0 hz1 hz2 rfl (by decide) _ ks.length _ rfl own5 ⟨w3.heap.size + 1, 0, none⟩ 1 1 [.string ⟨#[]⟩, .string ⟨#[]⟩, .slice none 0 0] rfl rfl HZ5.out (three_one _ _ _ _ _) (by unfold maxLen; omega) (by omega) hbase5 ?_; intro v5 w5 hown5 hgrow5 hvb5; obtain ⟨g, cap, rfl, hg1, hg2, hcap, hcm, z1, z2, z3, hfz⟩ := own_at hown5; obtain ⟨k0, k1, k2, q2, f2, bq5⟩ := HKC.out w5 hgrow5; have hgq : ¬ g = q := (by omega); have hqg : ¬ q = g := (by omega)))
            all_goals
              have HF := (show Hid (∀ WF, _ → _) from fun WF hWF => HFIN.out w5 g cap WF hgrow5 hown5 hvb5 hWF)
              generalize hWF : World.setCell _ _ _ = WF
              have HG : Hid (Rd WF p r ∧ Bx WF q n [] (Value.slice (some ⟨g, 0, none⟩) (ks.length + 1) cap) ∧ KR 24 (fun b => w.heap.size ≤ b ∧ (Value.slice (some ⟨g, 0, none⟩) (ks.length + 1) cap).ownBlock ≠ some b) k WF w.heap.size (Value.slice (some ⟨g, 0, none⟩) (ks.length + 1) cap) (ks ++ [t]) ∧ Mx WF ∧ Er WF ∧ Md (fun b => b = p ∨ b = q) w WF) := by
                first
                  | exact HF.out WF (.inl hWF.symm)
                  | exact HF.out WF (.inr hWF.symm)
              clear HF hWF hgrow5 hown5 hvb5 z1 z2 z3 hfz k0 k1 k2 q2 f2 bq5 own5 hcap hcm hg1 hg2
              have K9 := HW.out WF r HG.out.1
              go_wp2_with fail
              refine K9.mono ?_
              rintro e w9 ⟨rfl, r9, m9⟩
              have H9 : Hid (Rd w9 p (skp r) ∧ Bx w9 q n [] (Value.slice (some ⟨g, 0, none⟩) (ks.length + 1) cap) ∧ KR 24 (fun b => w.heap.size ≤ b ∧ (Value.slice (some ⟨g, 0, none⟩) (ks.length + 1) cap).ownBlock ≠ some b) k w9 w.heap.size (Value.slice (some ⟨g, 0, none⟩) (ks.length + 1) cap) (ks ++ [t]) ∧ Mx w9 ∧ Er w9 ∧ Md (fun b => b = p ∨ b = q) w w9) :=
                ⟨r9, HG.out.2.1.keep m9 (fun h => hpq h.symm), HG.out.2.2.1.md m9 (fun b _ hb hf => by
                  subst hf
                  rcases hb with hb | hb
                  · omega
                  · obtain ⟨hs', _, ho', _⟩ := HG.out.2.2.1
                    have := (ho'.lt _ hb).1
                    omega), HG.out.2.2.2.1.md m9 hp0, HG.out.2.2.2.2.1.md m9 hp3, HG.out.2.2.2.2.2.then m9 (fun b _ h => .inl h)⟩
              clear r9 m9 HG K9
              go_wp2
              go_roundg g'
              case measure => omega
              case rel => exact ⟨r, ks ++ [t], _, by omega, by omega, by simp; omega, H9.out.1, H9.out.2.1, H9.out.2.2.1, H9.out.2.2.2.1, H9.out.2.2.2.2.1, H9.out.2.2.2.2.2, HOt.out⟩
          · have HF : Hid (O = none ∧ Md (fun b => b = p ∨ b = q) w w3) := ⟨by rw [HZ.out, ho]; rfl, HR.out.2.2.2.2.1.then hm3 (fun b _ h => .inl h)⟩
            clear ho hm3 K
            unfold ndZ
            go_wp2_with fail
            go_step3
            refine ⟨rfl, ?_⟩
            go_wp2
            rw [Exit.noGoto_ret]
            go_wp2
            go_ret
            exact .inr ⟨HF.out.1, rfl, HF.out.2.alloc _⟩
end Go.Proofs.YtohkocknpmnakaaGreatDoor
