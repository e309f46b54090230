/-
  A reader's text, number and flag.
-/
import Derived.Test.YtbhiabcgjnfpoaaGreatDoorRun15
import Derived.Deep.RegionHeld3
namespace Go.Proofs.YtbhiabcgjnfpoaaGreatDoor
open Go.RowKit

theorem look94 (p : Nat) : Look 94 p (fun _ => true) (fun x => .string x) := by
  refine ⟨fun args w => Tryz.call94 args w, ?_⟩
  rintro W x ⟨v, t, hp⟩ _
  have c0 := cell_blk hp 0
  have f0 := frozen_blk hp 0
  simp only [List.getElem?_toArray] at c0
  clear hp
  go_enter Tryz.func94, Tryz.ntmps94
  go_wp2
  go_ret
  exact ⟨rfl, rfl⟩
theorem look95 (p : Nat) : Look 95 p (fun x => En.intOk x.data.toList) (fun x => .int .i64 (En.intV x.data.toList)) := by
  refine ⟨fun args w => Tryz.call95 args w, ?_⟩
  rintro W x ⟨v, t, hp⟩ hx
  have c0 := cell_blk hp 0
  have f0 := frozen_blk hp 0
  simp only [List.getElem?_toArray] at c0
  have HI := (show Hid (∀ W, Calls Tryz.prog 96 #[.string x] W fun e w' => e = .returned (.tuple #[.int .i64 (En.intV x.data.toList), .bool (En.intOk x.data.toList)]) ∧ W = w') from fun W => En.int_any x W (by omega))
  clear hp
  go_enter Tryz.func95, Tryz.ntmps95
  go_wp2_with fail
  refine (HI.out _).mono ?_
  rintro e w1 ⟨rfl, rfl⟩
  go_wp2
  go_ret
  exact ⟨rfl, rfl⟩
def flV (x : ByteArray) : Bool := x.toList == [49]
def flOk (x : ByteArray) : Bool := x.toList == [49] || x.toList == [48]
theorem look102 (p : Nat) : Look 102 p flOk (fun x => .bool (flV x)) := by
  refine ⟨fun args w => Tryz.call102 args w, ?_⟩
  rintro W x ⟨v, t, hp⟩ hx
  have c0 := cell_blk hp 0
  have f0 := frozen_blk hp 0
  simp only [List.getElem?_toArray] at c0
  have HO : Hid (flOk x = (x.toList == [49] || x.toList == [48])) := rfl
  have HV : Hid (flV x = (x.toList == [49])) := rfl
  clear hp
  cases h1 : (x.toList == [49])
  · cases h0 : (x.toList == [48])
    · go_enter Tryz.func102, Tryz.ntmps102
      go_wp2
      go_ret
      rw [HO.out, HV.out, h1, h0]
      exact ⟨rfl, rfl⟩
    · go_enter Tryz.func102, Tryz.ntmps102
      go_wp2
      go_ret
      rw [HO.out, HV.out, h1, h0]
      exact ⟨rfl, rfl⟩
  · go_enter Tryz.func102, Tryz.ntmps102
    go_wp2
    go_ret
    rw [HO.out, HV.out, h1]
    exact ⟨rfl, rfl⟩

def txV : Option (List ByteArray) → ByteArray
  | some (x :: _) => x
  | _ => ⟨#[]⟩
theorem txV_eq (st : Option (List ByteArray)) : tkV (fun x => .string x) (.string ⟨#[]⟩) st = .string (txV st) := by
  match st with
  | none => rfl
  | some [] => rfl
  | some (x :: r) => rfl

theorem take_new (kt ki Bd s f : Nat) (hT : Take kt) (gd : ByteArray → Bool) (vl : ByteArray → Value) (hL : ∀ p, Look ki p gd vl) (v0 : Value) (tp : TypeId) (A : Obj) (st : Option (List ByteArray)) (w : World) (hR : Rd w Bd s f st) (hsz : ∀ L, st = some L → ∀ x ∈ L, x.size ≤ 8388608) :
    Calls Tryz.prog kt #[.func (.func ki) #[] #[.pointer (some ⟨w.heap.size + 1, 0, none⟩)], .pointer (some ⟨s, 0, none⟩), .pointer (some ⟨f, 0, none⟩)] ((w.alloc A).alloc (.cells #[v0] tp)) fun e w' => e = .returned (.tuple #[]) ∧
      Rd w' Bd s f (tkS gd st) ∧ w'.heap[w.heap.size + 1]? = some (.cells #[tkV vl v0 st] tp (0, 0)) ∧ Md (fun b => b = s ∨ b = f) w w' := by
  have hb1 : Below w.heap.size w (w.alloc A) := (Below.refl _ _).alloc (Nat.le_refl _) _
  have e1 : (w.alloc A).heap.size = w.heap.size + 1 := by show (w.heap.push A).size = _; simp
  have hb2 : Below (w.alloc A).heap.size (w.alloc A) ((w.alloc A).alloc (.cells #[v0] tp)) := (Below.refl _ _).alloc (Nat.le_refl _) _
  have hlt := hR.lt
  have hR2 := (hR.other hb1).other hb2
  have hp : ((w.alloc A).alloc (.cells #[v0] tp)).heap[w.heap.size + 1]? = some (.cells #[v0] tp (0, 0)) := by
    rw [← e1]
    exact heap_alloc_new _ _
  refine (hT.2 ki (w.heap.size + 1) Bd s f gd vl st _ v0 tp (hL _) hR2 hp (by omega) (by omega) (by have := hR.lo; omega) hsz).mono ?_
  rintro e w' ⟨he, h1, h2, h3⟩
  refine ⟨he, h1, h2, ((Md.refl _ w).below hb1 |>.below hb2).then h3 ?_⟩
  rintro b hb (rfl | rfl | rfl)
  · exact .inl rfl
  · exact .inr rfl
  · omega

set_option maxRecDepth 20000 in
set_option maxHeartbeats 2000000 in
theorem rtext_any (kt ks Bd s f : Nat) (hT : Take kt) (st : Option (List ByteArray)) (w : World) (hR : Rd w Bd s f st) (hsz : ∀ L, st = some L → ∀ x ∈ L, x.size ≤ 8388608) :
    Calls Tryz.prog 50 #[rdV kt ks s f] w fun e w' => e = .returned (.string (txV st)) ∧ Rd w' Bd s f (tkS (fun _ => true) st) ∧ Md (fun b => b = s ∨ b = f) w w' := by
  have hmf : ∀ (fn : Fn) (first cap : Array Value) (w : World), (Instr.makeFunc fn first cap).run Tryz.prog w = .ok (.func fn first cap) w := fun _ _ _ _ => rfl
  have hent := hT.1
  have HK := (show Hid (∀ A, _) from fun A => take_new kt 94 Bd s f hT _ _ look94 (.string ⟨#[]⟩) 9 A st w hR hsz)
  simp only [txV_eq] at HK
  clear hT hR hsz
  unfold rdV
  go_enter Tryz.func50, Tryz.ntmps50
  go_wp2_with fail
  refine (HK.out _).mono ?_
  rintro e w1 ⟨rfl, h1, h2, h3⟩
  have c0 := cell_blk h2 0
  simp only [List.getElem?_toArray] at c0
  have H1 := (show Hid (Rd w1 Bd s f (tkS (fun _ => true) st) ∧ Md (fun b => b = s ∨ b = f) w w1) from ⟨h1, h3⟩)
  clear h1 h2 h3
  go_wp2
  go_ret
  exact ⟨rfl, H1.out.1, H1.out.2⟩

def nuV : Option (List ByteArray) → Int
  | some (x :: _) => En.intV x.data.toList
  | _ => 0
theorem nuV_eq (st : Option (List ByteArray)) : tkV (fun x => .int .i64 (En.intV x.data.toList)) (.int .i64 0) st = .int .i64 (nuV st) := by
  match st with
  | none => rfl
  | some [] => rfl
  | some (x :: r) => rfl
abbrev nuG (x : ByteArray) : Bool := En.intOk x.data.toList

set_option maxRecDepth 20000 in
set_option maxHeartbeats 2000000 in
theorem rnumber_any (kt ks Bd s f : Nat) (hT : Take kt) (st : Option (List ByteArray)) (w : World) (hR : Rd w Bd s f st) (hsz : ∀ L, st = some L → ∀ x ∈ L, x.size ≤ 8388608) :
    Calls Tryz.prog 51 #[rdV kt ks s f] w fun e w' => e = .returned (.int .i64 (nuV st)) ∧ Rd w' Bd s f (tkS nuG st) ∧ Md (fun b => b = s ∨ b = f) w w' := by
  have hmf : ∀ (fn : Fn) (first cap : Array Value) (w : World), (Instr.makeFunc fn first cap).run Tryz.prog w = .ok (.func fn first cap) w := fun _ _ _ _ => rfl
  have hent := hT.1
  have HK := (show Hid (∀ A, _) from fun A => take_new kt 95 Bd s f hT nuG _ look95 (.int .i64 0) 3 A st w hR hsz)
  simp only [nuV_eq] at HK
  clear hT hR hsz
  unfold rdV
  go_enter Tryz.func51, Tryz.ntmps51
  go_wp2_with fail
  refine (HK.out _).mono ?_
  rintro e w1 ⟨rfl, h1, h2, h3⟩
  have c0 := cell_blk h2 0
  simp only [List.getElem?_toArray] at c0
  have H1 := (show Hid (Rd w1 Bd s f (tkS nuG st) ∧ Md (fun b => b = s ∨ b = f) w w1) from ⟨h1, h3⟩)
  clear h1 h2 h3
  go_wp2
  go_ret
  exact ⟨rfl, H1.out.1, H1.out.2⟩

def fgV : Option (List ByteArray) → Bool
  | some (x :: _) => flV x
  | _ => false
theorem fgV_eq (st : Option (List ByteArray)) : tkV (fun x => .bool (flV x)) (.bool false) st = .bool (fgV st) := by
  match st with
  | none => rfl
  | some [] => rfl
  | some (x :: r) => rfl

set_option maxRecDepth 20000 in
set_option maxHeartbeats 2000000 in
theorem rflag_any (kt ks Bd s f : Nat) (hT : Take kt) (st : Option (List ByteArray)) (w : World) (hR : Rd w Bd s f st) (hsz : ∀ L, st = some L → ∀ x ∈ L, x.size ≤ 8388608) :
    Calls Tryz.prog 64 #[rdV kt ks s f] w fun e w' => e = .returned (.bool (fgV st)) ∧ Rd w' Bd s f (tkS flOk st) ∧ Md (fun b => b = s ∨ b = f) w w' := by
  have hmf : ∀ (fn : Fn) (first cap : Array Value) (w : World), (Instr.makeFunc fn first cap).run Tryz.prog w = .ok (.func fn first cap) w := fun _ _ _ _ => rfl
  have hent := hT.1
  have HK := (show Hid (∀ A, _) from fun A => take_new kt 102 Bd s f hT flOk _ look102 (.bool false) 4 A st w hR hsz)
  simp only [fgV_eq] at HK
  clear hT hR hsz
  unfold rdV
  go_enter Tryz.func64, Tryz.ntmps64
  go_wp2_with fail
  refine (HK.out _).mono ?_
  rintro e w1 ⟨rfl, h1, h2, h3⟩
  have c0 := cell_blk h2 0
  simp only [List.getElem?_toArray] at c0
  have H1 := (show Hid (Rd w1 Bd s f (tkS flOk st) ∧ Md (fun b => b = s ∨ b = f) w w1) from ⟨h1, h3⟩)
  clear h1 h2 h3
  go_wp2
  go_ret
  exact ⟨rfl, H1.out.1, H1.out.2⟩
end Go.Proofs.YtbhiabcgjnfpoaaGreatDoor
/-
  A reader's pairs: headers, tags, a place on the device; a part's record. (Written by tools/genrd.py.)
-/
namespace Go.Proofs.YtbhiabcgjnfpoaaGreatDoor
open Go.RowKit

/-- Fields of a size that may be. -/
def Sm (st : Option (List ByteArray)) : Prop := ∀ L, st = some L → ∀ x ∈ L, x.size ≤ 8388608
theorem Sm.take {st : Option (List ByteArray)} (h : Sm st) (gd : ByteArray → Bool) : Sm (tkS gd st) := by
  match st, h with
  | none, _ => exact fun L e => by cases e
  | some [], _ => exact fun L e => by cases e
  | some (x :: r), h =>
    intro L e
    simp only [tkS] at e
    split at e
    · cases e
      exact fun y hy => h _ rfl y (List.mem_cons_of_mem _ hy)
    · cases e
def T1 (_ : ByteArray) : Bool := true
theorem keep_blk {F : Nat → Prop} {w w' : World} {g : Nat} {o : Obj} (h : w.heap[g]? = some o) (hm : Md F w w') (hF : ¬ F g) : w'.heap[g]? = some o := (hm.block g (blk_lt h) hF).trans h
theorem size81 : (Tryz.prog.info? 81).map (·.size) = some 2 := by kernel_rfl
theorem size72 : (Tryz.prog.info? 72).map (·.size) = some 2 := by kernel_rfl
theorem size28 : (Tryz.prog.info? 28).map (·.size) = some 2 := by kernel_rfl
theorem size36 : (Tryz.prog.info? 36).map (·.size) = some 6 := by kernel_rfl

set_option maxRecDepth 20000 in
set_option maxHeartbeats 4000000 in
theorem readHeader_any (kt ks Bd s f : Nat) (hT : Take kt) (st : Option (List ByteArray)) (w : World) (hR : Rd w Bd s f st) (hsz : Sm st) :
    Calls Tryz.prog 66 #[rdV kt ks s f] w fun e w' => e = .returned (.agg #[.string (txV st), .string (txV (tkS T1 st))]) ∧ Rd w' Bd s f (tkS T1 (tkS T1 st)) ∧ Md (fun b => b = s ∨ b = f) w w' := by
  unfold rdV
  obtain ⟨Ft, hFt⟩ : ∃ Ft, Ft = Value.func (.func kt) #[] #[.pointer (some ⟨s, 0, none⟩), .pointer (some ⟨f, 0, none⟩)] := ⟨_, rfl⟩
  obtain ⟨Fs, hFs⟩ : ∃ Fs, Fs = Value.func (.func ks) #[] #[.pointer (some ⟨s, 0, none⟩)] := ⟨_, rfl⟩
  rw [← hFt, ← hFs]
  have HK50 : Hid (∀ W st, Rd W Bd s f st → Sm st → Calls Tryz.prog 50 #[.agg #[Ft, Fs]] W fun e w' => e = .returned (.string (txV st)) ∧ Rd w' Bd s f (tkS T1 st) ∧ Md (fun b => b = s ∨ b = f) W w') := by
    rw [hFt, hFs]
    exact fun W st h1 h2 => rtext_any kt ks Bd s f hT st W h1 h2
  clear hFt hFs hT
  go_enter Tryz.func66, Tryz.ntmps66
  go_wp2
  obtain ⟨W0, hW0⟩ : ∃ W0, W0 = (w.alloc (.cells #[Ft, Fs] 89)).alloc (.cells #[.string ⟨#[]⟩, .string ⟨#[]⟩] 81) := ⟨_, rfl⟩
  rw [← hW0]
  obtain ⟨g, hg⟩ : ∃ g, g = w.heap.size := ⟨_, rfl⟩
  obtain ⟨h, hh⟩ : ∃ h, h = w.heap.size + 1 := ⟨_, rfl⟩
  rw [← hh, ← hg]
  have e1 : (w.alloc (.cells #[Ft, Fs] 89)).heap.size = w.heap.size + 1 := by show (w.heap.push _).size = _; simp
  have b1 : W0.heap[g]? = some (.cells #[Ft, Fs] 89 (0, 0)) := by rw [hW0, hg, heap_alloc_old _ _ (by omega)]; exact heap_alloc_new w _
  have b2 : W0.heap[h]? = some (.cells #[.string ⟨#[]⟩, .string ⟨#[]⟩] 81 (0, 0)) := by rw [hW0, hh, ← e1]; exact heap_alloc_new _ _
  have hB : Below w.heap.size w W0 := by rw [hW0]; exact ((Below.refl _ w).alloc (Nat.le_refl _) _).alloc (by omega) _
  have hR0 : Rd W0 Bd s f st := hR.other hB
  have hlt := hR.lt
  have hlo := hR.lo
  have HM0 : Hid (Md (fun b => b = s ∨ b = f) w W0) := (Md.refl _ w).below hB
  have HN : Hid (w.heap.size ≤ h ∧ s ≠ h ∧ f ≠ h ∧ Bd ≤ h) := ⟨by omega, by omega, by omega, by omega⟩
  have HG2 : Hid (W0.heap[h]? = some (.cells #[.string ⟨#[]⟩, .string ⟨#[]⟩] 81 (0, 0)) ∧ ¬ (h = s ∨ h = f)) := ⟨b2, by omega⟩
  have HCE : Hid (∀ w', Md (fun b => b = s ∨ b = f ∨ b = h) W0 w' → w'.cell? ⟨g, 0, none⟩ = some Ft ∧ w'.cell? ⟨g, 1, none⟩ = some Fs ∧ Md (fun b => b = s ∨ b = f ∨ b = h) W0 w') := by
    intro w' hm
    have c1 := keep_blk b1 hm (by omega)
    exact ⟨cell_blk c1 0, cell_blk c1 1, hm⟩
  have hM0 : Md (fun b => b = s ∨ b = f) W0 W0.drew := (Md.refl _ W0).below ((Below.refl _ W0).drew)
  have HW : Hid (∀ w', Md (fun b => b = s ∨ b = f) W0 w' → Md (fun b => b = s ∨ b = f ∨ b = h) W0 w') := fun w' hm => hm.mono (fun b _ hb => by omega)
  have hN0 := HW.out _ hM0
  have hr0 : Rd W0.drew Bd s f st := hR0.other ((Below.refl _ W0).drew)
  have hsz0 := hsz
  have hsz1 := hsz0.take T1
  clear hW0 hg hh e1 b1 b2 hB hR hR0 hlt hlo
  go_region_held3 (fun w' => w'.cell? ⟨g, 0, none⟩ = some Ft ∧ w'.cell? ⟨g, 1, none⟩ = some Fs ∧ Md (fun b => b = s ∨ b = f ∨ b = h) W0 w') (first | ((with_reducible refine HCE.out _ ?_); (with_reducible assumption)) | ((with_reducible refine HCE.out _ ((Md.set ?_ (.inl (.inr (.inr rfl))) _ _).set (.inl (.inr (.inr rfl))) _ _)); (with_reducible assumption)))
    (first
      | (go_at_call 50; (with_reducible refine Calls.mono (HK50.out _ st hr0 hsz0) ?_); rintro e w1 ⟨rfl, hr1, hm1⟩; have hM1 := Md.trans hM0 hm1; have hN1 := HW.out _ hM1)
      | (go_at_call 50; (with_reducible refine Calls.mono (HK50.out _ (tkS T1 st) hr1 hsz1) ?_); rintro e w2 ⟨rfl, hr2, hm2⟩; have hM2 := Md.trans hM1 hm2; have hN2 := HW.out _ hM2; have hb := keep_blk HG2.out.1 hM2 HG2.out.2; have d0 := cell_blk hb 0; have d1 := cell_blk hb 1; have fz0 := frozen_blk hb 0; have fz1 := frozen_blk hb 1; simp only [List.getElem?_toArray] at d0 d1))
  have HE : Hid (Rd w2 Bd s f (tkS T1 (tkS T1 st)) ∧ Md (fun b => b = s ∨ b = f) W0 w2 ∧ w2.heap[h]? = some (.cells #[.string ⟨#[]⟩, .string ⟨#[]⟩] 81 (0, 0))) := ⟨hr2, hM2, hb⟩
  go_wp2
  (try simp only [Exit.inBlock, Exit.then])
  refine bodyPost_ret (results_cell_row rfl _ _ h 81 #[.string (txV st), .string (txV (tkS T1 st))] (0, 0) _ rfl ((set_blk (set_blk HE.out.2.2 0 _) 1 _).trans rfl) Tryz.underlying81 rfl size81) rfl ⟨rfl, ?_, ?_⟩
  · exact HE.out.1.md (((Md.refl (fun b => b = h) w2).set (.inl rfl) _ _).set (.inl rfl) _ _) HN.out.2.1 HN.out.2.2.1 (fun b hb he => by have := HN.out; omega)
  · exact (((HM0.out.then HE.out.2.1 (fun b _ hx => hx)).set (.inr HN.out.1) _ _).set (.inr HN.out.1) _ _)

set_option maxRecDepth 20000 in
set_option maxHeartbeats 4000000 in
theorem readTag_any (kt ks Bd s f : Nat) (hT : Take kt) (st : Option (List ByteArray)) (w : World) (hR : Rd w Bd s f st) (hsz : Sm st) :
    Calls Tryz.prog 55 #[rdV kt ks s f] w fun e w' => e = .returned (.agg #[.string (txV st), .string (txV (tkS T1 st))]) ∧ Rd w' Bd s f (tkS T1 (tkS T1 st)) ∧ Md (fun b => b = s ∨ b = f) w w' := by
  unfold rdV
  obtain ⟨Ft, hFt⟩ : ∃ Ft, Ft = Value.func (.func kt) #[] #[.pointer (some ⟨s, 0, none⟩), .pointer (some ⟨f, 0, none⟩)] := ⟨_, rfl⟩
  obtain ⟨Fs, hFs⟩ : ∃ Fs, Fs = Value.func (.func ks) #[] #[.pointer (some ⟨s, 0, none⟩)] := ⟨_, rfl⟩
  rw [← hFt, ← hFs]
  have HK50 : Hid (∀ W st, Rd W Bd s f st → Sm st → Calls Tryz.prog 50 #[.agg #[Ft, Fs]] W fun e w' => e = .returned (.string (txV st)) ∧ Rd w' Bd s f (tkS T1 st) ∧ Md (fun b => b = s ∨ b = f) W w') := by
    rw [hFt, hFs]
    exact fun W st h1 h2 => rtext_any kt ks Bd s f hT st W h1 h2
  clear hFt hFs hT
  go_enter Tryz.func55, Tryz.ntmps55
  go_wp2
  obtain ⟨W0, hW0⟩ : ∃ W0, W0 = (w.alloc (.cells #[Ft, Fs] 89)).alloc (.cells #[.string ⟨#[]⟩, .string ⟨#[]⟩] 72) := ⟨_, rfl⟩
  rw [← hW0]
  obtain ⟨g, hg⟩ : ∃ g, g = w.heap.size := ⟨_, rfl⟩
  obtain ⟨h, hh⟩ : ∃ h, h = w.heap.size + 1 := ⟨_, rfl⟩
  rw [← hh, ← hg]
  have e1 : (w.alloc (.cells #[Ft, Fs] 89)).heap.size = w.heap.size + 1 := by show (w.heap.push _).size = _; simp
  have b1 : W0.heap[g]? = some (.cells #[Ft, Fs] 89 (0, 0)) := by rw [hW0, hg, heap_alloc_old _ _ (by omega)]; exact heap_alloc_new w _
  have b2 : W0.heap[h]? = some (.cells #[.string ⟨#[]⟩, .string ⟨#[]⟩] 72 (0, 0)) := by rw [hW0, hh, ← e1]; exact heap_alloc_new _ _
  have hB : Below w.heap.size w W0 := by rw [hW0]; exact ((Below.refl _ w).alloc (Nat.le_refl _) _).alloc (by omega) _
  have hR0 : Rd W0 Bd s f st := hR.other hB
  have hlt := hR.lt
  have hlo := hR.lo
  have HM0 : Hid (Md (fun b => b = s ∨ b = f) w W0) := (Md.refl _ w).below hB
  have HN : Hid (w.heap.size ≤ h ∧ s ≠ h ∧ f ≠ h ∧ Bd ≤ h) := ⟨by omega, by omega, by omega, by omega⟩
  have HG2 : Hid (W0.heap[h]? = some (.cells #[.string ⟨#[]⟩, .string ⟨#[]⟩] 72 (0, 0)) ∧ ¬ (h = s ∨ h = f)) := ⟨b2, by omega⟩
  have HCE : Hid (∀ w', Md (fun b => b = s ∨ b = f ∨ b = h) W0 w' → w'.cell? ⟨g, 0, none⟩ = some Ft ∧ w'.cell? ⟨g, 1, none⟩ = some Fs ∧ Md (fun b => b = s ∨ b = f ∨ b = h) W0 w') := by
    intro w' hm
    have c1 := keep_blk b1 hm (by omega)
    exact ⟨cell_blk c1 0, cell_blk c1 1, hm⟩
  have hM0 : Md (fun b => b = s ∨ b = f) W0 W0.drew := (Md.refl _ W0).below ((Below.refl _ W0).drew)
  have HW : Hid (∀ w', Md (fun b => b = s ∨ b = f) W0 w' → Md (fun b => b = s ∨ b = f ∨ b = h) W0 w') := fun w' hm => hm.mono (fun b _ hb => by omega)
  have hN0 := HW.out _ hM0
  have hr0 : Rd W0.drew Bd s f st := hR0.other ((Below.refl _ W0).drew)
  have hsz0 := hsz
  have hsz1 := hsz0.take T1
  clear hW0 hg hh e1 b1 b2 hB hR hR0 hlt hlo
  go_region_held3 (fun w' => w'.cell? ⟨g, 0, none⟩ = some Ft ∧ w'.cell? ⟨g, 1, none⟩ = some Fs ∧ Md (fun b => b = s ∨ b = f ∨ b = h) W0 w') (first | ((with_reducible refine HCE.out _ ?_); (with_reducible assumption)) | ((with_reducible refine HCE.out _ ((Md.set ?_ (.inl (.inr (.inr rfl))) _ _).set (.inl (.inr (.inr rfl))) _ _)); (with_reducible assumption)))
    (first
      | (go_at_call 50; (with_reducible refine Calls.mono (HK50.out _ st hr0 hsz0) ?_); rintro e w1 ⟨rfl, hr1, hm1⟩; have hM1 := Md.trans hM0 hm1; have hN1 := HW.out _ hM1)
      | (go_at_call 50; (with_reducible refine Calls.mono (HK50.out _ (tkS T1 st) hr1 hsz1) ?_); rintro e w2 ⟨rfl, hr2, hm2⟩; have hM2 := Md.trans hM1 hm2; have hN2 := HW.out _ hM2; have hb := keep_blk HG2.out.1 hM2 HG2.out.2; have d0 := cell_blk hb 0; have d1 := cell_blk hb 1; have fz0 := frozen_blk hb 0; have fz1 := frozen_blk hb 1; simp only [List.getElem?_toArray] at d0 d1))
  have HE : Hid (Rd w2 Bd s f (tkS T1 (tkS T1 st)) ∧ Md (fun b => b = s ∨ b = f) W0 w2 ∧ w2.heap[h]? = some (.cells #[.string ⟨#[]⟩, .string ⟨#[]⟩] 72 (0, 0))) := ⟨hr2, hM2, hb⟩
  go_wp2
  (try simp only [Exit.inBlock, Exit.then])
  refine bodyPost_ret (results_cell_row rfl _ _ h 72 #[.string (txV st), .string (txV (tkS T1 st))] (0, 0) _ rfl ((set_blk (set_blk HE.out.2.2 0 _) 1 _).trans rfl) Tryz.underlying72 rfl size72) rfl ⟨rfl, ?_, ?_⟩
  · exact HE.out.1.md (((Md.refl (fun b => b = h) w2).set (.inl rfl) _ _).set (.inl rfl) _ _) HN.out.2.1 HN.out.2.2.1 (fun b hb he => by have := HN.out; omega)
  · exact (((HM0.out.then HE.out.2.1 (fun b _ hx => hx)).set (.inr HN.out.1) _ _).set (.inr HN.out.1) _ _)

set_option maxRecDepth 20000 in
set_option maxHeartbeats 4000000 in
theorem readRef_any (kt ks Bd s f : Nat) (hT : Take kt) (st : Option (List ByteArray)) (w : World) (hR : Rd w Bd s f st) (hsz : Sm st) :
    Calls Tryz.prog 67 #[rdV kt ks s f] w fun e w' => e = .returned (.agg #[.int .i64 (nuV st), .int .i64 (nuV (tkS nuG st))]) ∧ Rd w' Bd s f (tkS nuG (tkS nuG st)) ∧ Md (fun b => b = s ∨ b = f) w w' := by
  unfold rdV
  obtain ⟨Ft, hFt⟩ : ∃ Ft, Ft = Value.func (.func kt) #[] #[.pointer (some ⟨s, 0, none⟩), .pointer (some ⟨f, 0, none⟩)] := ⟨_, rfl⟩
  obtain ⟨Fs, hFs⟩ : ∃ Fs, Fs = Value.func (.func ks) #[] #[.pointer (some ⟨s, 0, none⟩)] := ⟨_, rfl⟩
  rw [← hFt, ← hFs]
  have HK51 : Hid (∀ W st, Rd W Bd s f st → Sm st → Calls Tryz.prog 51 #[.agg #[Ft, Fs]] W fun e w' => e = .returned (.int .i64 (nuV st)) ∧ Rd w' Bd s f (tkS nuG st) ∧ Md (fun b => b = s ∨ b = f) W w') := by
    rw [hFt, hFs]
    exact fun W st h1 h2 => rnumber_any kt ks Bd s f hT st W h1 h2
  clear hFt hFs hT
  go_enter Tryz.func67, Tryz.ntmps67
  go_wp2
  obtain ⟨W0, hW0⟩ : ∃ W0, W0 = (w.alloc (.cells #[Ft, Fs] 89)).alloc (.cells #[.int .i64 0, .int .i64 0] 28) := ⟨_, rfl⟩
  rw [← hW0]
  obtain ⟨g, hg⟩ : ∃ g, g = w.heap.size := ⟨_, rfl⟩
  obtain ⟨h, hh⟩ : ∃ h, h = w.heap.size + 1 := ⟨_, rfl⟩
  rw [← hh, ← hg]
  have e1 : (w.alloc (.cells #[Ft, Fs] 89)).heap.size = w.heap.size + 1 := by show (w.heap.push _).size = _; simp
  have b1 : W0.heap[g]? = some (.cells #[Ft, Fs] 89 (0, 0)) := by rw [hW0, hg, heap_alloc_old _ _ (by omega)]; exact heap_alloc_new w _
  have b2 : W0.heap[h]? = some (.cells #[.int .i64 0, .int .i64 0] 28 (0, 0)) := by rw [hW0, hh, ← e1]; exact heap_alloc_new _ _
  have hB : Below w.heap.size w W0 := by rw [hW0]; exact ((Below.refl _ w).alloc (Nat.le_refl _) _).alloc (by omega) _
  have hR0 : Rd W0 Bd s f st := hR.other hB
  have hlt := hR.lt
  have hlo := hR.lo
  have HM0 : Hid (Md (fun b => b = s ∨ b = f) w W0) := (Md.refl _ w).below hB
  have HN : Hid (w.heap.size ≤ h ∧ s ≠ h ∧ f ≠ h ∧ Bd ≤ h) := ⟨by omega, by omega, by omega, by omega⟩
  have HG2 : Hid (W0.heap[h]? = some (.cells #[.int .i64 0, .int .i64 0] 28 (0, 0)) ∧ ¬ (h = s ∨ h = f)) := ⟨b2, by omega⟩
  have HCE : Hid (∀ w', Md (fun b => b = s ∨ b = f ∨ b = h) W0 w' → w'.cell? ⟨g, 0, none⟩ = some Ft ∧ w'.cell? ⟨g, 1, none⟩ = some Fs ∧ Md (fun b => b = s ∨ b = f ∨ b = h) W0 w') := by
    intro w' hm
    have c1 := keep_blk b1 hm (by omega)
    exact ⟨cell_blk c1 0, cell_blk c1 1, hm⟩
  have hM0 : Md (fun b => b = s ∨ b = f) W0 W0.drew := (Md.refl _ W0).below ((Below.refl _ W0).drew)
  have HW : Hid (∀ w', Md (fun b => b = s ∨ b = f) W0 w' → Md (fun b => b = s ∨ b = f ∨ b = h) W0 w') := fun w' hm => hm.mono (fun b _ hb => by omega)
  have hN0 := HW.out _ hM0
  have hr0 : Rd W0.drew Bd s f st := hR0.other ((Below.refl _ W0).drew)
  have hsz0 := hsz
  have hsz1 := hsz0.take nuG
  clear hW0 hg hh e1 b1 b2 hB hR hR0 hlt hlo
  go_region_held3 (fun w' => w'.cell? ⟨g, 0, none⟩ = some Ft ∧ w'.cell? ⟨g, 1, none⟩ = some Fs ∧ Md (fun b => b = s ∨ b = f ∨ b = h) W0 w') (first | ((with_reducible refine HCE.out _ ?_); (with_reducible assumption)) | ((with_reducible refine HCE.out _ ((Md.set ?_ (.inl (.inr (.inr rfl))) _ _).set (.inl (.inr (.inr rfl))) _ _)); (with_reducible assumption)))
    (first
      | (go_at_call 51; (with_reducible refine Calls.mono (HK51.out _ st hr0 hsz0) ?_); rintro e w1 ⟨rfl, hr1, hm1⟩; have hM1 := Md.trans hM0 hm1; have hN1 := HW.out _ hM1)
      | (go_at_call 51; (with_reducible refine Calls.mono (HK51.out _ (tkS nuG st) hr1 hsz1) ?_); rintro e w2 ⟨rfl, hr2, hm2⟩; have hM2 := Md.trans hM1 hm2; have hN2 := HW.out _ hM2; have hb := keep_blk HG2.out.1 hM2 HG2.out.2; have d0 := cell_blk hb 0; have d1 := cell_blk hb 1; have fz0 := frozen_blk hb 0; have fz1 := frozen_blk hb 1; simp only [List.getElem?_toArray] at d0 d1))
  have HE : Hid (Rd w2 Bd s f (tkS nuG (tkS nuG st)) ∧ Md (fun b => b = s ∨ b = f) W0 w2 ∧ w2.heap[h]? = some (.cells #[.int .i64 0, .int .i64 0] 28 (0, 0))) := ⟨hr2, hM2, hb⟩
  go_wp2
  (try simp only [Exit.inBlock, Exit.then])
  refine bodyPost_ret (results_cell_row rfl _ _ h 28 #[.int .i64 (nuV st), .int .i64 (nuV (tkS nuG st))] (0, 0) _ rfl ((set_blk (set_blk HE.out.2.2 0 _) 1 _).trans rfl) Tryz.underlying28 rfl size28) rfl ⟨rfl, ?_, ?_⟩
  · exact HE.out.1.md (((Md.refl (fun b => b = h) w2).set (.inl rfl) _ _).set (.inl rfl) _ _) HN.out.2.1 HN.out.2.2.1 (fun b hb he => by have := HN.out; omega)
  · exact (((HM0.out.then HE.out.2.1 (fun b _ hx => hx)).set (.inr HN.out.1) _ _).set (.inr HN.out.1) _ _)

end Go.Proofs.YtbhiabcgjnfpoaaGreatDoor
