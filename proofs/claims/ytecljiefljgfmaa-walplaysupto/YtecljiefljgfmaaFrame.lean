/-
  Whether a frame begins where the next one would: by its contract.
-/
import Derived.Test.YtecljiefljgfmaaRun16
import Derived.Test.YtecljiefljgfmaaRun07
import Derived.WalkMore
import Derived.ScopeJumps
import Derived.Deep.CutRange
import Derived.Deep.DeepCutAuto
import Derived.Deep.RegionWith
namespace Go.Proofs.Ytecljiefljgfmaa
open Go.RowKit

def frHead (S : List ByteArray) (g : G) : List UInt8 := (secs S g.at' (sect 24)).take 24
def frLead (S : List ByteArray) (g : G) : Nat := vl ((frHead S g).take 8) 8
def frLen (S : List ByteArray) (g : G) : Nat := frLead S g / 4294967296
def frAll (S : List ByteArray) (g : G) : List UInt8 := (secs S g.at' (sect (24 + frLen S g))).take (24 + frLen S g)
/-- The frame of this log that begins where the next one would. -/
def fr (S : List ByteArray) (g : G) : Option (List ByteArray) :=
  if g.fin - g.at' < 1 then none
  else if (frHead S g).drop 8 ≠ stampL g then none
  else if (g.fin - g.at') * 256 - 24 < frLen S g then none
  else if crcN ((frAll S g).drop 8) ≠ frLead S g % 4294967296 then none
  else unp (((frAll S g).drop 24).length + 1) ((frAll S g).drop 24)

/-- At the label: what the device answered lies in its slot. -/
def AtNone (E : Int) (w w' : World) (a : Act) : Prop := (∃ u0 u1 u2 u3 u4 u5 u6 u7 u8 u10 u11 u12 u13 u14 u15 u16 u17 u18 u19 u20 u21 u22 u23 u24 u25 u26 u27 u28 u29 u30 u31 u32 u33 u34 u35 u36 u37 u38 u39 u40 u41 u42 u43 u44 u45 u46 u47 u48 u49 u50 u51 u52 u53 u54 u55 u56 u57 u58 u59 u60 u61 u62 u63 u64 u65 u66 u67 u68 u69 u70 u71 u72 u73 u74 u75 u76 u77 u78 u79 u80 : Value, a = ⟨#[u0, u1, u2, u3, u4, u5, u6, u7, u8, Value.int .i64 E, u10, u11, u12, u13, u14, u15, u16, u17, u18, u19, u20, u21, u22, u23, u24, u25, u26, u27, u28, u29, u30, u31, u32, u33, u34, u35, u36, u37, u38, u39, u40, u41, u42, u43, u44, u45, u46, u47, u48, u49, u50, u51, u52, u53, u54, u55, u56, u57, u58, u59, u60, u61, u62, u63, u64, u65, u66, u67, u68, u69, u70, u71, u72, u73, u74, u75, u76, u77, u78, u79, u80], []⟩) ∧ Below w.heap.size w w'

theorem slice8 (b off n c : Nat) (h1 : 8 ≤ n) (h3 : 8 < c) (wx : World) : (Instr.slice 50 (.slice (some ⟨b, off, none⟩) n c) (some (.int .i64 8)) none none).run Try.prog wx = .ok (.slice (some ⟨b, off + 8, none⟩) (n - 8) (c - 8)) wx := slice_lo b off n c 8 h1 h3 wx

theorem slice8h (a : Option Addr) (n c : Nat) (h1 : 8 ≤ c) (wx : World) : (Instr.slice 50 (.slice a n c) none (some (.int .i64 8)) none).run Try.prog wx = .ok (.slice a 8 c) wx := slice_hi a n c 8 h1 wx
theorem slice24 (b off n c : Nat) (h1 : 24 ≤ n) (h3 : 24 < c) (wx : World) : (Instr.slice 50 (.slice (some ⟨b, off, none⟩) n c) (some (.int .i64 24)) none none).run Try.prog wx = .ok (.slice (some ⟨b, off + 24, none⟩) (n - 24) (c - 24)) wx := slice_lo b off n c 24 h1 h3 wx
theorem vl8_bd (l : List UInt8) : vl l 8 < 18446744073709551616 := by
  have := vl_bd l 8
  have e : (256 : Nat) ^ 8 = 18446744073709551616 := by decide
  omega
theorem sect24 : sect 24 = 1 := by decide
theorem fr_none1 {S : List ByteArray} {g : G} (h : g.fin - g.at' < 1) : fr S g = none := by rw [fr, if_pos h]
theorem fr_none2 {S : List ByteArray} {g : G} (h : (frHead S g).drop 8 ≠ stampL g) : fr S g = none := by
  rw [fr]
  split
  · rfl
  · first | rfl | rw [if_pos h]
theorem fr_none3 {S : List ByteArray} {g : G} (h : (g.fin - g.at') * 256 - 24 < frLen S g) : fr S g = none := by
  rw [fr]
  split
  · rfl
  · split
    · rfl
    · first | rfl | rw [if_pos h]
theorem fr_none4 {S : List ByteArray} {g : G} (h : crcN ((frAll S g).drop 8) ≠ frLead S g % 4294967296) : fr S g = none := by
  rw [fr]
  split
  · rfl
  · split
    · rfl
    · split
      · rfl
      · first | rfl | rw [if_pos h]
theorem fr_unp {S : List ByteArray} {g : G} (h1 : ¬ g.fin - g.at' < 1) (h2 : (frHead S g).drop 8 = stampL g) (h3 : ¬ (g.fin - g.at') * 256 - 24 < frLen S g) (h4 : crcN ((frAll S g).drop 8) = frLead S g % 4294967296) : fr S g = unp (((frAll S g).drop 24).length + 1) ((frAll S g).drop 24) := by
  rw [fr, if_neg h1, if_neg (fun h => h h2), if_neg h3, if_neg (fun h => h h4)]

set_option maxHeartbeats 8000000 in
set_option maxRecDepth 100000 in
theorem frame_alive (l d : Nat) (g : G) (w : World) (F : Nat → Prop) (M : D) (h : Dev w F d M) (hL : LogV w l d g) (hok : g.Ok) (hs : M.st ≠ 2) (hS : ∀ x ∈ M.S, x.size = 256) (hfin : g.fin ≤ M.S.length) :
    Calls Try.prog 42 #[.pointer (some ⟨l, 0, none⟩)] w fun e w' => ∃ v, e = .returned (.tuple #[v, .bool (fr M.S g).isSome, .int .i64 0]) ∧ OwnS w' w.heap.size v ((fr M.S g).getD []) ∧ Below w.heap.size w w' := by
  have hro := room_any l d g w hL hok
  have hle := hok.le
  have htop := hok.top
  obtain ⟨rm, hrm⟩ : ∃ rm, rm = g.fin - g.at' := ⟨_, rfl⟩
  rw [← hrm] at hro
  have HL : Hid (LogV w l d g) := hL
  have HD : Hid (Dev w F d M) := h
  have HOK : Hid g.Ok := hok
  have HRM : Hid (rm = g.fin - g.at') := hrm
  have HSS : Hid (∀ x ∈ M.S, x.size = 256) := hS
  have HLB : Hid (∀ q, Below w.heap.size w q → LogV q l d g) := fun q hq => (hq.block l (Array.getElem?_eq_some_iff.1 hL).1).trans hL
  clear hL h hok hrm hS
  go_enter Try.func42, Try.ntmps42
  go_wp2
  refine wp_scope_jumps 0 (fun a w' => AtNone 0 w w' a ∧ fr M.S g = none) (fun _ _ => 0) rfl ?_ ?_
  · by_cases hr : rm < 1
    · have hr2 : (rm : Int) < 1 := by omega
      have HN : Hid (fr M.S g = none) := fr_none1 (by rw [← HRM.out]; exact hr)
      go_wp2_with (go_at_call 26; refine Calls.mono hro ?_; rintro e w1 ⟨rfl, rfl⟩)
      go_step3
      exact ⟨rfl, ⟨⟨_, _, _, _, _, _, _, _, _, _, _, _, _, _, _, _, _, _, _, _, _, _, _, _, _, _, _, _, _, _, _, _, _, _, _, _, _, _, _, _, _, _, _, _, _, _, _, _, _, _, _, _, _, _, _, _, _, _, _, _, _, _, _, _, _, _, _, _, _, _, _, _, _, _, _, _, _, _, _, _, rfl⟩, (Below.refl _ _).drew⟩, HN.out⟩
    · have hr2 : ¬ (rm : Int) < 1 := by omega
      have HRD : Hid (∀ q, Below w.heap.size w q → Calls Try.prog 74 #[.pointer (some ⟨d, 0, none⟩), .int .i64 (g.at' : Int), .int .i64 24] q fun e w' => ∃ a c, e = .returned (.tuple #[.slice a 24 c, .int .i64 0]) ∧ Bytes w' a ((secs M.S g.at' (sect 24)).take 24) ∧ (∃ b off, a = some ⟨b, off, none⟩ ∧ q.heap.size ≤ b) ∧ 24 ≤ c ∧ 256 ≤ c ∧ Below q.heap.size q w') := fun q hq => sread_ok d g.at' 24 q F M (HD.out.below hq) hs HSS.out (by omega) (by rw [sect24]; have := HRM.out; omega)
      go_wp2_with (go_at_call 26; refine Calls.mono hro ?_; rintro e w1 ⟨rfl, rfl⟩)
      have hbd : Below w.heap.size w w.drew.drew := (Below.refl _ w).drew.drew
      have d0 : w.drew.drew.cell? ⟨l, 0, none⟩ = some (.pointer (some ⟨d, 0, none⟩)) := cell_blk HL.out 0
      have d1 : w.drew.drew.cell? ⟨l, 1, none⟩ = some (.int .i64 (g.at' : Int)) := cell_blk HL.out 1
      go_region_held3 (fun w' => w'.cell? ⟨l, 0, none⟩ = some (.pointer (some ⟨d, 0, none⟩)) ∧ w'.cell? ⟨l, 1, none⟩ = some (.int .i64 (g.at' : Int))) (go_keep)
        (first
          | (go_at_call 74; (with_reducible refine Calls.mono (HRD.out _ hbd) ?_); rintro e w2 ⟨a, c, rfl, hby, ⟨b, off, rfl, _⟩, hc24, hc256, hb2⟩; have hb2' : Below w.heap.size w w2 := hbd.trans hb2; have s0 : w2.cell? ⟨l, 0, none⟩ = some (.pointer (some ⟨d, 0, none⟩)) := cell_blk (HLB.out w2 hb2') 0; have s1 : w2.cell? ⟨l, 1, none⟩ = some (.int .i64 (g.at' : Int)) := cell_blk (HLB.out w2 hb2') 1))
      clear d0 d1 s0 s1 hbd
      have HB2 : Hid (Below w.heap.size w w2) := hb2'
      have hby' : Bytes w2 (some ⟨b, off, none⟩) (frHead M.S g) := hby
      have hlen : (frHead M.S g).length = 24 := by
        rw [frHead, List.length_take, secs_length HSS.out (by rw [sect24]; have := HRM.out; omega), sect24]
        rfl
      obtain ⟨hd, hhd⟩ : ∃ hd, hd = frHead M.S g := ⟨_, rfl⟩
      rw [← hhd] at hby' hlen
      have HHD : Hid (hd = frHead M.S g) := hhd
      have HBY : Hid (Bytes w2 (some ⟨b, off, none⟩) hd) := hby'
      have HLEN : Hid (hd.length = 24) := hlen
      clear HRD hby hby' hb2 hb2' hhd hlen hro
      -- the stamp
      have hst := stamp_any l d g w2.drew (HLB.out w2.drew HB2.out.drew) HOK.out
      have HS8 : Hid (∀ wx, (Instr.slice 50 (.slice (some ⟨b, off, none⟩) 24 c) (some (.int .i64 8)) none none).run Try.prog wx = .ok (.slice (some ⟨b, off + 8, none⟩) 16 (c - 8)) wx) := fun wx => slice8 b off 24 c (by omega) (by omega) wx
      obtain ⟨eqb, heqb⟩ : ∃ eqb, eqb = decide (hd.drop 8 = stampL g) := ⟨_, rfl⟩
      have HEB : Hid (eqb = decide (hd.drop 8 = stampL g)) := heqb
      have HST : Hid (Calls Try.prog 76 #[.pointer (some ⟨l, 0, none⟩)] w2.drew fun e q => ∃ va vc, e = .returned (.slice va 16 vc) ∧ Below w2.heap.size w2 q ∧ Calls Try.prog 75 #[.slice (some ⟨b, off + 8, none⟩) 16 (c - 8), .slice va 16 vc] q fun e q' => e = .returned (.bool eqb) ∧ q = q') := by
        refine Calls.mono hst ?_
        rintro e q ⟨v, rfl, ho, hb⟩
        have hb' : Below w2.heap.size w2 q := ⟨hb.os, hb.tape, hb.output, hb.size, hb.block⟩
        obtain ⟨va, vc, rfl, hbv, _⟩ := ho.open
        have hbq : Bytes q (some ⟨b, off + 8, none⟩) (hd.drop 8) := (HBY.out.below hb' (Nat.le_refl _)).drop 8
        have := equal_any (some ⟨b, off + 8, none⟩) va (hd.drop 8) (stampL g) (c - 8) vc q hbq hbv
        rw [show (hd.drop 8).length = 16 from by rw [List.length_drop, HLEN.out], stampL_length, ← heqb] at this
        exact ⟨va, vc, by rw [stampL_length], hb', this⟩
      clear hst heqb
      go_wp2
      have hs8 := HS8.out
      go_region_held3 (fun _ => True) (exact trivial)
        (first
          | (go_at_call 76; (with_reducible refine Calls.mono HST.out ?_); rintro e w3 ⟨va, vc, rfl, hb3, hx⟩)
          | (go_at_call 75; (with_reducible refine Calls.mono hx ?_); rintro e w4 ⟨rfl, rfl⟩))
      have HB3 : Hid (Below w.heap.size w w3) := HB2.out.trans (hb3.mono HB2.out.size)
      have HBY3 : Hid (Bytes w3 (some ⟨b, off, none⟩) hd) := HBY.out.below hb3 (Nat.le_refl _)
      clear hb3 hx hs8 HST HBY HS8
      cases eqb with
      | false =>
        have HN : Hid (fr M.S g = none) := fr_none2 (by rw [← HHD.out]; exact of_decide_eq_false HEB.out.symm)
        go_wp2
        go_step3
        exact ⟨rfl, ⟨⟨_, _, _, _, _, _, _, _, _, _, _, _, _, _, _, _, _, _, _, _, _, _, _, _, _, _, _, _, _, _, _, _, _, _, _, _, _, _, _, _, _, _, _, _, _, _, _, _, _, _, _, _, _, _, _, _, _, _, _, _, _, _, _, _, _, _, _, _, _, _, _, _, _, _, _, _, _, _, _, _, rfl⟩, HB3.out⟩, HN.out⟩
      | true =>
        have he : (frHead M.S g).drop 8 = stampL g := by rw [← HHD.out]; exact of_decide_eq_true HEB.out.symm
        have HE : Hid ((frHead M.S g).drop 8 = stampL g) := he
        clear he
        have hg := get64_any (some ⟨b, off, none⟩) (hd.take 8) c w3 (by simp; omega) (HBY3.out.take 8)
        have hl8 : (hd.take 8).length = 8 := by rw [List.length_take, HLEN.out]; rfl
        obtain ⟨q1, q2⟩ := g64_yes hl8
        rw [q1, q2, hl8] at hg
        have hld : vl (hd.take 8) 8 = frLead M.S g := by rw [frLead, ← HHD.out]
        rw [hld] at hg
        have hbd : frLead M.S g < 18446744073709551616 := by rw [← hld]; exact vl8_bd _
        obtain ⟨ld, hlde⟩ : ∃ ld, ld = frLead M.S g := ⟨_, rfl⟩
        rw [← hlde] at hg hbd
        have HLD : Hid (ld = frLead M.S g) := hlde
        have hs8 : (Instr.slice 50 (.slice (some ⟨b, off, none⟩) 24 c) none (some (.int .i64 8)) none).run Try.prog w3 = .ok (.slice (some ⟨b, off, none⟩) 8 c) w3 := slice8h _ 24 c (by omega) w3
        obtain ⟨ln, hln⟩ : ∃ ln, ln = ld / 4294967296 := ⟨_, rfl⟩
        have hln2 : (ld : Int) / 4294967296 = (ln : Int) := by omega
        have hlnb : ln < 4294967296 := by omega
        have HLN : Hid (ln = ld / 4294967296) := hln
        have hro3 := room_any l d g w3 (HLB.out w3 HB3.out) HOK.out
        rw [← HRM.out] at hro3
        clear HEB q1 q2 hl8 hld hlde hln
        go_upto_region 11 with (go_at_call 77; refine Calls.mono hg ?_; rintro e w4 ⟨rfl, rfl⟩)
        clear hg hs8
        by_cases hlong : rm * 256 - 24 < ln
        · have HN : Hid (fr M.S g = none) := fr_none3 (by rw [← HRM.out, frLen, ← HLD.out, ← HLN.out]; exact hlong)
          have h1 : (rm : Int) * 256 - 24 < (ln : Int) := by omega
          go_wp2_with (go_at_call 26; refine Calls.mono hro3 ?_; rintro e w4 ⟨rfl, rfl⟩)
          go_step3
          exact ⟨rfl, ⟨⟨_, _, _, _, _, _, _, _, _, _, _, _, _, _, _, _, _, _, _, _, _, _, _, _, _, _, _, _, _, _, _, _, _, _, _, _, _, _, _, _, _, _, _, _, _, _, _, _, _, _, _, _, _, _, _, _, _, _, _, _, _, _, _, _, _, _, _, _, _, _, _, _, _, _, _, _, _, _, _, _, rfl⟩, HB3.out.drew⟩, HN.out⟩
        · have h1 : ¬ (rm : Int) * 256 - 24 < (ln : Int) := by omega
          obtain ⟨sz, hsz⟩ : ∃ sz, sz = 24 + ln := ⟨_, rfl⟩
          have hsz2 : (24 : Int) + (ln : Int) = (sz : Int) := by omega
          have hsl : sect sz ≤ rm := by unfold sect; omega
          have hrm4 : rm ≤ 4096 := by have := HRM.out; omega
          have hrd2 := sread_ok d g.at' sz w3.drew.drew F M (HD.out.below HB3.out.drew.drew) hs HSS.out (by omega) (by have := HRM.out; omega)
          have hlen2 : ((secs M.S g.at' (sect sz)).take sz).length = sz := by
            rw [List.length_take, secs_length HSS.out (by have := HRM.out; omega)]
            have := sect_le sz
            omega
          have hfa : (secs M.S g.at' (sect sz)).take sz = frAll M.S g := by rw [frAll, frLen, ← HLD.out, ← HLN.out, ← hsz]
          rw [hfa] at hrd2 hlen2
          have h24 : 24 ≤ sz := by omega
          have hszb : sz ≤ 1048576 := by omega
          have HLONG : Hid (¬ (g.fin - g.at') * 256 - 24 < frLen M.S g) := (show ¬ _ from by rw [← HRM.out, frLen, ← HLD.out, ← HLN.out]; exact hlong)
          obtain ⟨FA, hFA⟩ : ∃ FA, FA = frAll M.S g := ⟨_, rfl⟩
          rw [← hFA] at hrd2 hlen2
          have HFA : Hid (FA = frAll M.S g) := hFA
          have HFL : Hid (FA.length = sz) := hlen2
          clear hlong hsl hfa hlen2 hFA hsz
          go_wp2_with (go_at_call 26; refine Calls.mono hro3 ?_; rintro e w4 ⟨rfl, rfl⟩)
          have hbd3 : Below w.heap.size w w3.drew.drew := HB3.out.drew.drew
          have d0 : w3.drew.drew.cell? ⟨l, 0, none⟩ = some (.pointer (some ⟨d, 0, none⟩)) := cell_blk (HLB.out w3 HB3.out) 0
          have d1 : w3.drew.drew.cell? ⟨l, 1, none⟩ = some (.int .i64 (g.at' : Int)) := cell_blk (HLB.out w3 HB3.out) 1
          have hwa : IntKind.i64.wrap (ln : Int) = (ln : Int) := by rw [IntKind.wrap_i64]; omega
          have hwb : IntKind.i64.wrap (24 + (ln : Int)) = (sz : Int) := by rw [IntKind.wrap_i64]; omega
          have hwc : IntKind.i64.wrap (sz : Int) = (sz : Int) := by rw [IntKind.wrap_i64]; omega
          go_region_held3 (fun w' => w'.cell? ⟨l, 0, none⟩ = some (.pointer (some ⟨d, 0, none⟩)) ∧ w'.cell? ⟨l, 1, none⟩ = some (.int .i64 (g.at' : Int))) (go_keep)
            (first
              | (go_at_call 74; (with_reducible refine Calls.mono hrd2 ?_); rintro e w5 ⟨a2, c2, rfl, hby5, ⟨b2, off2, rfl, _⟩, hcs2, hc2, hb5⟩; have hb5' : Below w.heap.size w w5 := hbd3.trans (hb5.mono HB3.out.size); have s0 : w5.cell? ⟨l, 0, none⟩ = some (.pointer (some ⟨d, 0, none⟩)) := cell_blk (HLB.out w5 hb5') 0; have s1 : w5.cell? ⟨l, 1, none⟩ = some (.int .i64 (g.at' : Int)) := cell_blk (HLB.out w5 hb5') 1))
          clear d0 d1 s0 s1 hwa hwb hwc hb5'
          go_upto_region 14 with fail
          have HB5 : Hid (Below w.heap.size w w5) := HB3.out.drew.drew.trans (hb5.mono HB3.out.size)
          have HBY5 : Hid (Bytes w5 (some ⟨b2, off2, none⟩) FA) := hby5
          have hcr := crc_any (some ⟨b2, off2 + 8, none⟩) (FA.drop 8) (c2 - 8) w5 (by rw [List.length_drop, HFL.out]; omega) (hby5.drop 8)
          rw [List.length_drop, HFL.out] at hcr
          obtain ⟨cv, hcv⟩ : ∃ cv, cv = crcN (FA.drop 8) := ⟨_, rfl⟩
          have hW : W (crcL (FA.drop 8)) = (cv : Int) := by rw [hcv]; rfl
          rw [hW] at hcr
          have hs8 : (Instr.slice 50 (.slice (some ⟨b2, off2, none⟩) sz c2) (some (.int .i64 8)) none none).run Try.prog w5 = .ok (.slice (some ⟨b2, off2 + 8, none⟩) (sz - 8) (c2 - 8)) w5 := slice8 b2 off2 sz c2 (by omega) (by omega) w5
          obtain ⟨lw, hlw⟩ : ∃ lw, lw = ld % 4294967296 := ⟨_, rfl⟩
          have hlw2 : (ld : Int) % 4294967296 = (lw : Int) := by omega
          have HCV : Hid (cv = crcN (FA.drop 8) ∧ lw = ld % 4294967296) := ⟨hcv, hlw⟩
          clear hby5 hb5 hcv hW hlw hrd2 hro3
          by_cases hcl : cv = lw
          · have hcb : ((cv : Int) != (lw : Int)) = false := by rw [bne_eq_false_iff_eq, hcl]
            have HCR : Hid (crcN ((frAll M.S g).drop 8) = frLead M.S g % 4294967296) := (show _ = _ from by rw [← HFA.out, ← HLD.out, ← HCV.out.1, ← HCV.out.2]; exact hcl)
            clear hcl
            go_upto_region 15 with (go_at_call 78; refine Calls.mono hcr ?_; rintro e w6 ⟨rfl, hb6⟩)
            have HB6 : Hid (Below w.heap.size w w6) := HB5.out.trans (hb6.mono HB5.out.size)
            have hby6 : Bytes w6 (some ⟨b2, off2 + 24, none⟩) (FA.drop 24) := (HBY5.out.below hb6 (Nat.le_refl _)).drop 24
            have hun := unpack_any (some ⟨b2, off2 + 24, none⟩) (FA.drop 24) (c2 - 24) w6 (by rw [List.length_drop, HFL.out]; omega) (by rw [List.length_drop, HFL.out]; omega) hby6
            have hs24 : (Instr.slice 50 (.slice (some ⟨b2, off2, none⟩) sz c2) (some (.int .i64 24)) none none).run Try.prog w6 = .ok (.slice (some ⟨b2, off2 + 24, none⟩) (sz - 24) (c2 - 24)) w6 := slice24 b2 off2 sz c2 (by omega) (by omega) w6
            have hfu : fr M.S g = unp ((FA.drop 24).length + 1) (FA.drop 24) := by
              rw [HFA.out]
              exact fr_unp (by rw [← HRM.out]; exact hr) HE.out HLONG.out HCR.out
            rw [show (FA.drop 24).length = sz - 24 from by rw [List.length_drop, HFL.out]] at hun
            have hk1 : uOk (FA.drop 24) = (fr M.S g).isSome := by rw [hfu, uOk]
            have hk2 : uL (FA.drop 24) = (fr M.S g).getD [] := by rw [hfu, uL]
            rw [hk1, hk2] at hun
            clear hb6 hby6 hs8 hcr hk1 hk2 hfu
            obtain ⟨X, hXe⟩ : ∃ X, X = fr M.S g := ⟨_, rfl⟩
            rw [← hXe] at hun
            have HXE : Hid (X = fr M.S g) := hXe
            clear hXe
            cases X with
            | none =>
              simp only [Option.isSome_none] at hun
              go_wp2_with (go_at_call 79; refine Calls.mono hun ?_; rintro e w7 ⟨v7, rfl, ho7, hb7⟩)
              go_step3
              exact ⟨rfl, ⟨⟨_, _, _, _, _, _, _, _, _, _, _, _, _, _, _, _, _, _, _, _, _, _, _, _, _, _, _, _, _, _, _, _, _, _, _, _, _, _, _, _, _, _, _, _, _, _, _, _, _, _, _, _, _, _, _, _, _, _, _, _, _, _, _, _, _, _, _, _, _, _, _, _, _, _, _, _, _, _, _, _, rfl⟩, HB6.out.trans (hb7.mono HB6.out.size)⟩, HXE.out.symm⟩
            | some X =>
              simp only [Option.isSome_some] at hun
              go_wp2_with (go_at_call 79; refine Calls.mono hun ?_; rintro e w7 ⟨v7, rfl, ho7, hb7⟩)
              unfold Exit.jump
              go_ret3
              rw [← HXE.out]
              exact ⟨v7, rfl, owns_base ho7 (fun j hj => by have := (owns_lt ho7 j hj).1; have := HB6.out.size; omega), HB6.out.trans (hb7.mono HB6.out.size)⟩
          · have hcb : ((cv : Int) != (lw : Int)) = true := by rw [bne_iff_ne]; omega
            have HN : Hid (fr M.S g = none) := fr_none4 (by rw [← HFA.out, ← HLD.out, ← HCV.out.1, ← HCV.out.2]; exact hcl)
            clear hcl
            go_wp2_with (go_at_call 78; refine Calls.mono hcr ?_; rintro e w6 ⟨rfl, hb6⟩)
            go_step3
            exact ⟨rfl, ⟨⟨_, _, _, _, _, _, _, _, _, _, _, _, _, _, _, _, _, _, _, _, _, _, _, _, _, _, _, _, _, _, _, _, _, _, _, _, _, _, _, _, _, _, _, _, _, _, _, _, _, _, _, _, _, _, _, _, _, _, _, _, _, _, _, _, _, _, _, _, _, _, _, _, _, _, _, _, _, _, _, _, rfl⟩, HB5.out.trans (hb6.mono HB5.out.size)⟩, HN.out⟩
  · rintro a1 w1 ⟨⟨⟨u0, u1, u2, u3, u4, u5, u6, u7, u8, u10, u11, u12, u13, u14, u15, u16, u17, u18, u19, u20, u21, u22, u23, u24, u25, u26, u27, u28, u29, u30, u31, u32, u33, u34, u35, u36, u37, u38, u39, u40, u41, u42, u43, u44, u45, u46, u47, u48, u49, u50, u51, u52, u53, u54, u55, u56, u57, u58, u59, u60, u61, u62, u63, u64, u65, u66, u67, u68, u69, u70, u71, u72, u73, u74, u75, u76, u77, u78, u79, u80, rfl⟩, hb⟩, hN⟩
    go_wp2
    unfold Exit.jump
    go_ret3
    rw [hN]
    exact ⟨_, rfl, ownS_nil _ _ rfl, hb⟩

set_option maxHeartbeats 4000000 in
set_option maxRecDepth 100000 in
theorem frame_no_room (l d : Nat) (g : G) (w : World) (hL : LogV w l d g) (hok : g.Ok) (hr : g.fin - g.at' < 1) :
    Calls Try.prog 42 #[.pointer (some ⟨l, 0, none⟩)] w fun e w' => e = .returned (.tuple #[.slice none 0 0, .bool false, .int .i64 0]) ∧ Below w.heap.size w w' := by
  have hro := room_any l d g w hL hok
  have hr2 : ((g.fin - g.at' : Nat) : Int) < 1 := by omega
  obtain ⟨rm, hrm⟩ : ∃ rm, rm = g.fin - g.at' := ⟨_, rfl⟩
  rw [← hrm] at hro hr2
  clear hL hok hr hrm
  go_enter Try.func42, Try.ntmps42
  go_wp2
  refine wp_scope_jumps 0 (fun a w' => AtNone 0 w w' a) (fun _ _ => 0) rfl ?_ ?_
  · go_wp2_with (go_at_call 26; refine Calls.mono hro ?_; rintro e w1 ⟨rfl, rfl⟩)
    go_step3
    exact ⟨rfl, ⟨_, _, _, _, _, _, _, _, _, _, _, _, _, _, _, _, _, _, _, _, _, _, _, _, _, _, _, _, _, _, _, _, _, _, _, _, _, _, _, _, _, _, _, _, _, _, _, _, _, _, _, _, _, _, _, _, _, _, _, _, _, _, _, _, _, _, _, _, _, _, _, _, _, _, _, _, _, _, _, _, rfl⟩, (Below.refl _ _).drew⟩
  · rintro a1 w1 ⟨⟨u0, u1, u2, u3, u4, u5, u6, u7, u8, u10, u11, u12, u13, u14, u15, u16, u17, u18, u19, u20, u21, u22, u23, u24, u25, u26, u27, u28, u29, u30, u31, u32, u33, u34, u35, u36, u37, u38, u39, u40, u41, u42, u43, u44, u45, u46, u47, u48, u49, u50, u51, u52, u53, u54, u55, u56, u57, u58, u59, u60, u61, u62, u63, u64, u65, u66, u67, u68, u69, u70, u71, u72, u73, u74, u75, u76, u77, u78, u79, u80, rfl⟩, hb⟩
    go_wp2
    unfold Exit.jump
    go_ret3
    exact ⟨rfl, hb⟩

set_option maxHeartbeats 4000000 in
set_option maxRecDepth 100000 in
theorem frame_dead (l d : Nat) (g : G) (w : World) (F : Nat → Prop) (M : D) (h : Dev w F d M) (hL : LogV w l d g) (hok : g.Ok) (hs : M.st = 2) (hr : ¬ g.fin - g.at' < 1) :
    Calls Try.prog 42 #[.pointer (some ⟨l, 0, none⟩)] w fun e w' => e = .returned (.tuple #[.slice none 0 0, .bool false, .int .i64 50]) ∧ Below w.heap.size w w' := by
  have hro := room_any l d g w hL hok
  have hrd := sread_dead d g.at' 24 w.drew.drew F M (h.below (Below.refl _ w).drew.drew) hs (by omega) (by omega) (by have := hok.le; have := hok.top; omega)
  have d0 : w.drew.drew.cell? ⟨l, 0, none⟩ = some (.pointer (some ⟨d, 0, none⟩)) := cell_blk hL 0
  have d1 : w.drew.drew.cell? ⟨l, 1, none⟩ = some (.int .i64 (g.at' : Int)) := cell_blk hL 1
  have hr2 : ¬ ((g.fin - g.at' : Nat) : Int) < 1 := by omega
  obtain ⟨rm, hrm⟩ : ∃ rm, rm = g.fin - g.at' := ⟨_, rfl⟩
  rw [← hrm] at hro hr2
  clear hL hok hr hrm h
  go_enter Try.func42, Try.ntmps42
  go_wp2
  refine wp_scope_jumps 0 (fun a w' => AtNone 50 w w' a) (fun _ _ => 0) rfl ?_ ?_
  · go_wp2_with (go_at_call 26; refine Calls.mono hro ?_; rintro e w1 ⟨rfl, rfl⟩)
    go_region_held3 (fun w' => w'.cell? ⟨l, 0, none⟩ = some (.pointer (some ⟨d, 0, none⟩)) ∧ w'.cell? ⟨l, 1, none⟩ = some (.int .i64 (g.at' : Int))) (go_keep)
      (first
        | (go_at_call 74; (with_reducible refine Calls.mono hrd ?_); rintro e w2 ⟨rfl, rfl⟩))
    go_wp2
    go_step3
    exact ⟨rfl, ⟨_, _, _, _, _, _, _, _, _, _, _, _, _, _, _, _, _, _, _, _, _, _, _, _, _, _, _, _, _, _, _, _, _, _, _, _, _, _, _, _, _, _, _, _, _, _, _, _, _, _, _, _, _, _, _, _, _, _, _, _, _, _, _, _, _, _, _, _, _, _, _, _, _, _, _, _, _, _, _, _, rfl⟩, (Below.refl _ w).drew.drew⟩
  · rintro a1 w1 ⟨⟨u0, u1, u2, u3, u4, u5, u6, u7, u8, u10, u11, u12, u13, u14, u15, u16, u17, u18, u19, u20, u21, u22, u23, u24, u25, u26, u27, u28, u29, u30, u31, u32, u33, u34, u35, u36, u37, u38, u39, u40, u41, u42, u43, u44, u45, u46, u47, u48, u49, u50, u51, u52, u53, u54, u55, u56, u57, u58, u59, u60, u61, u62, u63, u64, u65, u66, u67, u68, u69, u70, u71, u72, u73, u74, u75, u76, u77, u78, u79, u80, rfl⟩, hb⟩
    go_wp2
    unfold Exit.jump
    go_ret3
    exact ⟨rfl, hb⟩
end Go.Proofs.Ytecljiefljgfmaa
