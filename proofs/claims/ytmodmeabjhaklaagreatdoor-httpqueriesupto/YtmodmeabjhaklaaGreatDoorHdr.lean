/-
  A header line (reader.header).
-/
import Derived.Test.YtmodmeabjhaklaaGreatDoorApp
namespace Go.Proofs.YtmodmeabjhaklaaGreatDoor
open Go.RowKit

theorem Md.ofGrown {w1 w2 : World} {row : Option Nat} (hg : w1.grownBy w2 row) : Md (fun b => row = some b) w1 w2 :=
  ⟨hg.os, hg.tape, hg.output, hg.size, fun b hb h1 => hg.block b hb (fun e => h1 e.symm)⟩
theorem TlR.below {w w' : World} {base : Nat} {t : Tl} {T : Tld} (h : TlR w base t T) (hb : Below w.heap.size w w') : TlR w' base t T := by
  cases T with
  | more => exact h
  | bad e => exact h
  | done u m tt hs b cl co =>
    obtain ⟨hv, bv, h1, h2, h3⟩ := h
    exact ⟨hv, bv, h1, own_md h2 (Md.ofBelow (F := fun _ => False) hb) (fun _ _ h => h), own_md h3 (Md.ofBelow (F := fun _ => False) hb) (fun _ _ h => h)⟩
theorem FinR.below {w0 w w' : World} {p : Nat} {T : Tld} (h : FinR w0 w p T) (hb : Below w.heap.size w w') : FinR w0 w' p T := by
  obtain ⟨r, h1, h2, h3⟩ := h
  exact ⟨r, h1.below hb, h2.below hb, h3.trans (hb.mono h3.size)⟩
theorem fld_name {l : List UInt8} {s s' : St} {z : Hd} (h : fldL l s = .ok s' (some z)) (hi : s.hs.length ≤ s.at_) : z.1 ≠ [] ∧ z.1.length ≤ 65536 ∧ z.2.length ≤ 65536 ∧ s'.hs = s.hs ∧ s'.hs.length + 1 ≤ s'.at_ ∧ s'.pcs = s.pcs := by
  unfold fldL at h
  split at h
  · cases h
  · cases h
  · next x hx =>
    have h1 := (ln_ok hx).2.2.2
    split at h
    · cases h
    · split at h
      · cases h
      · split at h
        · cases h
        · next y hy =>
          simp only [Fl.ok.injEq, Option.some.injEq] at h
          obtain ⟨rfl, rfl⟩ := h
          unfold hdrL at hy
          split at hy
          · next hc =>
            simp only [Option.some.injEq] at hy
            subst hy
            have hcl := cut_len x [58]
            have htk : tokenB (Lib.cut x [58]).1 = true := by
              simp only [Bool.and_eq_true] at hc
              exact hc.1.2
            have htr := trim_len (Lib.cut x [58]).2.1
            refine ⟨?_, ?_, ?_, rfl, ?_, rfl⟩
            · intro h0
              have : (Lib.cut x [58]).1 = [] := by simpa [lowL] using h0
              rw [this] at htk
              simp [tokenB] at htk
            · simp only [lowL, List.length_map]
              omega
            · simp only
              omega
            · simp only
              omega
          · cases hy
set_option maxRecDepth 20000 in
set_option maxHeartbeats 1000000 in
theorem header_any {w0 w : World} {p : Nat} {l : List UInt8} {s : St} {a : Option Addr} {cap : Nat} {T : Tl} {hv pv : Value} {xs : List Sl} (h : Rd w0 w p l s a cap T hv pv xs) :
    Calls Tryz.prog 23 #[.pointer (some ⟨p, 0, none⟩)] w fun e w' => NxR w0 w w' p l a cap e (stepF l 1 s) := by
  have HF := (show Hid _ from field_any h)
  have H := (show Hid _ from h)
  clear h
  go_enter Tryz.func23, Tryz.ntmps23
  go_wp2_with fail
  refine Calls.mono HF.out ?_
  clear HF
  intro e w1 hfl
  cases hx : fldL l s with
  | fin t =>
    rw [hx] at hfl
    obtain ⟨rfl, hf, hb⟩ := hfl
    have HS : Hid (stepF l 1 s = .fin t) := by show _ = _; simp [stepF, hx]
    have HR := (show Hid _ from And.intro hf hb)
    clear hx hf hb
    go_wp2
    go_ret
    rw [HS.out]
    have hba : Below w1.heap.size w1 (w1.alloc (.cells #[.string ⟨#[]⟩, .string ⟨#[]⟩] 45)) := (Below.refl _ _).alloc (Nat.le_refl _) _
    exact ⟨rfl, HR.out.1.below hba, HR.out.2.trans (hba.mono (by obtain ⟨r, h1, _⟩ := HR.out.1; have := h1.lt; omega))⟩
  | ok s' z =>
    rw [hx] at hfl
    obtain ⟨rfl, hr, hm⟩ := hfl
    cases z with
    | none =>
      have HS : Hid (stepF l 1 s = .go 2 s') := by show _ = _; simp [stepF, hx]
      have HR := (show Hid _ from And.intro hr hm)
      clear hx hr hm
      unfold hdV
      simp only [Option.getD_none]
      go_wp2
      go_ret
      have hba : Below w1.heap.size w1 (w1.alloc (.cells #[.string ⟨#[]⟩, .string ⟨#[]⟩] 45)) := (Below.refl _ _).alloc (Nat.le_refl _) _
      exact NxR.go HS.out rfl (HR.out.1.below hba) ((HR.out.2.toBl H.out.rb.lt).trans (hba.mono (by have := HR.out.1.rb.lt; omega)))
    | some z =>
      have HS : Hid (stepF l 1 s = .go 1 { s' with hs := s'.hs ++ [z] }) := by show _ = _; simp [stepF, hx]
      obtain ⟨hzn, hz1l, hz2l, hhs, hha, hpp⟩ := fld_name hx H.out.inv.hs
      have hzb : (z.1 == []) = false := by rw [beq_eq_false_iff_ne]; exact hzn
      have HR := (show Hid _ from And.intro hr hm)
      have c15 : w1.cell? ⟨p, 15, none⟩ = some hv := hr.rb.cell 15 rfl
      have f15 := hr.rb.fz 15
      obtain ⟨ha, hc, hve⟩ := own_slice hr.hs
      obtain ⟨i0, hi, hz0, hz1, hz2⟩ := info_parts info45
      have hlen : s'.hs.length ≤ 1000000000 := by have := hr.inv.at_; have := hr.inv.len; omega
      have hpl := hr.rb.lt
      have HZ5 := (show Hid (∀ j u, [Value.string ⟨z.1.toArray⟩, .string ⟨z.2.toArray⟩][j]? = some u → (((w1.alloc (.cells #[.string ⟨z.1.toArray⟩, .string ⟨z.2.toArray⟩] 45)).alloc (.cells #[.string ⟨z.1.toArray⟩, .string ⟨z.2.toArray⟩] 45)).drew).cell? ((⟨w1.heap.size + 1, 0, none⟩ : Addr).add j) = some u) from by
        intro j u hu
        have := cell_two_new (w1.alloc (.cells #[.string ⟨z.1.toArray⟩, .string ⟨z.2.toArray⟩] 45)) (.string ⟨z.1.toArray⟩) (.string ⟨z.2.toArray⟩) 45 j u hu
        have e1 : (w1.alloc (.cells #[.string ⟨z.1.toArray⟩, .string ⟨z.2.toArray⟩] 45)).heap.size = w1.heap.size + 1 := by show (w1.heap.push _).size = _; simp
        rw [e1] at this
        exact this)
      have hbX : Below w1.heap.size w1 (((w1.alloc (.cells #[.string ⟨z.1.toArray⟩, .string ⟨z.2.toArray⟩] 45)).alloc (.cells #[.string ⟨z.1.toArray⟩, .string ⟨z.2.toArray⟩] 45)).drew) := (((Below.refl _ _).alloc (Nat.le_refl _) _).alloc (by simp) _).drew
      have hrX := hr.below hbX
      have own5 := hrX.hs
      have hbase5 : p + 1 ≤ (((w1.alloc (.cells #[.string ⟨z.1.toArray⟩, .string ⟨z.2.toArray⟩] 45)).alloc (.cells #[.string ⟨z.1.toArray⟩, .string ⟨z.2.toArray⟩] 45)).drew).heap.size := Nat.le_trans hpl hbX.size
      have HK5 := (show Hid (∀ w5, (((w1.alloc (.cells #[.string ⟨z.1.toArray⟩, .string ⟨z.2.toArray⟩] 45)).alloc (.cells #[.string ⟨z.1.toArray⟩, .string ⟨z.2.toArray⟩] 45)).drew).grownBy w5 hv.ownBlock → Rb w5 p (rsOf s' (.slice a l.length cap) T hv pv)) from fun w5 hg => hrX.rb.keep (Md.ofGrown hg) (fun hh => own_ne hrX.hs hrX.rb (by decide) p hh rfl))
      have HFIN := (show Hid (∀ w5 v5, (((w1.alloc (.cells #[.string ⟨z.1.toArray⟩, .string ⟨z.2.toArray⟩] 45)).alloc (.cells #[.string ⟨z.1.toArray⟩, .string ⟨z.2.toArray⟩] 45)).drew).grownBy w5 hv.ownBlock → w5.ownsRow (p + 1) 45 2 v5 (s'.hs.length + 1) (hcs s'.hs ++ [.string ⟨z.1.toArray⟩, .string ⟨z.2.toArray⟩]) → NxR w0 w (w5.setCell ⟨p, 15, none⟩ v5) p l a cap (.returned (.int .i64 1)) (stepF l 1 s)) from by
        intro w5 v5 hg ho
        have hr5 := HK5.out w5 hg
        have hb5 : Below p w1 (w5.setCell ⟨p, 15, none⟩ v5) := (((hbX.mono (Nat.le_of_lt hpl)).grown hg (Nat.le_of_lt (Nat.lt_of_lt_of_le hpl hbX.size)) (fun k hk => by have := (hrX.hs.lt k hk).1; omega)).setCell (Nat.le_refl _) _)
        have hmp : Md (· = p) w5 (w5.setCell ⟨p, 15, none⟩ v5) := (Md.refl _ _).setp _ _
        refine NxR.go HS.out rfl (T := T) (hv := v5) (pv := pv) (xs := xs) ⟨Rb.of (set_lst hr5 15 v5) rfl, hr.an, hr.cap, hr.by_, hr.ab, hr.lo, hr.bl.trans (hb5.mono hr.lo), ?_, ?_, hr.pl, hr.pb, hr.mx, hr.er, ?_⟩ ((hm.toBl H.out.rb.lt).trans hb5)
        · have e1 : (s'.hs ++ [z]).length = s'.hs.length + 1 := by simp
          show World.ownsRow _ _ _ _ _ (s'.hs ++ [z]).length (hcs (s'.hs ++ [z]))
          rw [e1, hcs_app]
          exact own_md ho hmp (fun j hj => own_ne ho hr5 (by decide) j hj)
        · exact own_md (own_md hrX.ps (Md.ofGrown hg) (fun j hj hh => own_own hrX.ps hrX.hs (by decide) j hj hh)) hmp (fun j hj => own_ne hrX.ps hrX.rb (by decide) j hj)
        · have hI := hr.inv
          refine ⟨hI.at_, hI.len, hI.head, hI.fields, ?_, hI.pcs, hI.sum, hI.size, ?_⟩
          · show (s'.hs ++ [z]).length ≤ s'.at_
            simp
            exact hha
          · intro x hx
            rcases List.mem_append.1 hx with hx | hx
            · exact hI.sm x hx
            · simp only [List.mem_singleton] at hx
              subst hx
              exact ⟨by omega, by omega⟩)
      rw [hve] at c15 own5 HK5 HFIN
      have HOB := (show Hid (hv = .slice ha s'.hs.length hc) from hve)
      have HHS : Hid (s'.hs.length + 1 ≤ s'.at_ ∧ z.1.length ≤ 65536 ∧ z.2.length ≤ 65536) := ⟨hha, hz1l, hz2l⟩
      clear hx hr hm hzn hrX hve hpp hhs hha hz1l hz2l
      unfold hdV
      simp only [Option.getD_some]
      go_wp2_with fail
      go_region_law
        (first
          | (refine step_append_two rfl (.tmp 22) (.tmp 24) 24 rfl (p + 1) 45 i0 (.agg #[.string ⟨#[]⟩, .string ⟨#[]⟩]) 2 32 Tryz.underlying24 hi hz0 hz1 hz2 rfl (by decide) _ s'.hs.length _ rfl own5 ⟨w1.heap.size + 1, 0, none⟩ 1 1 [.string ⟨z.1.toArray⟩, .string ⟨z.2.toArray⟩] rfl rfl HZ5.out (two_one _ _) (by unfold maxLen; omega) (by omega) hbase5 ?_; intro v5 w5 hown5 hgrow5 hvb5; have hr5 := HK5.out w5 hgrow5; have c5 := hr5.cell 15 rfl; have f5 := hr5.fz 15; have K := HFIN.out w5 v5 hgrow5 hown5; obtain ⟨a5, k5, rfl⟩ := own_slice hown5; clear hown5 hgrow5 hvb5 hr5))
      all_goals
        go_wp2
        go_ret
        exact K
end Go.Proofs.YtmodmeabjhaklaaGreatDoor
