/-
  The document's Open by its contract: a good place on a living device.
-/
import Derived.Test.YtecljiefljgfmaaRefRead2
import Derived.Test.YtecljiefljgfmaaOpen
namespace Go.Proofs.Ytecljiefljgfmaa
open Go.RowKit

theorem fr_need {S : List ByteArray} {g : G} {L : List ByteArray} (hS : ∀ x ∈ S, x.size = 256) (hf : g.fin ≤ S.length) (h : fr S g = some L) : sect (24 + frLen S g) = needN L := by
  rw [fr] at h
  split at h
  · simp at h
  · split at h
    · simp at h
    · split at h
      · simp at h
      · split at h
        · simp at h
        · rename_i h1 h2 h3 h4
          have ht := unp_tot _ _ _ h
          have hsz : sect (24 + frLen S g) ≤ g.fin - g.at' := by unfold sect; omega
          have hl : (frAll S g).length = 24 + frLen S g := by
            rw [frAll, List.length_take, secs_length hS (by omega)]
            have := sect_le (24 + frLen S g)
            omega
          rw [List.length_drop, hl] at ht
          rw [needN, ht, show 24 + (24 + frLen S g - 24) = 24 + frLen S g from by omega]

theorem rread_any {w ws : World} {d r m : Nat} {K : Nat → Prop} {M : D} {N : R} (h : Pair w ws d r K M N) (hs : Sim M N) (hst : M.st ≠ 2) (hS : ∀ x ∈ M.S, x.size = 256) (hW : N.W.length ≤ 10000) (p n ep nx us : Nat) (dd : Bool) (hm : RLog ws m r p n ep nx us dd) (hn : p + n ≤ M.L.length) (hus : us < n) (hep : ep < 18446744073709551616) (hnx : nx < 18446744073709551616) (X : Option (List ByteArray)) (hX : X = fr M.S ⟨p + us, p + n, ep, nx, dd⟩) (sv : Int) (hsv : sv = if X.isSome then (needN (X.getD []) : Int) else 0) :
    Calls Try.prog 45 #[.pointer (some ⟨m, 0, none⟩)] ws fun e w' => ∃ v, e = .returned (.tuple #[v, .int .i64 sv, .int .i64 0]) ∧ OwnS w' ws.heap.size v (X.getD []) ∧ Below ws.heap.size ws w' := by
  have hlen := h.ok.len
  obtain ⟨hd1, hd2⟩ := fr_doc (S := M.S) (g := ⟨p + us, p + n, ep, nx, dd⟩) hS (by show p + n ≤ _; omega) (by show p + us < p + n; omega)
  obtain ⟨ln, hln⟩ : ∃ ln, ln = frLen M.S ⟨p + us, p + n, ep, nx, dd⟩ := ⟨_, rfl⟩
  by_cases hbig : n - us < sect (24 + ln)
  · rw [← hln, if_pos (by show p + n - (p + us) < sect (24 + ln); omega), ← hX] at hd2
    refine Calls.mono (rread_big h hs hst hS hW p n ep nx us dd hm hn hus ln (by rw [hln]; exact hd1) hbig) ?_
    rintro e w' ⟨rfl, hb⟩
    refine ⟨.slice none 0 0, ?_, ?_, hb⟩
    · rw [hsv, hd2]; rfl
    · rw [hd2]; exact ownS_nil _ _ rfl
  · refine rread_fit h hs hst hS hW p n ep nx us dd hm hn hus hep hnx ln _ hln rfl (by omega) X hX sv ?_
    rw [hsv]
    cases hc : X with
    | none => rfl
    | some L =>
      have := fr_need hS (by show p + n ≤ _; omega) (hX.symm.trans hc)
      rw [← hln] at this
      simp [this]

theorem rlog_no_text {w : World} {m r p n ep nx us : Nat} {dd : Bool} (h : RLog w m r p n ep nx us dd) (off : Nat) (x : ByteArray) : w.cell? ⟨m, off, none⟩ ≠ some (.string x) := by
  rw [cell_blk h off]
  match off with
  | 0 => simp
  | 1 => simp
  | 2 => simp
  | 3 => simp
  | 4 => simp
  | 5 => simp
  | 6 => simp
  | k + 7 => simp
theorem rstrs_turn {w w' : World} {m r p n ep nx us : Nat} {dd : Bool} {a : Option Addr} {L : List ByteArray} (h : Strs w a L) (hL : RLog w m r p n ep nx us dd) (ht : Turn (fun k => k = m) w w') : Strs w' a L := by
  by_cases hn : L = []
  · exact .inl hn
  rcases h with h | ⟨b, off, rfl, hb, hc⟩
  · exact .inl h
  · have hp : 0 < L.length := List.length_pos_iff.2 hn
    have hbl : b ≠ m := by
      rintro rfl
      exact rlog_no_text hL _ _ (hc 0 hp)
    refine .inr ⟨b, off, rfl, by have := ht.size; omega, fun j hj => ?_⟩
    rw [World.cell?_of_block (w := w) (a := ⟨b, off + j, none⟩) (ht.block b hb hbl)]
    exact hc j hj
theorem rfms_ne {w : World} {m r p n ep nx us base : Nat} {dd : Bool} {v : Value} {LL : List (List ByteArray)} (h : Fms w base v LL) (hL : RLog w m r p n ep nx us dd) : ∀ gg, v.ownBlock = some gg → gg ≠ m := by
  obtain ⟨vs, ⟨_, ⟨rfl, _⟩ | ⟨g', cap, cur, rfl, _, hh, _⟩⟩, _⟩ := h
  · intro gg hg; simp [Value.ownBlock] at hg
  · rintro gg hg rfl
    simp only [Value.ownBlock, Option.some.injEq] at hg
    subst hg
    rw [RLog] at hL
    rw [hL] at hh
    simp at hh
theorem rfms_turn {w w' : World} {m r p n ep nx us base : Nat} {dd : Bool} {v : Value} {LL : List (List ByteArray)} (h : Fms w base v LL) (hL : RLog w m r p n ep nx us dd) (ht : Turn (fun k => k = m) w w') : Fms w' base v LL := by
  have hv := rfms_ne h hL
  obtain ⟨vs, h1, h0, h2⟩ := h
  refine ⟨vs, owns_other h1 fun j hj => ht.block j (owns_lt h1 j hj).2 (hv j hj), h0, fun j hj => ?_⟩
  obtain ⟨a, c, h3, h4, h5⟩ := h2 j hj
  exact ⟨a, c, h3, rstrs_turn h4 hL ht, h5⟩

/-- Between two rounds of the document's Open. -/
structure RI (w wr : World) (m r p n ep : Nat) (S : List ByteArray) (R0 : List (List ByteArray) × G) (us nx : Nat) (acc : List (List ByteArray)) (f : Nat) (v : Value) : Prop where
  fms : Fms wr w.heap.size v acc
  log : RLog wr m r p n ep nx us false
  cnt : acc.length = nx
  ule : us ≤ n
  nle : nx ≤ us
  fuel : n - us < f
  all : R0 = (acc ++ (frs f S ⟨p + us, p + n, ep, nx, false⟩).1, (frs f S ⟨p + us, p + n, ep, nx, false⟩).2)
  new : w.heap.size ≤ m ∧ m < wr.heap.size
  old : Below w.heap.size w wr

/-- What the document's Open answers. -/
def ROpened (ws w' : World) (e : Ending) (r p n ep : Nat) (R : List (List ByteArray) × G) : Prop :=
  ∃ m v, e = .returned (.tuple #[.pointer (some ⟨m, 0, none⟩), v, .int .i64 0]) ∧ RLog w' m r p n ep R.2.nx (R.2.at' - p) false ∧ Fms w' ws.heap.size v R.1 ∧ ws.heap.size ≤ m ∧ m < w'.heap.size ∧ Below ws.heap.size ws w'

theorem RI.done {ws wr w' : World} {m r p n ep : Nat} {S : List ByteArray} {R0 : List (List ByteArray) × G} {us nx : Nat} {acc : List (List ByteArray)} {f : Nat} {v : Value} (h : RI ws wr m r p n ep S R0 us nx acc f v) (hfr : fr S ⟨p + us, p + n, ep, nx, false⟩ = none) (hb : Below wr.heap.size wr w') : ROpened ws w' (.returned (.tuple #[.pointer (some ⟨m, 0, none⟩), v, .int .i64 0])) r p n ep R0 := by
  obtain ⟨f', rfl⟩ : ∃ f', f = f' + 1 := ⟨f - 1, by have := h.fuel; omega⟩
  have ha := h.all
  rw [frs_none f' hfr, List.append_nil] at ha
  have hz := hb.size
  refine ⟨m, v, rfl, ?_, ?_, h.new.1, by have := h.new.2; omega, h.old.trans (hb.mono h.old.size)⟩
  · rw [ha]
    show RLog w' m r p n ep nx (p + us - p) false
    rw [show p + us - p = us from by omega]
    exact (hb.block _ h.new.2).trans h.log
  · rw [ha]; exact h.fms.below hb

theorem RI.next {ws wr w4 : World} {m r p n ep : Nat} {S : List ByteArray} {R0 : List (List ByteArray) × G} {us nx : Nat} {acc : List (List ByteArray)} {f : Nat} {v v4 : Value} {L : List ByteArray} (h : RI ws wr m r p n ep S R0 us nx acc f v) (hS : ∀ x ∈ S, x.size = 256) (hn : p + n ≤ S.length) (hfr : fr S ⟨p + us, p + n, ep, nx, false⟩ = some L) (hF4 : Fms w4 ws.heap.size v4 (acc ++ [L])) (hl4 : RLog w4 m r p n ep nx us false) (hb4 : Below ws.heap.size ws w4) :
    ∃ f', RI ws ((w4.setCell ⟨m, 5, none⟩ (.int .i64 ((us : Int) + (needN L : Int)))).setCell ⟨m, 4, none⟩ (.int .u64 ((nx : Int) + 1))) m r p n ep S R0 (us + needN L) (nx + 1) (acc ++ [L]) f' v4 := by
  obtain ⟨f', rfl⟩ : ∃ f', f = f' + 1 := ⟨f - 1, by have := h.fuel; omega⟩
  have ha := h.all
  rw [frs_some f' hfr] at ha
  obtain ⟨q1, q2, q3⟩ := fr_some hS (by show p + n ≤ _; omega) hfr
  have q2' : p + us + needN L ≤ p + n := q2
  have hT : Turn (fun k => k = m) w4 ((w4.setCell ⟨m, 5, none⟩ (.int .i64 ((us : Int) + (needN L : Int)))).setCell ⟨m, 4, none⟩ (.int .u64 ((nx : Int) + 1))) := ((Turn.refl (fun k => k = m) w4).setCell (p := ⟨m, 5, none⟩) rfl _).setCell (p := ⟨m, 4, none⟩) rfl _
  have hm4 : m < w4.heap.size := (Array.getElem?_eq_some_iff.1 hl4).1
  refine ⟨f', rfms_turn hF4 hl4 hT, ?_, by rw [List.length_append, h.cnt]; rfl, by omega, by have := h.nle; omega, by have := h.fuel; omega, ?_, ⟨h.new.1, by have := hT.size; omega⟩, ?_⟩
  · have e1 := set_blk hl4 5 (.int .i64 ((us : Int) + (needN L : Int)))
    have e2 := set_blk e1 4 (.int .u64 ((nx : Int) + 1))
    rw [RLog, e2]
    simp
  · rw [ha]
    simp [G.pass, Nat.add_assoc]
  · exact hb4.trans (hT.below (fun k hk => by rw [hk]; exact h.new.1) hb4.size)

set_option maxHeartbeats 8000000 in
set_option maxRecDepth 100000 in
theorem ropen_ok {w ws : World} {d r : Nat} {K : Nat → Prop} {M : D} {N : R} (h : Pair w ws d r K M N) (hs : Sim M N) (hst : M.st ≠ 2) (hS : ∀ x ∈ M.S, x.size = 256) (hW : N.W.length ≤ 10000) (p n ep : Nat) (h1 : 1 ≤ n) (hfit : p + n ≤ M.L.length) (hep : ep < 18446744073709551616) :
    Calls Try.prog 13 #[.pointer (some ⟨r, 0, none⟩), .int .i64 (p : Int), .int .i64 (n : Int), .int .u64 (ep : Int)] ws fun e w' => ROpened ws w' e r p n ep (frs 5000 M.S (G.new p n ep)) := by
  have hNL : N.L.length = M.L.length := by rw [hs.l]
  have htop := h.ok.top
  have hlen := h.ok.len
  have hf := refFits6_any h p n (by omega) (by omega) (by omega) (by omega)
  rw [show wfitB N.L.length p n = true from by simp only [wfitB, decide_eq_true_eq]; omega] at hf
  have HRD : Hid (∀ q m us nx X sv, Below ws.heap.size ws q → RLog q m r p n ep nx us false → us < n → nx < 18446744073709551616 → X = fr M.S ⟨p + us, p + n, ep, nx, false⟩ → (sv = if X.isSome then (needN (X.getD []) : Int) else 0) → Calls Try.prog 45 #[.pointer (some ⟨m, 0, none⟩)] q fun e w' => ∃ v, e = .returned (.tuple #[v, .int .i64 sv, .int .i64 0]) ∧ OwnS w' q.heap.size v (X.getD []) ∧ Below q.heap.size q w') := fun q m us nx X sv hq hm hus hnx hX hsv => rread_any (h.below hq) hs hst hS hW p n ep nx us false hm hfit hus hep hnx X hX sv hsv
  have HSS : Hid (∀ x ∈ M.S, x.size = 256) := hS
  have HLN : Hid (p + n ≤ M.S.length) := (show _ ≤ _ from by omega)
  have hpn : p + n ≤ 4096 := by omega
  obtain ⟨F0, hF0⟩ : ∃ F0, F0 = 5000 := ⟨_, rfl⟩
  obtain ⟨R0, hR0⟩ : ∃ R0, R0 = frs 5000 M.S (G.new p n ep) := ⟨_, rfl⟩
  have HF0 : Hid (F0 = 5000) := hF0
  have HR0 : Hid (R0 = ([] ++ (frs F0 M.S ⟨p + 0, p + n, ep, 0, false⟩).1, (frs F0 M.S ⟨p + 0, p + n, ep, 0, false⟩).2)) := (show _ = _ from by rw [hR0, ← hF0]; rfl)
  rw [← hR0]
  clear h hs hst hS hfit hlen htop hNL hF0 hR0
  go_enter Try.func13, Try.ntmps13
  go_wp2_with fail
  refine Calls.mono hf ?_
  rintro e w1 ⟨rfl, hb1⟩
  clear hf
  go_upto_region 4 with fail
  obtain ⟨W, hW'⟩ : ∃ W, W = w1.alloc (.cells #[.pointer (some ⟨r, 0, none⟩), .int .i64 (p : Int), .int .i64 (n : Int), .int .u64 (ep : Int), .int .u64 0, .int .i64 0, .bool false] 57) := ⟨_, rfl⟩
  obtain ⟨m, hm⟩ : ∃ m, m = w1.heap.size := ⟨_, rfl⟩
  have HI0 : Hid (RI ws W m r p n ep M.S R0 0 0 [] F0 (.slice none 0 0)) := (by
    have hL : RLog W m r p n ep 0 0 false := by rw [hW', hm]; exact heap_alloc_new w1 _
    have hB : Below ws.heap.size ws W := by rw [hW']; exact hb1.alloc hb1.size _
    exact ⟨Fms.nil _ _, hL, rfl, Nat.zero_le _, Nat.zero_le _, by have := HF0.out; omega, HR0.out, ⟨by have := hb1.size; omega, (Array.getElem?_eq_some_iff.1 hL).1⟩, hB⟩)
  rw [← hW', ← hm]
  clear hW' hm hb1
  go_wp2
  go_loopw [12] (fun v wr => ∃ (us nx : Nat) (acc : List (List ByteArray)) (f : Nat) (aa : Option Addr) (cc : Nat), v = .slice aa acc.length cc ∧ RI ws wr m r p n ep M.S R0 us nx acc f (.slice aa acc.length cc)) (fun v _ => match v with | .slice _ k _ => 5000 - k | _ => 0)
  case atStart => exact ⟨0, 0, [], F0, none, 0, rfl, HI0.out⟩
  case round =>
    obtain ⟨us, nx, acc, f, aa, cc, rfl, hI⟩ := hrel
    clear HI0
    have c5 := cell_blk hI.log 5
    simp only [List.getElem?_toArray] at c5
    have husn := hI.ule
    have hnxu := hI.nle
    have hac : acc.length ≤ 4096 := by rw [hI.cnt]; omega
    have HI : Hid (RI ws wr m r p n ep M.S R0 us nx acc f (.slice aa acc.length cc)) := hI
    by_cases hus : us < n
    · obtain ⟨X, hX⟩ : ∃ X, X = fr M.S ⟨p + us, p + n, ep, nx, false⟩ := ⟨_, rfl⟩
      obtain ⟨sv, hsv⟩ : ∃ sv : Int, sv = if X.isSome then (needN (X.getD []) : Int) else 0 := ⟨_, rfl⟩
      have hrd := HRD.out wr m us nx X sv hI.old hI.log hus (by omega) hX hsv
      have HX : Hid (X = fr M.S ⟨p + us, p + n, ep, nx, false⟩) := hX
      have hui : (us : Int) < (n : Int) := by omega
      clear hI hX HRD
      cases X with
      | none =>
        as_aux_lemma =>
            simp only [Option.isSome_none, Option.getD_none] at hrd hsv
            obtain rfl : sv = 0 := by simpa using hsv
            clear hsv
            go_wp2_with (go_at_call 45; refine Calls.mono hrd ?_; rintro e w2 ⟨v2, rfl, ho2, hb2⟩)
            (try simp only [Exit.inBlock, Exit.then])
            refine bodyPost_ret (v := .tuple #[.pointer (some ⟨m, 0, none⟩), .slice aa acc.length cc, .int .i64 0]) ?_ rfl (HI.out.done HX.out.symm hb2)
            simp [results, Try.f13]
      | some L =>
        as_aux_lemma =>
            simp only [Option.isSome_some, Option.getD_some] at hrd hsv
            obtain rfl : sv = (needN L : Int) := by simpa using hsv
            clear hsv
            obtain ⟨q1, q2, q3⟩ := fr_some HSS.out (by show p + n ≤ _; exact HLN.out) HX.out.symm
            have q2' : p + us + needN L ≤ p + n := q2
            obtain ⟨nl, hnl⟩ : ∃ nl, nl = needN L := ⟨_, rfl⟩
            rw [← hnl] at hrd q1 q2'
            have hnz : ((nl : Int) == 0) = false := by rw [beq_eq_false_iff_ne]; omega
            have hnl4 : us + nl ≤ 4096 := by omega
            have HNL : Hid (nl = needN L) := hnl
            clear hnl q2 q3
            go_upto_region 10 with (go_at_call 45; refine Calls.mono hrd ?_; rintro e w2 ⟨v2, rfl, ho2, hb2⟩)
            have hI := HI.out
            obtain ⟨la, lc, rfl, hst⟩ := OwnS.strs ho2
            have hlb : ∀ b off, la = some ⟨b, off, none⟩ → L ≠ [] → wr.heap.size ≤ b := by
              intro b off e hn
              subst e
              obtain ⟨_, ⟨h1, _⟩ | ⟨gg, cap', cur, h1, h2, _⟩⟩ := ho2
              · simp at h1
              · simp only [Value.slice.injEq, Option.some.injEq, Addr.mk.injEq] at h1
                rw [h1.1.1]
                exact h2
            have hF2 := hI.fms.below hb2
            have hlog2 : RLog w2 m r p n ep nx us false := (hb2.block _ hI.new.2).trans hI.log
            have hz2 := hb2.size
            obtain ⟨w3, hw3⟩ : ∃ w3, w3 = w2.alloc (.cells #[.slice la L.length lc] 40) := ⟨_, rfl⟩
            have hb3 : Below w2.heap.size w2 w3 := by rw [hw3]; exact (Below.refl _ _).alloc (Nat.le_refl _) _
            have hc3 : w3.cell? ⟨w2.heap.size, 0, none⟩ = some (.slice la L.length lc) := by rw [hw3]; exact cell_blk (heap_alloc_new w2 _) 0
            have hF3 := hF2.below hb3
            have hst3 := hst.below hb3 (Nat.le_refl _)
            have hne3 : L ≠ [] → ∀ b off, la = some ⟨b, off, none⟩ → Value.ownBlock (.slice aa acc.length cc) ≠ some b ∧ ws.heap.size ≤ b := by
              intro hn b off e
              have h1 := hlb b off e hn
              have h2 := hI.old.size
              refine ⟨fun e2 => ?_, by omega⟩
              have := (hI.fms.lt b e2).2
              omega
            have hz3 := hb3.size
            have hm2 : m < w2.heap.size := by have := hI.new.2; omega
            have hlog3 : RLog w3 m r p n ep nx us false := (hb3.block _ hm2).trans hlog2
            have hne := rfms_ne hF3 hlog3
            have HH : Hid (Below ws.heap.size ws w3 ∧ RLog w3 m r p n ep nx us false) := ⟨(hI.old.trans (hb2.mono hI.old.size)).trans (hb3.mono (by have := hI.old.size; omega)), hlog3⟩
            have hbase : ws.heap.size ≤ w3.heap.size := HH.out.1.size
            have HF3 : Hid (Fms w3 ws.heap.size (.slice aa acc.length cc) acc) := hF3
            have HS3 : Hid (Strs w3 la L) := hst3
            have HLB := (show Hid (L ≠ [] → ∀ b off, la = some ⟨b, off, none⟩ → Value.ownBlock (.slice aa acc.length cc) ≠ some b ∧ ws.heap.size ≤ b) from hne3)
            have HW3 : Hid (w3 = w2.alloc (.cells #[.slice la L.length lc] 40)) := hw3
            have HOB : Hid (∀ gg, Value.ownBlock (.slice aa acc.length cc) = some gg → ws.heap.size ≤ gg ∧ gg ≠ m) := fun gg e => ⟨(hI.fms.lt gg e).1, hne gg e⟩
            clear ho2 hst hF2 hlog2 hF3 hst3 hne3 hlog3 hlb hI hb2 hb3 hrd hz2 hz3 hne hm2 c5
            have hnx64 : (nx : Int) + 1 ≤ 18446744073709551615 := by omega
            go_wp2_with (at_builtin; rw [← HW3.out]; refine wpList_append_fms rfl (.tmp 44) (.tmp 46) rfl ws.heap.size _ acc rfl HF3.out w2.heap.size la L lc rfl hc3 HS3.out HLB.out (by omega) hbase ?_; rintro v4 w4 hF4 hg4 ⟨a4, c4, rfl⟩; have hlog4 : RLog w4 m r p n ep nx us false := (hg4.block _ (Array.getElem?_eq_some_iff.1 HH.out.2).1 (fun e => (HOB.out _ e.symm).2 rfl)).trans HH.out.2; have k4 : w4.cell? ⟨m, 4, none⟩ = some (.int .u64 (nx : Int)) := cell_blk hlog4 4; have k5 : w4.cell? ⟨m, 5, none⟩ = some (.int .i64 (us : Int)) := cell_blk hlog4 5; have z4 := frozen_blk hlog4 4; have z5 := frozen_blk hlog4 5)
            have hb4 : Below ws.heap.size ws w4 := HH.out.1.grown hg4 hbase (fun gg e => (HOB.out gg e).1)
            obtain ⟨f', hRI⟩ := HI.out.next HSS.out HLN.out HX.out.symm hF4 hlog4 hb4
            rw [← HNL.out] at hRI
            refine ⟨⟨us + nl, nx + 1, acc ++ [L], f', a4, c4, by simp, ?_⟩, by show 5000 - (acc.length + 1) < 5000 - acc.length; omega⟩
            rw [List.length_append]
            exact hRI
    · obtain rfl : us = n := by omega
      have hui : ¬ (us : Int) < (us : Int) := by omega
      clear hI HRD
      go_wp2
      (try simp only [Exit.inBlock, Exit.then])
      refine bodyPost_ret (v := .tuple #[.pointer (some ⟨m, 0, none⟩), .slice aa acc.length cc, .int .i64 0]) ?_ rfl (HI.out.done (fr_none1 (by show p + us - (p + us) < 1; omega)) (Below.refl _ _))
      simp [results, Try.f13]
end Go.Proofs.Ytecljiefljgfmaa
