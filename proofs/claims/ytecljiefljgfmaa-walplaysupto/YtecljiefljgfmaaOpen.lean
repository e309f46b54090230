/-
  Open by its contract.
-/
import Derived.Test.YtecljiefljgfmaaFrame
namespace Go.Proofs.Ytecljiefljgfmaa
open Go.RowKit

theorem info40 : (Try.prog.info? 40).map (fun i => (i.zero, i.size, i.bytes)) = some (some (.slice none 0 0), 1, 24) := by kernel_rfl

theorem piece_size {r : List UInt8} (h : vl r 4 ≤ r.length - 4) : (piece r).size = vl r 4 := by
  simp [piece, ByteArray.size]
  omega
theorem unp_tot : ∀ (f : Nat) (r : List UInt8) (L : List ByteArray), unp f r = some L → tot L = r.length
  | 0, _, _, h => by simp [unp] at h
  | f + 1, r, L, h => by
    rw [unp] at h
    split at h
    · rename_i h0
      simp only [Option.some.injEq] at h
      subst h
      rw [h0]; rfl
    · split at h
      · simp at h
      · split at h
        · simp at h
        · rename_i h0 h1 h2
          obtain ⟨L', hL', rfl⟩ := Option.map_eq_some_iff.1 h
          have ih := unp_tot f _ _ hL'
          rw [tot, piece_size (by omega), ih, List.length_drop]
          omega

theorem fr_some {S : List ByteArray} {g : G} {L : List ByteArray} (hS : ∀ x ∈ S, x.size = 256) (hf : g.fin ≤ S.length) (h : fr S g = some L) : 1 ≤ needN L ∧ g.at' + needN L ≤ g.fin ∧ tot L ≤ (g.fin - g.at') * 256 := by
  rw [fr] at h
  split at h
  · simp at h
  · split at h
    · simp at h
    · split at h
      · simp at h
      · split at h
        · simp at h
        · rename_i h1 h2 h3 h4
          have ht := unp_tot _ _ _ h
          have hsz : sect (24 + frLen S g) ≤ g.fin - g.at' := by unfold sect; omega
          have hl : (frAll S g).length = 24 + frLen S g := by
            rw [frAll, List.length_take, secs_length hS (by omega)]
            have := sect_le (24 + frLen S g)
            omega
          rw [List.length_drop, hl] at ht
          refine ⟨by unfold needN sect; omega, ?_, by omega⟩
          rw [needN, ht, show 24 + (24 + frLen S g - 24) = 24 + frLen S g from by omega]
          omega

/-- All frames from here on. -/
def frs : Nat → List ByteArray → G → List (List ByteArray) × G
  | 0, _, g => ([], g)
  | f + 1, S, g => match fr S g with
    | none => ([], g)
    | some L => (L :: (frs f S (g.pass L)).1, (frs f S (g.pass L)).2)
theorem frs_none {S : List ByteArray} {g : G} (f : Nat) (h : fr S g = none) : frs (f + 1) S g = ([], g) := by rw [frs, h]
theorem frs_some {S : List ByteArray} {g : G} {L : List ByteArray} (f : Nat) (h : fr S g = some L) : frs (f + 1) S g = (L :: (frs f S (g.pass L)).1, (frs f S (g.pass L)).2) := by rw [frs, h]

/-- Frames in memory: a row of the call's own, each item leads to its texts, which lie elsewhere. -/
def Fms (w : World) (base : Nat) (v : Value) (LL : List (List ByteArray)) : Prop :=
  ∃ vs : List Value, w.ownsRow base 40 1 v LL.length vs ∧ (∀ u ∈ vs, u.oneCell' = true) ∧ ∀ j (h : j < LL.length), ∃ a c, vs[j]? = some (.slice a LL[j].length c) ∧ Strs w a LL[j] ∧ (LL[j] ≠ [] → ∀ b off, a = some ⟨b, off, none⟩ → v.ownBlock ≠ some b ∧ base ≤ b)
theorem Fms.below {w w' : World} {base : Nat} {v : Value} {LL : List (List ByteArray)} (h : Fms w base v LL) (hb : Below w.heap.size w w') : Fms w' base v LL := by
  obtain ⟨vs, h1, h0, h2⟩ := h
  refine ⟨vs, keeps_below hb _ _ _ _ _ _ h1, h0, fun j hj => ?_⟩
  obtain ⟨a, c, h3, h4, h5⟩ := h2 j hj
  exact ⟨a, c, h3, h4.below hb (Nat.le_refl _), h5⟩
theorem Fms.nil (w : World) (base : Nat) : Fms w base (.slice none 0 0) [] := ⟨[], World.ownsRow_nil _ _ _ _, fun u hu => by simp at hu, fun j hj => by simp at hj⟩
theorem Fms.shape {w : World} {base : Nat} {v : Value} {LL : List (List ByteArray)} (h : Fms w base v LL) : ∃ a c, v = .slice a LL.length c := by
  obtain ⟨vs, h1, h2⟩ := h
  exact owns_shape h1
theorem Fms.lt {w : World} {base : Nat} {v : Value} {LL : List (List ByteArray)} (h : Fms w base v LL) : ∀ g, v.ownBlock = some g → base ≤ g ∧ g < w.heap.size := by
  obtain ⟨vs, h1, h2⟩ := h
  exact owns_lt h1
theorem Strs.grown {w w' : World} {a : Option Addr} {L : List ByteArray} {row : Option Nat} (h : Strs w a L) (hg : w.grownBy w' row) (hne : L ≠ [] → ∀ b off, a = some ⟨b, off, none⟩ → row ≠ some b) : Strs w' a L := by
  by_cases hL : L = []
  · exact .inl hL
  rcases h with rfl | ⟨b, off, rfl, hb', hc⟩
  · exact .inl rfl
  · refine .inr ⟨b, off, rfl, by have := hg.size; omega, fun j hj => ?_⟩
    rw [World.cell?_of_block (w := w) (a := ⟨b, off + j, none⟩) (hg.block b hb' (fun e => hne hL b off rfl e.symm))]
    exact hc j hj

/-- One more frame. -/
theorem wpList_append_fms {w : World} {ops : Array Oper} {rest : List Oper} {o : Oper} {a : Act} {Q : Exit → Act → World → Prop} (hgd : o.guard = none) (s x : Operand)
    (ho : o.op = .call { callee := .builtin .append, args := #[s, x], argTypes := #[33, 33] }) (base : Nat) (v : Value) (LL : List (List ByteArray)) (hs : a.eval s = v) (hF : Fms w base v LL)
    (sb : Nat) (la : Option Addr) (L : List ByteArray) (lc : Nat) (hx : a.eval x = .slice (some ⟨sb, 0, none⟩) 1 1) (hcell : w.cell? ⟨sb, 0, none⟩ = some (.slice la L.length lc)) (hL : Strs w la L) (hne : L ≠ [] → ∀ b off, la = some ⟨b, off, none⟩ → v.ownBlock ≠ some b ∧ base ≤ b) (hn : LL.length ≤ 100000) (hbase : base ≤ w.heap.size)
    (h : ∀ v' w', Fms w' base v' (LL ++ [L]) → w.grownBy w' v.ownBlock → (∃ a' c', v' = .slice a' (LL.length + 1) c') → wpList Try.prog ops Q rest (a.put o.dst v') w') : wpList Try.prog ops Q (o :: rest) a w := by
  obtain ⟨i0, hi, hz0, hz1, hz2⟩ := info_parts info40
  obtain ⟨vs, hrow, h0, hit⟩ := hF
  refine wpList_append_own2 hgd s x 33 ho base 40 i0 (.slice none 0 0) 1 24 Try.underlying33 hi hz0 hz1 hz2 rfl (by decide) v LL.length vs hs hrow ⟨sb, 0, none⟩ 1 1 [.slice la L.length lc] hx rfl ?_ (by intro u hu; simp at hu; rw [hu]; rfl) (by unfold maxLen; omega) (by omega) hbase ?_
  · intro j u hj
    rw [Addr.add_lit, Nat.zero_add]
    cases j with
    | zero => simp at hj; rw [hcell, ← hj]
    | succ j => simp at hj
  · intro v' w' ho' hg hnew
    have hvl : vs.length = LL.length := by have := hrow.1; omega
    have hvb : ∀ b, b < w.heap.size → v.ownBlock ≠ some b → v'.ownBlock ≠ some b := by
      intro b hb hvb e
      rcases hnew with hn | hn
      · rw [hn] at e; exact hvb e
      · have := hn b e; omega
    refine h v' w' ⟨vs ++ [.slice la L.length lc], by rw [List.length_append]; exact ho', ?_, fun j hj => ?_⟩ hg (owns_shape ho')
    · intro u hu
      rcases List.mem_append.1 hu with hu | hu
      · exact h0 u hu
      · simp at hu; rw [hu]; rfl
    · rw [List.length_append] at hj
      simp only [List.length_cons, List.length_nil] at hj
      by_cases hlt : j < LL.length
      · obtain ⟨a', c', h3, h4, h5⟩ := hit j hlt
        refine ⟨a', c', ?_, ?_, ?_⟩
        · rw [List.getElem?_append_left (by omega), List.getElem_append_left hlt]; exact h3
        · rw [List.getElem_append_left hlt]; exact h4.grown hg (fun hn b off e => (h5 hn b off e).1)
        · rw [List.getElem_append_left hlt]
          intro hLn b off e
          rcases h4 with h6 | ⟨b', off', e', hb', _⟩
          · exact absurd h6 hLn
          · rw [e'] at e
            simp only [Option.some.injEq, Addr.mk.injEq] at e
            obtain ⟨rfl, _⟩ := e
            exact ⟨hvb _ hb' (h5 hLn _ _ e').1, (h5 hLn _ _ e').2⟩
      · obtain rfl : j = LL.length := by omega
        have e : (LL ++ [L])[LL.length] = L := by simp
        refine ⟨la, lc, ?_, ?_, ?_⟩
        · rw [List.getElem?_append_right (by omega), hvl, e]; simp
        · rw [e]; exact hL.grown hg (fun hn b off e => (hne hn b off e).1)
        · rw [e]
          intro hLn b off e2
          rcases hL with h6 | ⟨b', off', e', hb', _⟩
          · exact absurd h6 hLn
          · rw [e'] at e2
            simp only [Option.some.injEq, Addr.mk.injEq] at e2
            obtain ⟨rfl, _⟩ := e2
            exact ⟨hvb _ hb' (hne hLn _ _ e').1, (hne hLn _ _ e').2⟩

theorem log_no_text {w : World} {l d : Nat} {g : G} (h : LogV w l d g) (off : Nat) (x : ByteArray) : w.cell? ⟨l, off, none⟩ ≠ some (.string x) := by
  rw [cell_blk h off]
  match off with
  | 0 => simp
  | 1 => simp
  | 2 => simp
  | 3 => simp
  | 4 => simp
  | 5 => simp
  | k + 6 => simp
theorem strs_turn {w w' : World} {l d : Nat} {g : G} {a : Option Addr} {L : List ByteArray} (h : Strs w a L) (hL : LogV w l d g) (ht : Turn (fun k => k = l) w w') : Strs w' a L := by
  by_cases hn : L = []
  · exact .inl hn
  rcases h with h | ⟨b, off, rfl, hb, hc⟩
  · exact .inl h
  · have hp : 0 < L.length := List.length_pos_iff.2 hn
    have hbl : b ≠ l := by
      rintro rfl
      exact log_no_text hL _ _ (hc 0 hp)
    refine .inr ⟨b, off, rfl, by have := ht.size; omega, fun j hj => ?_⟩
    rw [World.cell?_of_block (w := w) (a := ⟨b, off + j, none⟩) (ht.block b hb hbl)]
    exact hc j hj
theorem fms_turn {w w' : World} {l d base : Nat} {g : G} {v : Value} {LL : List (List ByteArray)} (h : Fms w base v LL) (hL : LogV w l d g) (hv : ∀ gg, v.ownBlock = some gg → gg ≠ l) (ht : Turn (fun k => k = l) w w') : Fms w' base v LL := by
  obtain ⟨vs, h1, h0, h2⟩ := h
  refine ⟨vs, owns_other h1 fun j hj => ht.block j (owns_lt h1 j hj).2 (hv j hj), h0, fun j hj => ?_⟩
  obtain ⟨a, c, h3, h4, h5⟩ := h2 j hj
  exact ⟨a, c, h3, strs_turn h4 hL ht, h5⟩

theorem fms_ne {w : World} {l d base : Nat} {g : G} {v : Value} {LL : List (List ByteArray)} (h : Fms w base v LL) (hL : LogV w l d g) : ∀ gg, v.ownBlock = some gg → gg ≠ l := by
  obtain ⟨vs, ⟨_, ⟨rfl, _⟩ | ⟨g', cap, cur, rfl, _, hh, _⟩⟩, _⟩ := h
  · intro gg hg; simp [Value.ownBlock] at hg
  · rintro gg hg rfl
    simp only [Value.ownBlock, Option.some.injEq] at hg
    subst hg
    rw [LogV] at hL
    rw [hL] at hh
    simp at hh

/-- A log as Open makes it. -/
def G.new (p n e : Nat) : G := ⟨p, p + n, e, 0, false⟩

/-- Between two rounds of Open. -/
structure OI (w wr : World) (d p n ep : Nat) (S : List ByteArray) (g : G) (acc : List (List ByteArray)) (f : Nat) (v : Value) : Prop where
  fms : Fms wr w.heap.size v acc
  log : LogV wr w.heap.size d g
  ok : g.Ok
  fin : g.fin = p + n
  cnt : acc.length = g.nx
  nx : g.nx ≤ g.at'
  fuel : g.fin - g.at' < f
  all : frs 5000 S (G.new p n ep) = (acc ++ (frs f S g).1, (frs f S g).2)
  ne : ∀ gg, v.ownBlock = some gg → gg ≠ w.heap.size
  old : Below w.heap.size w wr

set_option maxHeartbeats 4000000 in
set_option maxRecDepth 100000 in
theorem open_ok (d p n ep : Nat) (w : World) (F : Nat → Prop) (M : D) (h : Dev w F d M) (hs : M.st ≠ 2) (hS : ∀ x ∈ M.S, x.size = 256) (h1 : 1 ≤ n) (hfit : p + n ≤ M.L.length) (hep : ep < 18446744073709551616) :
    Calls Try.prog 12 #[.pointer (some ⟨d, 0, none⟩), .int .i64 (p : Int), .int .i64 (n : Int), .int .u64 (ep : Int)] w fun e w' => ∃ l v, e = .returned (.tuple #[.pointer (some ⟨l, 0, none⟩), v, .int .i64 0]) ∧
      LogV w' l d (frs 5000 M.S (G.new p n ep)).2 ∧ Fms w' w.heap.size v (frs 5000 M.S (G.new p n ep)).1 ∧ w.heap.size ≤ l ∧ l < w'.heap.size ∧ (frs 5000 M.S (G.new p n ep)).2.Ok ∧ (∀ g, v.ownBlock = some g → g ≠ l) ∧ Below w.heap.size w w' := by
  have hsz := within_yes d p n w F M h hfit
  have htop := h.1.top
  have hlen := h.1.len
  have hpi : ¬ (p : Int) < 0 := by omega
  have hni : ¬ (n : Int) < 1 := by omega
  have hfi : ¬ (M.L.length : Int) - (n : Int) < (p : Int) := by omega
  obtain ⟨LL, hLL⟩ : ∃ LL, LL = M.L.length := ⟨_, rfl⟩
  rw [← hLL] at hfi htop hfit
  have HD : Hid (Dev w F d M) := h
  have HSS : Hid (∀ x ∈ M.S, x.size = 256) := hS
  have HLN : Hid (M.S.length = LL) := by rw [hLL]; exact hlen
  clear h hS hLL hlen
  go_enter Try.func12, Try.ntmps12
  go_wp2_with (go_at_call 41; refine Calls.mono hsz ?_; rintro e w1 ⟨rfl, rfl⟩)
  have HI0 : Hid (OI w (w.alloc (.cells #[.pointer (some ⟨d, 0, none⟩), .int .i64 (p : Int), .int .i64 ((p : Int) + (n : Int)), .int .u64 (ep : Int), .int .u64 0, .bool false] 88)) d p n ep M.S (G.new p n ep) [] 5000 (.slice none 0 0)) := by
    refine ⟨Fms.nil _ _, ?_, ⟨by simp [G.new], by show p + n ≤ 4096; omega, hep, by simp [G.new]⟩, rfl, rfl, Nat.zero_le _, by show p + n - p < 5000; omega, by simp, fun gg hg => by simp [Value.ownBlock] at hg, (Below.refl _ _).alloc (Nat.le_refl _) _⟩
    have := heap_alloc_new w (.cells #[.pointer (some ⟨d, 0, none⟩), .int .i64 (p : Int), .int .i64 ((p : Int) + (n : Int)), .int .u64 (ep : Int), .int .u64 0, .bool false] 88)
    rw [LogV, G.new]
    simpa using this
  clear hsz hpi hni hfi
  go_loopw [12] (fun v wr => ∃ (g : G) (acc : List (List ByteArray)) (f : Nat) (aa : Option Addr) (cc : Nat), v = .slice aa acc.length cc ∧ OI w wr d p n ep M.S g acc f (.slice aa acc.length cc)) (fun v _ => match v with | .slice _ k _ => 5000 - k | _ => 0)
  case atStart => exact ⟨_, [], 5000, none, 0, rfl, HI0.out⟩
  case round =>
    obtain ⟨g, acc, f, aa, cc, rfl, hI⟩ := hrel
    clear HI0
    have hfr := frame_alive w.heap.size d g wr F M (HD.out.below hI.old) hI.log hI.ok hs HSS.out (by rw [HLN.out, hI.fin]; exact hfit)
    have HI : Hid (OI w wr d p n ep M.S g acc f (.slice aa acc.length cc)) := hI
    obtain ⟨X, hX⟩ : ∃ X, X = fr M.S g := ⟨_, rfl⟩
    rw [← hX] at hfr
    have HX : Hid (X = fr M.S g) := hX
    have hacc : acc.length ≤ 4096 := by rw [hI.cnt]; have := hI.nx; have := hI.ok.le; have := hI.ok.top; omega
    clear hI hX
    cases X with
    | none =>
      simp only [Option.isSome_none] at hfr
      go_wp2_with (go_at_call 42; refine Calls.mono hfr ?_; rintro e w2 ⟨v2, rfl, ho2, hb2⟩)
      go_ret3
      have hI := HI.out
      obtain ⟨f', rfl⟩ : ∃ f', f = f' + 1 := ⟨f - 1, by have := hI.fuel; omega⟩
      have ha := hI.all
      rw [frs_none f' HX.out.symm, List.append_nil] at ha
      have hll : w.heap.size < wr.heap.size := (Array.getElem?_eq_some_iff.1 hI.log).1
      refine ⟨w.heap.size, _, rfl, ?_, ?_, Nat.le_refl _, by have := hb2.size; omega, ?_, hI.ne, hI.old.trans (hb2.mono hI.old.size)⟩
      · rw [ha]; exact (hb2.block _ hll).trans hI.log
      · rw [ha]; exact hI.fms.below hb2
      · rw [ha]; exact hI.ok
    | some L =>
      simp only [Option.isSome_some, Option.getD_some] at hfr
      obtain ⟨q1, q2, q3⟩ := fr_some HSS.out (by rw [HLN.out, HI.out.fin]; exact hfit) HX.out.symm
      go_upto_region 10 with (go_at_call 42; refine Calls.mono hfr ?_; rintro e w2 ⟨v2, rfl, ho2, hb2⟩)
      have hI := HI.out
      obtain ⟨la, lc, rfl, hst⟩ := OwnS.strs ho2
      have hlb : ∀ b off, la = some ⟨b, off, none⟩ → L ≠ [] → wr.heap.size ≤ b := by
        intro b off e hn
        subst e
        obtain ⟨_, ⟨h1, _⟩ | ⟨gg, cap', cur, h1, h2, _⟩⟩ := ho2
        · simp at h1
        · simp only [Value.slice.injEq, Option.some.injEq, Addr.mk.injEq] at h1
          rw [h1.1.1]
          exact h2
      have hll : w.heap.size < wr.heap.size := (Array.getElem?_eq_some_iff.1 hI.log).1
      have hF2 := hI.fms.below hb2
      have hlog2 : LogV w2 w.heap.size d g := (hb2.block _ hll).trans hI.log
      have hz2 := hb2.size
      obtain ⟨w3, hw3⟩ : ∃ w3, w3 = w2.alloc (.cells #[.slice la L.length lc] 40) := ⟨_, rfl⟩
      have hb3 : Below w2.heap.size w2 w3 := by rw [hw3]; exact (Below.refl _ _).alloc (Nat.le_refl _) _
      have hc3 : w3.cell? ⟨w2.heap.size, 0, none⟩ = some (.slice la L.length lc) := by rw [hw3]; exact cell_blk (heap_alloc_new w2 _) 0
      have hF3 := hF2.below hb3
      have hst3 := hst.below hb3 (Nat.le_refl _)
      have hne3 : L ≠ [] → ∀ b off, la = some ⟨b, off, none⟩ → Value.ownBlock (.slice aa acc.length cc) ≠ some b ∧ w.heap.size ≤ b := by
        intro hn b off e
        have h1 := hlb b off e hn
        have h2 := hI.old.size
        refine ⟨fun e2 => ?_, by omega⟩
        have := (hI.fms.lt b e2).2
        omega
      have hz3 := hb3.size
      have hlog3 : LogV w3 w.heap.size d g := (hb3.block _ (by omega)).trans hlog2
      have HH : Hid (Below w.heap.size w w3 ∧ LogV w3 w.heap.size d g) := ⟨(hI.old.trans (hb2.mono hI.old.size)).trans (hb3.mono (by have := hI.old.size; omega)), hlog3⟩
      have hbase : w.heap.size ≤ w3.heap.size := HH.out.1.size
      have HF3 : Hid (Fms w3 w.heap.size (.slice aa acc.length cc) acc) := hF3
      have HS3 : Hid (Strs w3 la L) := hst3
      have HLB := (show Hid (L ≠ [] → ∀ b off, la = some ⟨b, off, none⟩ → Value.ownBlock (.slice aa acc.length cc) ≠ some b ∧ w.heap.size ≤ b) from hne3)
      have HW3 : Hid (w3 = w2.alloc (.cells #[.slice la L.length lc] 40)) := hw3
      have HOB : Hid (∀ gg, Value.ownBlock (.slice aa acc.length cc) = some gg → w.heap.size ≤ gg ∧ gg < w3.heap.size ∧ gg ≠ w.heap.size) := fun gg e => ⟨(hI.fms.lt gg e).1, by have := (hI.fms.lt gg e).2; omega, hI.ne gg e⟩
      clear ho2 hst hF2 hlog2 hF3 hst3 hne3 hlog3 hlb hI hb2 hb3 hfr hz2 hz3 hll
      have hpa : ∀ w4, LogV w4 w.heap.size d g → Strs w4 la L → Calls Try.prog 43 #[.pointer (some ⟨w.heap.size, 0, none⟩), .slice la L.length lc] w4 fun e w5 => e = .returned (.tuple #[]) ∧ LogV w5 w.heap.size d (g.pass L) ∧ Turn (fun k => k = w.heap.size) w4 w5 := fun w4 h1 h2 => pass_any w.heap.size d g la L lc w4 h1 HI.out.ok (by have := HI.out.ok.top; omega) h2
      have HPA := (show Hid _ from hpa)
      clear hpa
      go_wp2_with (first
        | (at_builtin; rw [← HW3.out]; refine wpList_append_fms rfl (.tmp 46) (.tmp 48) rfl w.heap.size _ acc rfl HF3.out w2.heap.size la L lc rfl hc3 HS3.out HLB.out (by omega) hbase ?_; rintro v4 w4 hF4 hg4 ⟨a4, c4, rfl⟩; have hlog4 : LogV w4 w.heap.size d g := (hg4.block _ (Array.getElem?_eq_some_iff.1 HH.out.2).1 (fun e => (HOB.out _ e.symm).2.2 rfl)).trans HH.out.2; have hs4 := HS3.out.grown hg4 (fun hn b off e => (HLB.out hn b off e).1); have hpa := HPA.out w4 hlog4 hs4)
        | (go_at_call 43; refine Calls.mono hpa ?_; rintro e w5 ⟨rfl, hlog5, ht5⟩))
      have hI := HI.out
      obtain ⟨f', rfl⟩ : ∃ f', f = f' + 1 := ⟨f - 1, by have := hI.fuel; omega⟩
      have ha := hI.all
      rw [frs_some f' HX.out.symm] at ha
      have hne4 := fms_ne hF4 hlog4
      have hfm := fms_turn hF4 hlog4 hne4 ht5
      have hb4 : Below w.heap.size w w4 := HH.out.1.grown hg4 hbase (fun gg e => (HOB.out gg e).1)
      have e1 : (acc ++ [L]).length = acc.length + 1 := by simp
      refine ⟨⟨g.pass L, acc ++ [L], f', a4, c4, by rw [e1], ?_⟩, by show 5000 - (acc.length + 1) < 5000 - acc.length; omega⟩
      rw [e1]
      refine ⟨hfm, hlog5, ⟨?_, hI.ok.top, hI.ok.ep, ?_⟩, hI.fin, ?_, ?_, ?_, ?_, hne4, hb4.trans (ht5.below (fun k hk => by rw [hk]; exact Nat.le_refl _) hb4.size)⟩
      · exact q2
      · show g.nx + 1 < 4294967296; rw [← hI.cnt]; omega
      · rw [e1]; show acc.length + 1 = g.nx + 1; rw [hI.cnt]
      · show g.nx + 1 ≤ g.at' + needN L; have := hI.nx; omega
      · show g.fin - (g.at' + needN L) < f'; have := hI.fuel; omega
      · rw [ha]; simp
end Go.Proofs.Ytecljiefljgfmaa
