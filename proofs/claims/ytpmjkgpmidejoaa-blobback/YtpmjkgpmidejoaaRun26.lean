/-
  What BlobBack holds between its rounds: the Blobs, its Refs and its data.
-/
import Derived.Test.YtpmjkgpmidejoaaRun24
import Derived.Test.YtpmjkgpmidejoaaRun25
namespace Go.Proofs.Ytpmjkgpmidejoaa
open Go.RowKit

theorem info38 : (Try.prog.info? 38).map (fun i => (i.zero, i.size, i.bytes)) = some (some (.slice none 0 0), 1, 24) := by kernel_rfl

theorem chain_mem : ∀ (rs : List (Nat × Nat)) (x y : Nat), chain x rs y → ∀ p ∈ rs, (p.2 = 0 → p.1 = 0) ∧ (p.2 ≠ 0 → x ≤ p.1 ∧ p.1 + nsec p.2 ≤ y)
  | [], _, _, _, p, hp => by simp at hp
  | q :: r, x, y, h, p, hp => by
    rcases h with ⟨z1, z2, h⟩ | ⟨z1, z2, h⟩
    · rcases List.mem_cons.1 hp with rfl | hp
      · exact ⟨fun _ => z2, fun h2 => absurd z1 h2⟩
      · exact chain_mem r x y h p hp
    · have hle := chain_le _ _ _ h
      rcases List.mem_cons.1 hp with rfl | hp
      · exact ⟨fun h2 => absurd h2 z1, fun _ => ⟨by omega, by omega⟩⟩
      · have := chain_mem r _ y h p hp
        exact ⟨this.1, fun h2 => ⟨by have := (this.2 h2).1; omega, (this.2 h2).2⟩⟩
/-- Refs that are marked one by one where the taken units lie ahead. -/
theorem chain_mark : ∀ (rs : List (Nat × Nat)) (x y N : Nat), chain x rs y → y ≤ N → markAll (pre x (N - x)) (rs.map fun p => ((p.1 : Int), (p.2 : Int))) = some (pre y (N - y))
  | [], x, y, N, h, _ => by rw [show x = y from h]; rfl
  | p :: r, x, y, N, h, hy => by
    rw [List.map_cons, markAll]
    dsimp only
    rcases h with ⟨z1, z2, h⟩ | ⟨z1, z2, h⟩
    · rw [z1, z2, if_pos (by simp [markR]), show markL (pre x (N - x)) ((0 : Nat) : Int) ((0 : Nat) : Int) = pre x (N - x) from by simp [markL]]
      exact chain_mark r x y N h hy
    · have hle := chain_le _ _ _ h
      have hK := nsec_pos z1
      have hw : Al.winP (pre x (N - x)) (nsec p.2) x := (pre_win hK).2 ⟨Nat.le_refl _, by omega⟩
      have ht := Al.win_turn hK hw
      rw [z2, if_pos (by rw [markR, secI_nat, ht, Bool.or_true]), markL, if_neg (by omega), secI_nat, ht, if_pos rfl, Int.toNat_natCast, Int.toNat_natCast, pre_put (by omega), show N - x - nsec p.2 = N - (x + nsec p.2) from by omega]
      exact chain_mark r _ y N h hy
theorem crash_calm0 {M : D} (h : Calm M) : (M.crash []).S = M.S ∧ Calm (M.crash []) := by
  have e : (M.crash []).S = M.S := by
    show app M.L (kept [] M.C) = M.S
    rw [h.c, h.l]
    rfl
  exact ⟨e, ⟨rfl, rfl, rfl, by rw [e]; exact h.sz⟩⟩

/-- The law's Blobs, its list of Refs and its list of data. -/
structure BI (w : World) (b d s : Nat) (M : D) (L : List Bool) (rs : List (Nat × Nat)) (v1 : Value) (dvs : List Value) (v2 : Value) (wr : World) : Prop where
  bl : BL w (fun k => v1.ownBlock = some k ∨ v2.ownBlock = some k) b d s 10 M L wr
  r1 : wr.ownsRow w.heap.size 40 2 v1 rs.length (rfs rs)
  r2 : wr.ownsRow w.heap.size 38 1 v2 dvs.length dvs
  ne : ∀ k, v1.ownBlock = some k → v2.ownBlock ≠ some k
theorem BI.below {w : World} {b d s : Nat} {M : D} {L : List Bool} {rs : List (Nat × Nat)} {v1 : Value} {dvs : List Value} {v2 : Value} {wr w' : World} (h : BI w b d s M L rs v1 dvs v2 wr) (hb : Below wr.heap.size wr w') : BI w b d s M L rs v1 dvs v2 w' :=
  ⟨h.bl.below hb, keeps_below hb _ _ _ _ _ _ h.r1, keeps_below hb _ _ _ _ _ _ h.r2, h.ne⟩
theorem BI.step {w : World} {b d s : Nat} {M M' : D} {L L' : List Bool} {rs : List (Nat × Nat)} {v1 : Value} {dvs : List Value} {v2 : Value} {wr w' : World} (h : BI w b d s M L rs v1 dvs v2 wr) (hb : BL w (fun k => v1.ownBlock = some k ∨ v2.ownBlock = some k) b d s 10 M' L' w') (hs : Same (fun k => v1.ownBlock = some k ∨ v2.ownBlock = some k) wr w') : BI w b d s M' L' rs v1 dvs v2 w' :=
  ⟨hb, owns_other h.r1 fun j hj => hs j (.inl hj), owns_other h.r2 fun j hj => hs j (.inr hj), h.ne⟩
/-- One Ref more. -/
theorem BI.snoc1 {w : World} {b d s : Nat} {M : D} {L : List Bool} {rs : List (Nat × Nat)} {v1 : Value} {dvs : List Value} {v2 : Value} {w1 : World} (h0 : BI w b d s M L rs v1 dvs v2 w1) (S Z : Nat) (hn : rs.length ≤ 1000) :
    ∃ a' c' w', (∀ ty, (Builtin.append_ #[22, 22] ty #[v1, .slice (some ⟨w1.heap.size, 0, none⟩) 1 1]).run Try.prog (w1.alloc (.cells #[.int .i64 (S : Int), .int .i64 (Z : Int)] 40)) = .ok (.slice a' (rs.length + 1) c') w') ∧ BI w b d s M L (rs ++ [(S, Z)]) (.slice a' (rs.length + 1) c') dvs v2 w' := by
  obtain ⟨i0, hi, hz0, hz1, hz2⟩ := info_parts info40
  have hA : Below w1.heap.size w1 (w1.alloc (.cells #[.int .i64 (S : Int), .int .i64 (Z : Int)] 40)) := (Below.refl _ w1).alloc (Nat.le_refl _) _
  have h1 := h0.below hA
  have hnews : ∀ j u, (rfs [(S, Z)])[j]? = some u → (w1.alloc (.cells #[.int .i64 (S : Int), .int .i64 (Z : Int)] 40)).cell? ((⟨w1.heap.size, 0, none⟩ : Addr).add j) = some u := by
    intro j u hj
    rw [Addr.add_lit, cell_blk (heap_alloc_new w1 _), Nat.zero_add]
    simpa [rfs] using hj
  have hzw := h0.bl.old.size
  obtain ⟨v', w', hr, h2, h3, h4⟩ := append_own2 (P := Try.prog) (w1.alloc (.cells #[.int .i64 (S : Int), .int .i64 (Z : Int)] 40)) w.heap.size 22 0 40 i0 _ 2 16 Try.underlying22 hi hz0 hz1 hz2 rfl (by decide) v1 rs.length (rfs rs) h1.r1 ⟨w1.heap.size, 0, none⟩ 1 1 (rfs [(S, Z)]) rfl hnews (by simp [rfs, Value.oneCell']) (by unfold maxLen; omega) (by omega) (by simp; omega)
  obtain ⟨a', c', rfl⟩ : ∃ a c, v' = .slice a (rs.length + 1) c := Al.own_slice h2
  refine ⟨a', c', w', fun ty => hr, ?_, ?_, ?_, ?_⟩
  · refine h1.bl.grown ((Turn.of_grown h3 fun k hk => .inl hk)) (fun k hk => hk.elim (fun h => (owns_lt h1.r1 k h).1) (fun h => (owns_lt h1.r2 k h).1)) (fun k hk => ?_)
    rcases hk with hk | hk
    · rcases h4 with h4 | h4
      · exact .inl (.inl (h4 ▸ hk))
      · exact .inr ⟨h4 k hk, (owns_lt h2 k hk).2⟩
    · exact .inl (.inr hk)
  · rw [List.length_append, rfs_app]
    exact h2
  · exact owns_other h1.r2 fun j hj => h3.block j (owns_lt h1.r2 j hj).2 (fun e => h1.ne j e.symm hj)
  · intro k hk hk2
    rcases h4 with h4 | h4
    · exact h1.ne k (h4 ▸ hk) hk2
    · have := h4 k hk
      have := (owns_lt h1.r2 k hk2).2
      omega
/-- One data more. -/
theorem BI.snoc2 {w : World} {b d s : Nat} {M : D} {L : List Bool} {rs : List (Nat × Nat)} {v1 : Value} {dvs : List Value} {v2 : Value} {w1 : World} (h0 : BI w b d s M L rs v1 dvs v2 w1) (xa : Option Addr) (xn xc : Nat) (hn : dvs.length ≤ 1000) :
    ∃ a' c' w', (∀ ty, (Builtin.append_ #[71, 71] ty #[v2, .slice (some ⟨w1.heap.size, 0, none⟩) 1 1]).run Try.prog (w1.alloc (.cells #[.slice xa xn xc] 38)) = .ok (.slice a' (dvs.length + 1) c') w') ∧ BI w b d s M L rs v1 (dvs ++ [.slice xa xn xc]) (.slice a' (dvs.length + 1) c') w' := by
  obtain ⟨i0, hi, hz0, hz1, hz2⟩ := info_parts info38
  have hA : Below w1.heap.size w1 (w1.alloc (.cells #[.slice xa xn xc] 38)) := (Below.refl _ w1).alloc (Nat.le_refl _) _
  have h1 := h0.below hA
  have hnews : ∀ j u, ([.slice xa xn xc] : List Value)[j]? = some u → (w1.alloc (.cells #[.slice xa xn xc] 38)).cell? ((⟨w1.heap.size, 0, none⟩ : Addr).add j) = some u := by
    intro j u hj
    rw [Addr.add_lit, cell_blk (heap_alloc_new w1 _), Nat.zero_add]
    simpa using hj
  have hzw := h0.bl.old.size
  obtain ⟨v', w', hr, h2, h3, h4⟩ := append_own2 (P := Try.prog) (w1.alloc (.cells #[.slice xa xn xc] 38)) w.heap.size 71 0 38 i0 _ 1 24 Try.underlying71 hi hz0 hz1 hz2 rfl (by decide) v2 dvs.length dvs h1.r2 ⟨w1.heap.size, 0, none⟩ 1 1 [.slice xa xn xc] rfl hnews (by simp [Value.oneCell']) (by unfold maxLen; omega) (by omega) (by simp; omega)
  obtain ⟨a', c', rfl⟩ : ∃ a c, v' = .slice a (dvs.length + 1) c := Al.own_slice h2
  refine ⟨a', c', w', fun ty => hr, ?_, ?_, ?_, ?_⟩
  · refine h1.bl.grown ((Turn.of_grown h3 fun k hk => .inr hk)) (fun k hk => hk.elim (fun h => (owns_lt h1.r1 k h).1) (fun h => (owns_lt h1.r2 k h).1)) (fun k hk => ?_)
    rcases hk with hk | hk
    · exact .inl (.inl hk)
    · rcases h4 with h4 | h4
      · exact .inl (.inr (h4 ▸ hk))
      · exact .inr ⟨h4 k hk, (owns_lt h2 k hk).2⟩
  · exact owns_other h1.r1 fun j hj => h3.block j (owns_lt h1.r1 j hj).2 (fun e => h1.ne j hj e.symm)
  · rw [List.length_append]
    exact h2
  · intro k hk hk2
    rcases h4 with h4 | h4
    · exact h1.ne k hk (h4 ▸ hk2)
    · have := h4 k hk2
      have := (owns_lt h1.r1 k hk).2
      omega
/-- What the lists tell. -/
structure PI (w : World) (M : D) (u : Nat) (rs : List (Nat × Nat)) (ds : List (List UInt8)) (dvs : List Value) : Prop where
  calm : Calm M
  len : M.S.length = 80
  u60 : u ≤ 60
  ch : chain 0 rs u
  l1 : rs.length = ds.length
  l2 : dvs.length = ds.length
  sz : ∀ j (h : j < ds.length), rs[j].2 = ds[j].length
  lie : ∀ j (h : j < ds.length), Lies M.S (10 + rs[j].1) ds[j]
  dv : ∀ j (h : j < ds.length), ∃ a c, dvs[j] = .slice a ds[j].length c ∧ Bytes w a ds[j]
/-- A Write whose data is not kept, or none: what was there lies as it lay. -/
theorem PI.put {w : World} {M : D} {u : Nat} {rs : List (Nat × Nat)} {ds : List (List UInt8)} {dvs : List Value} (h : PI w M u rs ds dvs) (l : List UInt8) (hl : u + nsec l.length ≤ 60) : PI w (putD M (10 + u) l) u rs ds dvs := by
  refine ⟨putD_calm h.calm _ _, by rw [putD_length, h.len], h.u60, h.ch, h.l1, h.l2, h.sz, fun j hj => ?_, h.dv⟩
  have hl1 := h.l1
  have hm := chain_mem rs 0 u h.ch rs[j] (List.getElem_mem _)
  by_cases hz : rs[j].2 = 0
  · intro i hi
    rw [← h.sz j hj, hz] at hi
    simp [nsec] at hi
  · exact putD_other (by rw [h.len]; omega) (h.lie j hj) (by rw [← h.sz j hj]; have := (hm.2 hz).2; omega)
theorem PI.snoc {w : World} {M : D} {u : Nat} {rs : List (Nat × Nat)} {ds : List (List UInt8)} {dvs : List Value} (h : PI w M u rs ds dvs) (l : List UInt8) (S : Nat) (a : Option Addr) (c : Nat) (hb : Bytes w a l) (hl : u + nsec l.length ≤ 60) (hS : (l.length = 0 ∧ S = 0) ∨ (l.length ≠ 0 ∧ S = u)) (hlie : Lies M.S (10 + S) l) :
    PI w M (u + nsec l.length) (rs ++ [(S, l.length)]) (ds ++ [l]) (dvs ++ [.slice a l.length c]) := by
  have hl1 := h.l1
  have hl2 := h.l2
  refine ⟨h.calm, h.len, hl, ?_, by simp [h.l1], by simp [h.l2], fun j hj => ?_, fun j hj => ?_, fun j hj => ?_⟩
  · rcases hS with ⟨h1, rfl⟩ | ⟨h1, rfl⟩
    · rw [h1]
      exact chain_none rs 0 u h.ch
    · exact chain_some h1 rs 0 S h.ch
  · by_cases hjl : j < ds.length
    · rw [List.getElem_append_left (by omega), List.getElem_append_left hjl]
      exact h.sz j hjl
    · obtain rfl : j = ds.length := by simp at hj; omega
      simp [← h.l1]
  · by_cases hjl : j < ds.length
    · rw [List.getElem_append_left (by omega), List.getElem_append_left hjl]
      exact h.lie j hjl
    · obtain rfl : j = ds.length := by simp at hj; omega
      simpa [← h.l1] using hlie
  · by_cases hjl : j < ds.length
    · rw [List.getElem_append_left (by omega), List.getElem_append_left hjl]
      exact h.dv j hjl
    · obtain rfl : j = ds.length := by simp at hj; omega
      refine ⟨a, c, ?_, ?_⟩
      · simp [← h.l2]
      · simpa using hb
end Go.Proofs.Ytpmjkgpmidejoaa
/-
  BlobBack walked.
-/
namespace Go.Proofs.Ytpmjkgpmidejoaa
open Go.RowKit

/-- What a Write does where the taken units lie ahead. -/
theorem bi_write {w wr : World} {b d s u v : Nat} {M : D} {rs : List (Nat × Nat)} {v1 : Value} {dvs : List Value} {v2 : Value} (h : BI w b d s M (pre u v) rs v1 dvs v2 wr) (hM : Calm M) (hin : 10 + (u + v) ≤ M.S.length) (a : Option Addr) (l : List UInt8) (cap : Nat) (hb : Bytes wr a l) (hab : l ≠ [] → ∀ ad, a = some ad → ad.block < w.heap.size) (hcap : l.length ≤ cap) (hlm : l.length ≤ 9223372036854775807) :
    Calls Try.prog 13 #[.pointer (some ⟨b, 0, none⟩), .slice a l.length cap] wr fun e w' =>
      (l.length = 0 ∧ e = .returned (.tuple #[rv 0 0, .int .i64 0]) ∧ BI w b d s M (pre u v) rs v1 dvs v2 w') ∨
      (l.length ≠ 0 ∧ nsec l.length ≤ v ∧ e = .returned (.tuple #[rv (u : Int) (l.length : Int), .int .i64 0]) ∧ BI w b d s (putD M (10 + u) l) (pre (u + nsec l.length) (v - nsec l.length)) rs v1 dvs v2 w') ∨
      (l.length ≠ 0 ∧ v < nsec l.length ∧ e = .returned (.tuple #[rv 0 0, .int .i64 60]) ∧ BI w b d s M (pre u v) rs v1 dvs v2 w') := by
  refine (bl_write w wr _ b d s 10 M (pre u v) h.bl a l cap hb (fun hne ad e => .inl (hab hne ad e)) hcap hlm (by rw [hM.c]; simp) (by omega)).mono ?_
  rintro e w' ⟨rfl, q1, q2⟩
  have e1 := wr_pre (u := u) (v := v) (fr := 10) l hM hin
  by_cases h0 : l.length = 0
  · rw [if_pos h0] at e1
    rw [e1] at q1 ⊢
    exact .inl ⟨h0, rfl, h.step q1 q2⟩
  · rw [if_neg h0] at e1
    by_cases h1 : nsec l.length ≤ v
    · rw [if_pos h1] at e1
      rw [e1] at q1 ⊢
      exact .inr (.inl ⟨h0, h1, rfl, h.step q1 q2⟩)
    · rw [if_neg h1] at e1
      rw [e1] at q1 ⊢
      exact .inr (.inr ⟨h0, by omega, rfl, h.step q1 q2⟩)
theorem Bools.at {w : World} {a : Option Addr} {l : List Bool} (h : Bools w a l) {j : Nat} (hj : j < l.length) : ∃ b off, a = some ⟨b, off, none⟩ ∧ ∀ w', Below w.heap.size w w' → w'.cell? ⟨b, off + j, none⟩ = some (.bool l[j]) := by
  rcases h with h0 | ⟨b, off, rfl, hb, hc⟩
  · rw [h0] at hj; simp at hj
  · exact ⟨b, off, rfl, fun w' hw => (hw.cell (p := ⟨b, off + j, none⟩) hb).trans (hc j hj)⟩

/-- Behind a Write that went well: the data is dropped, or kept. -/
structure WI (w : World) (b d s : Nat) (u K n S : Nat) (l : List UInt8) (rs : List (Nat × Nat)) (v1 : Value) (ds : List (List UInt8)) (dvs : List Value) (v2 : Value) (M : D) (w3 : World) : Prop where
  bi : BI w b d s M (pre (u + K) (60 - (u + K))) rs v1 dvs v2 w3
  pi : PI w M u rs ds dvs
  hS : (l.length = 0 ∧ S = 0) ∨ (l.length ≠ 0 ∧ S = u)
  lie : Lies M.S (10 + S) l
  hn : n = l.length
  hK : K = nsec n
  le : u + K ≤ 60
theorem WI.drop {w : World} {b d s : Nat} {u K n S : Nat} {l : List UInt8} {rs : List (Nat × Nat)} {v1 : Value} {ds : List (List UInt8)} {dvs : List Value} {v2 : Value} {M : D} {w3 : World} (h : WI w b d s u K n S l rs v1 ds dvs v2 M w3) (w4 : World) (hb : Below w3.heap.size w3 w4) :
    Calls Try.prog 17 #[.pointer (some ⟨b, 0, none⟩), rv (S : Int) (n : Int)] w4 fun e w5 => e = .returned (.int .i64 0) ∧ BI w b d s M (pre u (60 - u)) rs v1 dvs v2 w5 ∧ PI w M u rs ds dvs := by
  have hle := h.le
  have hnb : n ≤ 15120 := by
    have := h.hK
    unfold nsec at this
    omega
  have hSb : S ≤ 60 := by have := h.hS; omega
  have hbi := h.bi.below hb
  refine (bl_drop w w4 _ b d s 10 M (pre (u + K) (60 - (u + K))) hbi.bl (S : Int) (n : Int) (by omega) (by omega)).mono ?_
  rintro e w5 ⟨rfl, q1, q2⟩
  rcases h.hS with ⟨h1, h2⟩ | ⟨h1, h2⟩
  · have hn0 : n = 0 := by rw [h.hn, h1]
    have hK0 : K = 0 := by rw [h.hK, hn0]; rfl
    rw [h2, hn0] at q1 ⊢
    rw [show ((0 : Nat) : Int) = 0 from rfl] at q1 ⊢
    rw [(none_give _).1, if_pos rfl]
    rw [(none_give _).2, hK0, Nat.add_zero] at q1
    refine ⟨rfl, ?_, h.pi⟩
    have h3 := hbi
    rw [hK0, Nat.add_zero] at h3
    exact h3.step q1 q2
  · have hn0 : n ≠ 0 := by rw [h.hn]; exact h1
    have hg := pre_giveR (u := u + K) (v := 60 - (u + K)) (S := S) (Z := n) (by rw [h2, ← h.hK]; omega) (fun e => absurd e hn0)
    have hl := pre_giveL (u := u + K) (v := 60 - (u + K)) (S := S) (Z := n) (by rw [h2, ← h.hK]) hn0
    rw [hg, if_pos rfl]
    rw [hl, ← h.hK, h2, show K + (60 - (u + K)) = 60 - u from by omega] at q1
    exact ⟨rfl, hbi.step q1 q2, h.pi⟩
/-- Kept: the two lists grow. -/
theorem WI.keep {w : World} {b d s : Nat} {u K n S : Nat} {l : List UInt8} {rs : List (Nat × Nat)} {v1 : Value} {ds : List (List UInt8)} {dvs : List Value} {v2 : Value} {M : D} {w3 : World} (h : WI w b d s u K n S l rs v1 ds dvs v2 M w3) (hn20 : rs.length ≤ 20) (a : Option Addr) (c : Nat) (hby : Bytes w a l) :
    ∃ a1 c1 w4, (∀ ty, (Builtin.append_ #[22, 22] ty #[v1, .slice (some ⟨w3.heap.size + 1, 0, none⟩) 1 1]).run Try.prog ((w3.alloc (.cells #[.int .i64 (S : Int), .int .i64 (n : Int)] 40)).alloc (.cells #[.int .i64 (S : Int), .int .i64 (n : Int)] 40)) = .ok (.slice a1 (rs.length + 1) c1) w4) ∧ Below w.heap.size w w4 ∧
      ∃ a2 c2 w5, (∀ ty, (Builtin.append_ #[71, 71] ty #[v2, .slice (some ⟨w4.heap.size, 0, none⟩) 1 1]).run Try.prog (w4.alloc (.cells #[.slice a n c] 38)) = .ok (.slice a2 (dvs.length + 1) c2) w5) ∧ Below w.heap.size w w5 ∧
        BI w b d s M (pre (u + K) (60 - (u + K))) (rs ++ [(S, n)]) (.slice a1 (rs.length + 1) c1) (dvs ++ [.slice a n c]) (.slice a2 (dvs.length + 1) c2) w5 ∧ PI w M (u + K) (rs ++ [(S, n)]) (ds ++ [l]) (dvs ++ [.slice a n c]) := by
  have hA : Below w3.heap.size w3 (w3.alloc (.cells #[.int .i64 (S : Int), .int .i64 (n : Int)] 40)) := (Below.refl _ w3).alloc (Nat.le_refl _) _
  obtain ⟨a1, c1, w4, e1, h1⟩ := (h.bi.below hA).snoc1 S n (by omega)
  rw [World.size_alloc] at e1
  have hl := h.pi.l1
  have hl2 := h.pi.l2
  obtain ⟨a2, c2, w5, e2, h2⟩ := h1.snoc2 a n c (by omega)
  refine ⟨a1, c1, w4, e1, h1.bl.old, a2, c2, w5, e2, h2.bl.old, h2, ?_⟩
  have hle := h.le
  have hK := h.hK
  have := h.pi.snoc l S a c hby (by rw [← h.hn, ← hK]; exact hle) h.hS h.lie
  rwa [← h.hn, ← hK] at this
end Go.Proofs.Ytpmjkgpmidejoaa
