/-
  BlobBack's second half: the crash, the store that is opened anew, the reads.
-/
import Derived.Test.YtpmjkgpmidejoaaRun26
namespace Go.Proofs.Ytpmjkgpmidejoaa
open Go.RowKit

theorem bl_crash (w wr : World) (K : Nat → Prop) (b d s fr : Nat) (M : D) (L : List Bool) (h : BL w K b d s fr M L wr) (hC : M.C.length ≤ 80000) :
    Calls Try.prog 19 #[.pointer (some ⟨d, 0, none⟩), .slice none 0 0] wr fun e w' => e = .returned (.tuple #[]) ∧ BL w K b d s fr (M.crash []) L w' ∧ Same K wr w' := by
  obtain ⟨F, h1, h2⟩ := h.st
  refine (crash_any d none [] 0 wr F M h1.dev (.inl rfl) (fun h3 => by simp at h3) (by omega)).mono ?_
  rintro e w' ⟨rfl, q1, q2⟩
  have hz := h.old.size
  refine ⟨rfl, ⟨⟨_, ⟨h1.blb.kept (q2.block b h1.blb.lt h1.nb), q1, h1.sp.kept (q2.block s h1.sp.lt h1.ns), fun h3 => h3.elim h1.nb (fun h4 => by have := h1.blb.lt; omega), fun h3 => h3.elim h1.ns (fun h4 => by have := h1.sp.lt; omega), h1.bs⟩, fun k hk => hk.elim (h2 k) (fun h3 => ⟨by omega, fun h4 => by have := h.hk k h4; omega⟩)⟩, h.hb, h.hs, fun k hk => by have := h.hk k hk; have := q2.size; omega, h.old.trans (q2.below (fun k hk => (h2 k hk).1) hz)⟩, fun k hk => q2.block k (h.hk k hk) (fun h3 => (h2 k h3).2 hk)⟩
theorem PI.crash {w : World} {M : D} {u : Nat} {rs : List (Nat × Nat)} {ds : List (List UInt8)} {dvs : List Value} (h : PI w M u rs ds dvs) : PI w (M.crash []) u rs ds dvs := by
  obtain ⟨e, hc⟩ := crash_calm0 h.calm
  exact ⟨hc, by rw [e, h.len], h.u60, h.ch, h.l1, h.l2, h.sz, fun j hj => by rw [e]; exact h.lie j hj, h.dv⟩

/-- Two Blobs on one device, and the two lists. -/
structure TBk (w : World) (b c d s s2 : Nat) (M : D) (L : List Bool) (rs : List (Nat × Nat)) (v1 : Value) (dvs : List Value) (v2 : Value) (wr : World) : Prop where
  two : ∃ F, St wr b d s 10 F M L ∧ St wr c d s2 10 F M L
  r1 : wr.ownsRow w.heap.size 40 2 v1 rs.length (rfs rs)
  r2 : wr.ownsRow w.heap.size 38 1 v2 dvs.length dvs
  old : Below w.heap.size w wr
theorem TBk.below {w : World} {b c d s s2 : Nat} {M : D} {L : List Bool} {rs : List (Nat × Nat)} {v1 : Value} {dvs : List Value} {v2 : Value} {wr w' : World} (h : TBk w b c d s s2 M L rs v1 dvs v2 wr) (hb : Below wr.heap.size wr w') : TBk w b c d s s2 M L rs v1 dvs v2 w' := by
  obtain ⟨F, h1, h2⟩ := h.two
  exact ⟨⟨F, h1.below hb, h2.below hb⟩, keeps_below hb _ _ _ _ _ _ h.r1, keeps_below hb _ _ _ _ _ _ h.r2, h.old.trans (hb.mono h.old.size)⟩

theorem bi_refs {w : World} {rs : List (Nat × Nat)} {wr : World} {va : Option Addr} {vc : Nat} (h : wr.ownsRow w.heap.size 40 2 (.slice va rs.length vc) rs.length (rfs rs)) (hb : ∀ p ∈ rs, p.1 ≤ 100000 ∧ p.2 ≤ 100000) : Refs wr va (rs.map fun p => ((p.1 : Int), (p.2 : Int))) := by
  refine ⟨fun r hr => ?_, ?_⟩
  · obtain ⟨p, hp, rfl⟩ := List.mem_map.1 hr
    have := hb p hp
    constructor <;> dsimp only <;> omega
  · by_cases h0 : rs = []
    · left; rw [h0]; rfl
    · right
      have hl : 0 < rs.length := List.length_pos_iff.2 h0
      obtain ⟨g, c, e, h1, h2, h3⟩ := owns_head h hl
      simp only [Value.slice.injEq] at e
      obtain ⟨rfl, _, rfl⟩ := e
      refine ⟨g, 0, rfl, h3, fun j hj => ?_⟩
      have hj' : j < rs.length := by simpa using hj
      rw [Nat.zero_add]
      simp only [List.getElem_map]
      exact ⟨owns_cell h (rfs_get hj').1, owns_cell h (rfs_get hj').2⟩

theorem bi_open {w w3 : World} {b d s u : Nat} {M : D} {rs : List (Nat × Nat)} {va : Option Addr} {vc : Nat} {ds : List (List UInt8)} {dvs : List Value} {v2 : Value} (h : BI w b d s M (pre u (60 - u)) rs (.slice va rs.length vc) dvs v2 w3) (hp : PI w M u rs ds dvs) (hl : rs.length ≤ 20) :
    Calls Try.prog 11 #[.pointer (some ⟨d, 0, none⟩), .int .i64 10, .int .i64 60, .slice va rs.length vc] w3 fun e w4 => ∃ c s2, e = .returned (.tuple #[.pointer (some ⟨c, 0, none⟩), .int .i64 0]) ∧ TBk w b c d s s2 M (pre u (60 - u)) rs (.slice va rs.length vc) dvs v2 w4 := by
  obtain ⟨F, h1, h2⟩ := h.bl.st
  have hml : (rs.map fun p => ((p.1 : Int), (p.2 : Int))).length = rs.length := by simp
  have hu := hp.u60
  have hr := bi_refs h.r1 (fun p hpm => by
    have hm := chain_mem rs 0 u hp.ch p hpm
    by_cases hz : p.2 = 0
    · have := hm.1 hz; omega
    · have := (hm.2 hz).2
      have h3 : p.2 ≤ 252 * nsec p.2 := by unfold nsec; omega
      omega)
  have ho := bopen_ok w3 d 10 60 F M h1.dev (by rw [hp.calm.l, hp.len]; omega) va _ vc hr (by rw [hml]; omega)
  have hmk := chain_mark rs 0 u 60 hp.ch hu
  rw [Nat.sub_zero, ← pre_new] at hmk
  rw [hml, hmk] at ho
  refine ho.mono ?_
  rintro e w4 ⟨hb, ⟨L', c, s2, e1, rfl, q1, q2, q3, q4, q5⟩ | ⟨e1, _⟩⟩
  · obtain rfl := Option.some.inj e1
    exact ⟨c, s2, rfl, ⟨F, h1.below hb, ⟨q1, h1.dev.below hb, q2, fun hF => by have := h1.dev.2.1 c hF; omega, fun hF => by have := h1.dev.2.1 s2 hF; omega, q5⟩⟩, keeps_below hb _ _ _ _ _ _ h.r1, keeps_below hb _ _ _ _ _ _ h.r2, h.bl.old.trans (hb.mono h.bl.old.size)⟩
  · cases e1

/-- A Read of data that lies there. -/
theorem rd_lies {wr : World} {x d sx u : Nat} {F : Nat → Prop} {M : D} (h : St wr x d sx 10 F M (pre u (60 - u))) (hc : Calm M) (hlen : M.S.length = 80) (hu : u ≤ 60) (S : Nat) (l : List UInt8) (hl : Lies M.S (10 + S) l) (hS : (l.length = 0 → S = 0) ∧ (l.length ≠ 0 → S + nsec l.length ≤ u)) (off n : Nat) (hle : off + n ≤ l.length) :
    Calls Try.prog 15 #[.pointer (some ⟨x, 0, none⟩), rv (S : Int) (l.length : Int), .int .i64 (off : Int), .int .i64 (n : Int)] wr fun e w' => ∃ a c, e = .returned (.tuple #[.slice a n c, .int .i64 0]) ∧ Bytes w' a ((l.drop off).take n) ∧ (a = none → c = 0) ∧ Below wr.heap.size wr w' := by
  have hg : giveR (pre u (60 - u)) (S : Int) (l.length : Int) = true := by
    refine pre_giveR ?_ hS.1
    by_cases h0 : l.length = 0
    · have := hS.1 h0
      rw [h0, this]
      simp [nsec]
    · exact hS.2 h0
  refine (bread_ok wr x d sx 10 F M (pre u (60 - u)) h S l.length off n hg hle hc.sz (by rw [pre_length, hlen]; omega)).mono ?_
  rw [read_lies hl (by rw [hc.st]; omega) off n hle]
  rintro e w' ⟨v, rfl, q1, q2⟩
  obtain ⟨a, c, rfl, q3, q4, q5, q6⟩ := q1.open
  refine ⟨a, c, ?_, q3, q4, q2⟩
  rw [show ((l.drop off).take n).length = n from by rw [List.length_take, List.length_drop]; omega]
end Go.Proofs.Ytpmjkgpmidejoaa
