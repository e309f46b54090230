/-
  Trees told plainly: what makes one valid, what it holds, and how a change makes another one.
-/
import Derived.Test.YtpophalhmjchkaaOrd
namespace Go.Proofs.Ytpophalhmjchkaa

/-- A node of height h whose keys lie between bounds; its own size is not bounded here, those below it are. -/
def Val : Nat → Option ByteArray → Option ByteArray → T → Prop
  | 0, lo, hi, .leaf ps => LT lo hi ∧ Srt ps ∧ ∀ p ∈ ps, InB lo hi p.1
  | h + 1, lo, hi, .inner bs cs => Row (Val h) lo bs cs hi ∧ ∀ c ∈ cs, 4 ≤ c.sz ∧ c.sz ≤ 8
  | _, _, _, _ => False
def toL : Nat → T → List KV
  | 0, .leaf ps => ps
  | h + 1, .inner _ cs => cs.flatMap (toL h)
  | _, _ => []

theorem Val.lt : ∀ {h : Nat} {lo hi : Option ByteArray} {t : T}, Val h lo hi t → LT lo hi
  | 0, _, _, .leaf _, h => h.1
  | _ + 1, _, _, .inner _ _, h => Row.lt (fun _ _ _ hc => Val.lt hc) h.1
  | 0, _, _, .inner _ _, h => h.elim
  | _ + 1, _, _, .leaf _, h => h.elim

theorem srt_app {l r : List KV} (hl : Srt l) (hr : Srt r) (h : ∀ p ∈ l, ∀ q ∈ r, klt p.1 q.1) : Srt (l ++ r) := List.pairwise_append.2 ⟨hl, hr, h⟩
theorem row_list {h : Nat} (ih : ∀ lo hi t, Val h lo hi t → Srt (toL h t) ∧ ∀ p ∈ toL h t, InB lo hi p.1) : ∀ {bs : List ByteArray} {cs : List T} {lo hi : Option ByteArray}, Row (Val h) lo bs cs hi → Srt (cs.flatMap (toL h)) ∧ ∀ p ∈ cs.flatMap (toL h), InB lo hi p.1
  | [], [c], lo, hi, hr => by simpa using ih lo hi c hr
  | b :: bs, c :: cs, lo, hi, hr => by
    obtain ⟨h1, h2⟩ := ih lo (some b) c hr.1
    obtain ⟨h3, h4⟩ := row_list ih hr.2
    have l1 := hr.1.lt
    have l2 := Row.lt (fun _ _ _ hc => Val.lt hc) hr.2
    rw [List.flatMap_cons]
    refine ⟨srt_app h1 h3 (fun p hp q hq => klt_of_lt_le ((h2 p hp).2 b rfl) ((h4 q hq).1 b rfl)), fun p hp => ?_⟩
    rcases List.mem_append.1 hp with hp | hp
    · exact (h2 p hp).left l2
    · exact (h4 p hp).right l1
  | [], [], _, _, hr => hr.elim
  | [], _ :: _ :: _, _, _, hr => hr.elim
  | _ :: _, [], _, _, hr => hr.elim
theorem Val.list : ∀ {h : Nat} {lo hi : Option ByteArray} {t : T}, Val h lo hi t → Srt (toL h t) ∧ ∀ p ∈ toL h t, InB lo hi p.1
  | 0, _, _, .leaf _, h => ⟨h.2.1, h.2.2⟩
  | _ + 1, _, _, .inner _ _, h => row_list (fun _ _ _ hc => Val.list hc) h.1
  | 0, _, _, .inner _ _, h => h.elim
  | _ + 1, _, _, .leaf _, h => h.elim
theorem Row.list {h : Nat} {bs : List ByteArray} {cs : List T} {lo hi : Option ByteArray} (hr : Row (Val h) lo bs cs hi) : Srt (cs.flatMap (toL h)) ∧ ∀ p ∈ cs.flatMap (toL h), InB lo hi p.1 := row_list (fun _ _ _ hc => Val.list hc) hr
theorem Row.lts {h : Nat} {bs : List ByteArray} {cs : List T} {lo hi : Option ByteArray} (hr : Row (Val h) lo bs cs hi) : LT lo hi := Row.lt (fun _ _ _ hc => Val.lt hc) hr
theorem Pre.list {h : Nat} : ∀ {bs : List ByteArray} {cs : List T} {lo m : Option ByteArray}, Pre (Val h) lo bs cs m → ∀ p ∈ cs.flatMap (toL h), ∀ b, m = some b → klt p.1 b
  | [], [], _, _, _ => by simp
  | b :: bs, c :: cs, lo, m, hp => by
    intro p hpm x hx
    rw [List.flatMap_cons] at hpm
    rcases List.mem_append.1 hpm with h1 | h1
    · have h2 := (hp.1.list.2 p h1).2 b rfl
      have h3 : ¬ klt x b := by
        subst hx
        clear h1 hpm
        have : ∀ {bs : List ByteArray} {cs : List T} {lo m : Option ByteArray}, Pre (Val h) lo bs cs m → ∀ l u, lo = some l → m = some u → ¬ klt u l := by
          intro bs
          induction bs with
          | nil =>
            intro cs lo m hp l u e1 e2
            cases cs with
            | nil => cases hp; rw [e1] at e2; cases e2; exact klt_irrefl _
            | cons => exact hp.elim
          | cons b' bs' ih =>
            intro cs lo m hp l u e1 e2
            cases cs with
            | nil => exact hp.elim
            | cons c' cs' =>
              have h5 := ih hp.2 b' u rfl e2
              have h6 := hp.1.lt l b' e1 rfl
              exact fun h7 => h5 (klt_trans h7 h6)
        exact this hp.2 b x rfl rfl
      exact klt_of_lt_le h2 h3
    · exact Pre.list hp.2 p h1 x hx
  | [], _ :: _, _, _, hp => hp.elim
  | _ :: _, [], _, _, hp => hp.elim
theorem Suf.list {h : Nat} : ∀ {bs : List ByteArray} {cs : List T} {m hi : Option ByteArray}, Suf (Val h) m bs cs hi → ∀ p ∈ cs.flatMap (toL h), ∀ b, m = some b → ¬ klt p.1 b
  | [], [], _, _, _ => by simp
  | _ :: _, _ :: _, _, _, hs => by
    intro p hp x hx
    obtain ⟨rfl, hr⟩ := hs
    exact (hr.list.2 p hp).1 x hx
  | [], _ :: _, _, _, hs => hs.elim
  | _ :: _, [], _, _, hs => hs.elim

/-- The keys between a node's children rise. -/
theorem Row.rise {V : Option ByteArray → Option ByteArray → T → Prop} (hV : ∀ lo hi c, V lo hi c → LT lo hi) : ∀ {bs : List ByteArray} {cs : List T} {lo hi : Option ByteArray}, Row V lo bs cs hi → bs.Pairwise klt ∧ ∀ b ∈ bs, LT lo (some b) ∧ LT (some b) hi
  | [], [_], _, _, _ => ⟨List.Pairwise.nil, by simp⟩
  | b :: bs, c :: cs, lo, hi, h => by
    obtain ⟨h1, h2⟩ := Row.rise hV h.2
    have l1 := hV _ _ _ h.1
    have l2 := Row.lt hV h.2
    refine ⟨List.pairwise_cons.2 ⟨fun x hx => (h2 x hx).1 b x rfl rfl, h1⟩, fun x hx => ?_⟩
    rcases List.mem_cons.1 hx with rfl | hx
    · exact ⟨l1, l2⟩
    · exact ⟨l1.trans (h2 x hx).1, (h2 x hx).2⟩
  | [], [], _, _, h => h.elim
  | [], _ :: _ :: _, _, _, h => h.elim
  | _ :: _, [], _, _, h => h.elim

/-- Under which child a key belongs. -/
def pl : List ByteArray → ByteArray → Nat
  | [], _ => 0
  | b :: bs, k => if klt k b then 0 else pl bs k + 1
theorem pl_le : ∀ (bs : List ByteArray) (k : ByteArray), pl bs k ≤ bs.length
  | [], _ => Nat.le_refl _
  | b :: bs, k => by
    rw [pl]
    split
    · exact Nat.zero_le _
    · have := pl_le bs k; simp only [List.length_cons]; omega
/-- The child's bounds hold the key. -/
theorem Row.place {V : Option ByteArray → Option ByteArray → T → Prop} (k : ByteArray) : ∀ {bs : List ByteArray} {cs : List T} {lo hi : Option ByteArray}, Row V lo bs cs hi → InB lo hi k → ∃ c m1 m2, cs[pl bs k]? = some c ∧ Pre V lo (bs.take (pl bs k)) (cs.take (pl bs k)) m1 ∧ V m1 m2 c ∧ InB m1 m2 k ∧ Suf V m2 (bs.drop (pl bs k)) (cs.drop (pl bs k + 1)) hi
  | [], [c], lo, hi, h, hk => ⟨c, lo, hi, rfl, rfl, h, hk, rfl⟩
  | b :: bs, c :: cs, lo, hi, h, hk => by
    rw [pl]
    by_cases hb : klt k b
    · rw [if_pos hb]
      refine ⟨c, lo, some b, rfl, rfl, h.1, ⟨hk.1, fun u e => by cases e; exact hb⟩, ?_⟩
      cases cs with
      | nil => have := Row.len h.2; simp at this
      | cons c2 cs2 => exact ⟨rfl, h.2⟩
    · rw [if_neg hb]
      obtain ⟨c', m1, m2, h1, h2, h3, h4, h5⟩ := Row.place k h.2 ⟨fun l e => by cases e; exact hb, hk.2⟩
      exact ⟨c', m1, m2, by simpa using h1, ⟨h.1, h2⟩, h3, h4, by simpa using h5⟩
  | [], [], _, _, h, _ => h.elim
  | [], _ :: _ :: _, _, _, h, _ => h.elim
  | _ :: _, [], _, _, h, _ => h.elim

/-- A change of the pairs at one key. -/
structure Edit (k : ByteArray) (E : List KV → List KV) : Prop where
  loc : ∀ l m r : List KV, (∀ p ∈ l, klt p.1 k) → (∀ p ∈ r, klt k p.1) → E (l ++ m ++ r) = l ++ E m ++ r
  ok : ∀ lo hi ps, InB lo hi k → Srt ps → (∀ p ∈ ps, InB lo hi p.1) → Srt (E ps) ∧ ∀ p ∈ E ps, InB lo hi p.1
  len : ∀ ps, ps.length ≤ (E ps).length + 1 ∧ (E ps).length ≤ ps.length + 1

def cutT : T → List ByteArray × List T
  | .leaf ps => if ps.length ≤ 8 then ([], [.leaf ps]) else ([(ps.getD (ps.length / 2) default).1], [.leaf (ps.take (ps.length / 2)), .leaf (ps.drop (ps.length / 2))])
  | .inner bs cs => if cs.length ≤ 8 then ([], [.inner bs cs]) else ([bs.getD (cs.length / 2 - 1) default], [.inner (bs.take (cs.length / 2 - 1)) (cs.take (cs.length / 2)), .inner (bs.drop (cs.length / 2)) (cs.drop (cs.length / 2))])
def joinT : T → ByteArray → T → T
  | .leaf p, _, .leaf q => .leaf (p ++ q)
  | .inner b1 c1, b, .inner b2 c2 => .inner (b1 ++ [b] ++ b2) (c1 ++ c2)
  | t, _, _ => t
def withR (n : List ByteArray × List T) (i j : Nat) (r : List ByteArray × List T) : List ByteArray × List T := (n.1.take i ++ r.1 ++ n.1.drop (j - 1), n.2.take i ++ r.2 ++ n.2.drop j)
def mendR (n : List ByteArray × List T) (i : Nat) : List ByteArray × List T :=
  if 4 ≤ (n.2.getD i default).sz then n
  else withR n (i - 1) (i - 1 + 2) (cutT (joinT (n.2.getD (i - 1) default) (n.1.getD (i - 1) default) (n.2.getD (i - 1 + 1) default)))
def chgT (k : ByteArray) (E : List KV → List KV) : Nat → T → List ByteArray × List T
  | 0, .leaf ps => cutT (.leaf (E ps))
  | h + 1, .inner bs cs => cutT (.inner (mendR (withR (bs, cs) (pl bs k) (pl bs k + 1) (chgT k E h (cs.getD (pl bs k) default))) (pl bs k)).1 (mendR (withR (bs, cs) (pl bs k) (pl bs k + 1) (chgT k E h (cs.getD (pl bs k) default))) (pl bs k)).2)
  | _, t => ([], [t])

/-- A node that may be too great is cut. -/
theorem cut_val {h : Nat} {lo hi : Option ByteArray} {t : T} (hv : Val h lo hi t) (hs : t.sz ≤ 16) : Row (Val h) lo (cutT t).1 (cutT t).2 hi ∧ (cutT t).2.flatMap (toL h) = toL h t ∧ ((cutT t = ([], [t]) ∧ t.sz ≤ 8) ∨ (8 < t.sz ∧ ∃ b c1 c2, cutT t = ([b], [c1, c2]) ∧ (4 ≤ c1.sz ∧ c1.sz ≤ 8) ∧ 4 ≤ c2.sz ∧ c2.sz ≤ 8)) := by
  match h, t, hv with
  | 0, .leaf ps, hv =>
    obtain ⟨h1, h2, h3⟩ := hv
    have hs' : ps.length ≤ 16 := hs
    rw [cutT]
    by_cases h8 : ps.length ≤ 8
    · rw [if_pos h8]
      exact ⟨⟨h1, h2, h3⟩, by simp, .inl ⟨rfl, h8⟩⟩
    · rw [if_neg h8]
      obtain ⟨m, hm⟩ : ∃ m, m = ps.length / 2 := ⟨_, rfl⟩
      rw [← hm]
      have hml : m < ps.length := by omega
      have hg : ps.getD m default = ps[m] := by rw [List.getD_eq_getElem?_getD, List.getElem?_eq_getElem hml]; rfl
      rw [hg]
      have hmem : ps[m] ∈ ps := List.getElem_mem _
      have hsp : Srt (ps.take m ++ ps.drop m) := by rw [List.take_append_drop]; exact h2
      obtain ⟨s1, s2, s3⟩ := List.pairwise_append.1 hsp
      have hd : ps.drop m = ps[m] :: ps.drop (m + 1) := List.drop_eq_getElem_cons hml
      have hb := h3 _ hmem
      refine ⟨⟨⟨?_, s1, ?_⟩, ⟨?_, s2, ?_⟩⟩, ?_, .inr ⟨by show 8 < ps.length; omega, _, _, _, rfl, ⟨by show 4 ≤ (ps.take m).length; rw [List.length_take]; omega, by show (ps.take m).length ≤ 8; rw [List.length_take]; omega⟩, by show 4 ≤ (ps.drop m).length; rw [List.length_drop]; omega, by show (ps.drop m).length ≤ 8; rw [List.length_drop]; omega⟩⟩
      · intro l u e1 e2
        cases e2
        have h0 : ps[0]'(by omega) ∈ ps.take m := by rw [List.mem_take_iff_getElem]; exact ⟨0, by omega, rfl⟩
        have h5 := s3 _ h0 ps[m] (by rw [hd]; exact List.mem_cons_self)
        exact klt_of_le ((h3 _ (List.mem_of_mem_take h0)).1 l e1) h5
      · intro p hp
        exact ⟨(h3 p (List.mem_of_mem_take hp)).1, fun u e => by cases e; exact s3 p hp _ (by rw [hd]; exact List.mem_cons_self)⟩
      · intro l u e1 e2
        cases e1
        exact hb.2 u e2
      · intro p hp
        refine ⟨fun l e => ?_, (h3 p (List.mem_of_mem_drop hp)).2⟩
        cases e
        rw [hd] at hp s2
        rcases List.mem_cons.1 hp with rfl | hp
        · exact klt_irrefl _
        · exact klt_asymm ((List.pairwise_cons.1 s2).1 p hp)
      · simp [toL]
  | h + 1, .inner bs cs, hv =>
    obtain ⟨h1, h2⟩ := hv
    have hs' : cs.length ≤ 16 := hs
    rw [cutT]
    by_cases h8 : cs.length ≤ 8
    · rw [if_pos h8]
      exact ⟨⟨h1, h2⟩, by simp, .inl ⟨rfl, h8⟩⟩
    · rw [if_neg h8]
      have hlen := h1.len
      obtain ⟨m, hm⟩ : ∃ m, m = cs.length / 2 := ⟨_, rfl⟩
      rw [← hm]
      obtain ⟨m2, r1, r2⟩ := h1.suf (m - 1) (by omega)
      rw [show m - 1 + 1 = m from by omega] at r1 r2
      have hbl : m - 1 < bs.length := by omega
      have hd : bs.drop (m - 1) = bs[m - 1] :: bs.drop m := by rw [List.drop_eq_getElem_cons hbl, show m - 1 + 1 = m from by omega]
      have hdc : cs.drop m = cs[m]'(by omega) :: cs.drop (m + 1) := List.drop_eq_getElem_cons (by omega)
      have hg : bs.getD (m - 1) default = bs[m - 1] := by rw [List.getD_eq_getElem?_getD, List.getElem?_eq_getElem hbl]; rfl
      rw [hg]
      rw [hd, hdc] at r2
      obtain ⟨rfl, r3⟩ := r2
      rw [← hdc] at r3
      refine ⟨⟨⟨r1, fun c hc => h2 c (List.mem_of_mem_take hc)⟩, ⟨r3, fun c hc => h2 c (List.mem_of_mem_drop hc)⟩⟩, ?_, .inr ⟨by show 8 < cs.length; omega, _, _, _, rfl, ⟨by show 4 ≤ (cs.take m).length; rw [List.length_take]; omega, by show (cs.take m).length ≤ 8; rw [List.length_take]; omega⟩, by show 4 ≤ (cs.drop m).length; rw [List.length_drop]; omega, by show (cs.drop m).length ≤ 8; rw [List.length_drop]; omega⟩⟩
      simp only [List.flatMap_cons, List.flatMap_nil, List.append_nil, toL]
      rw [← List.flatMap_append, List.take_append_drop]
  | 0, .inner _ _, hv => exact hv.elim
  | _ + 1, .leaf _, hv => exact hv.elim

/-- Two nodes side by side make one. -/
theorem join_val {h : Nat} {lo hi : Option ByteArray} {b : ByteArray} {l r : T} (hl : Val h lo (some b) l) (hr : Val h (some b) hi r) : Val h lo hi (joinT l b r) ∧ toL h (joinT l b r) = toL h l ++ toL h r ∧ (joinT l b r).sz = l.sz + r.sz := by
  match h, l, hl, r, hr with
  | 0, .leaf p, hl, .leaf q, hr =>
    refine ⟨⟨hl.1.trans hr.1, srt_app hl.2.1 hr.2.1 (fun x hx y hy => klt_of_lt_le ((hl.2.2 x hx).2 b rfl) ((hr.2.2 y hy).1 b rfl)), fun x hx => ?_⟩, rfl, by simp [joinT, T.sz]⟩
    rcases List.mem_append.1 hx with hx | hx
    · exact (hl.2.2 x hx).left hr.1
    · exact (hr.2.2 x hx).right hl.1
  | h + 1, .inner b1 c1, hl, .inner b2 c2, hr =>
    refine ⟨⟨?_, fun c hc => ?_⟩, by simp [joinT, toL], by simp [joinT, T.sz]⟩
    · rw [List.append_assoc]
      refine hl.1.app (?_ : Suf _ (some b) ([b] ++ b2) c2 hi)
      have := hr.1.len
      cases c2 with
      | nil => simp at this
      | cons c cs => exact ⟨rfl, hr.1⟩
    · rcases List.mem_append.1 hc with hc | hc
      · exact hl.2 c hc
      · exact hr.2 c hc
  | 0, .inner _ _, hl, _, _ => exact hl.elim
  | _ + 1, .leaf _, hl, _, _ => exact hl.elim
  | 0, .leaf _, _, .inner _ _, hr => exact hr.elim
  | _ + 1, .inner _ _, _, .leaf _, hr => exact hr.elim
end Go.Proofs.Ytpophalhmjchkaa
