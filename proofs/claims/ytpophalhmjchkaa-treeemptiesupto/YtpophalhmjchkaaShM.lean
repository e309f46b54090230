/-
  The levels of a whole tree are as they must be.
-/
import Derived.Test.YtpophalhmjchkaaLvl
namespace Go.Proofs.Ytpophalhmjchkaa

/-- The nodes d levels below. -/
def kd : Nat → List T → List T
  | 0, ts => ts
  | d + 1, ts => kd d (kids ts)
theorem kids_app (a b : List T) : kids (a ++ b) = kids a ++ kids b := by simp [kids]
theorem kd_app : ∀ (d : Nat) (a b : List T), kd d (a ++ b) = kd d a ++ kd d b
  | 0, _, _ => rfl
  | d + 1, a, b => by rw [kd, kids_app, kd_app d]; rfl
theorem kd_succ : ∀ (d : Nat) (ts : List T), kd (d + 1) ts = kids (kd d ts)
  | 0, _ => rfl
  | d + 1, ts => by rw [kd, kd_succ d]; rfl
theorem kd_add : ∀ (a b : Nat) (ts : List T), kd (a + b) ts = kd a (kd b ts)
  | a, 0, ts => rfl
  | a, b + 1, ts => by rw [← Nat.add_assoc]; show kd (a + b) (kids ts) = _; rw [kd_add a b]; rfl
theorem levels_len : ∀ (h : Nat) (ts : List T), (levelsL h ts).length = h + 1
  | 0, _ => rfl
  | h + 1, ts => by rw [levelsL, List.length_cons, levels_len h]
theorem levels_get : ∀ (h : Nat) (ts : List T) (d : Nat) (hd : d < (levelsL h ts).length), (levelsL h ts)[d] = (kd d ts).map T.keys
  | 0, _, 0, _ => rfl
  | h + 1, ts, 0, _ => rfl
  | h + 1, ts, d + 1, hd => levels_get h (kids ts) d (by rw [levels_len] at hd ⊢; omega)
  | 0, _, d + 1, hd => by rw [levels_len] at hd; omega
theorem levels_drop : ∀ (h : Nat) (ts : List T) (d : Nat), d ≤ h → (levelsL h ts).drop d = levelsL (h - d) (kd d ts)
  | h, ts, 0, _ => rfl
  | h + 1, ts, d + 1, hd => by
    rw [levelsL, List.drop_succ_cons, levels_drop h (kids ts) d (by omega), show h + 1 - (d + 1) = h - d from by omega]
    rfl
/-- Nodes of height g, each valid by itself. -/
def AV (g : Nat) (ts : List T) : Prop := ∀ t ∈ ts, ∃ lo hi, Val g lo hi t
def AV4 (g : Nat) (ts : List T) : Prop := ∀ t ∈ ts, (∃ lo hi, Val g lo hi t) ∧ 4 ≤ t.sz ∧ t.sz ≤ 8
theorem AV4.av {g : Nat} {ts : List T} (h : AV4 g ts) : AV g ts := fun t ht => (h t ht).1
theorem AV.kids {g : Nat} {ts : List T} (h : AV (g + 1) ts) : AV4 g (kids ts) := by
  intro c hc
  simp only [Ytpophalhmjchkaa.kids, List.mem_flatMap] at hc
  obtain ⟨t, ht, hc⟩ := hc
  obtain ⟨lo, hi, hv⟩ := h t ht
  match t, hv with
  | .inner bs cs, hv => exact ⟨hv.1.each c hc, hv.2 c hc⟩
  | .leaf _, hv => exact hv.elim
theorem AV.kd4 : ∀ {d g : Nat} {ts : List T}, AV (g + (d + 1)) ts → AV4 g (kd (d + 1) ts)
  | 0, _, _, h => h.kids
  | d + 1, g, _, h => AV.kd4 (d := d) (AV4.av (AV.kids (g := g + (d + 1)) h))
theorem AV.kd {d g : Nat} {ts : List T} (h : AV (g + d) ts) : AV g (kd d ts) := by
  cases d with
  | zero => exact h
  | succ d => exact (AV.kd4 h).av
theorem keys_kids {g : Nat} {lo hi : Option ByteArray} {t : T} (h : Val (g + 1) lo hi t) : t.keys.length + 1 = t.kids.length := by
  match t, h with
  | .inner bs cs, h => exact (h.1.len).symm
  | .leaf _, h => exact h.elim
theorem keys_sz0 {lo hi : Option ByteArray} {t : T} (h : Val 0 lo hi t) : t.keys.length = t.sz := by
  match t, h with
  | .leaf ps, h => simp [T.keys, T.sz, keysP]
  | .inner _ _, h => exact h.elim
theorem keys_sz {g : Nat} {lo hi : Option ByteArray} {t : T} (h : Val (g + 1) lo hi t) : t.keys.length + 1 = t.sz := by
  match t, h with
  | .inner bs cs, h => exact (h.1.len).symm
  | .leaf _, h => exact h.elim
theorem keys_srt : ∀ {g : Nat} {lo hi : Option ByteArray} {t : T}, Val g lo hi t → t.keys.Pairwise klt
  | 0, _, _, .leaf _, h => keysP_srt h.2.1
  | _ + 1, _, _, .inner _ _, h => (Row.rise (fun _ _ _ h => Val.lt h) h.1).1
  | 0, _, _, .inner _ _, h => h.elim
  | _ + 1, _, _, .leaf _, h => h.elim
theorem first_kids {g : Nat} : ∀ {ts : List T}, AV (g + 1) ts → ∀ a, firstN (ts.map T.keys) a = (kids (ts.take a)).length
  | [], _, a => by simp [firstN, kids]
  | t :: ts, h, 0 => by simp [firstN, kids]
  | t :: ts, h, a + 1 => by
    obtain ⟨lo, hi, hv⟩ := h t List.mem_cons_self
    have ih := first_kids (g := g) (ts := ts) (fun x hx => h x (List.mem_cons_of_mem _ hx)) a
    have hk := keys_kids hv
    simp only [firstN, kids, List.map_cons, List.take_succ_cons, List.sum_cons, List.flatMap_cons, List.length_append] at ih ⊢
    omega
theorem kids_pre (ts : List T) (a : Nat) : (kids ts).take (kids (ts.take a)).length = kids (ts.take a) := by
  conv => lhs; rw [← List.take_append_drop a ts, kids_app]
  rw [List.take_append_drop a ts]
  simp
theorem down_kd : ∀ {g : Nat} {ts : List T}, AV g ts → ∀ a, a ≤ ts.length → downI (levelsL g ts) a = (kd g (ts.take a)).length
  | 0, ts, _, a, ha => by
    show a = (ts.take a).length
    rw [List.length_take]; omega
  | g + 1, ts, h, a, ha => by
    have e : levelsL (g + 1) ts = ts.map T.keys :: levelsL g (kids ts) := rfl
    have e2 : downI (levelsL (g + 1) ts) a = downI (levelsL g (kids ts)) (firstN (ts.map T.keys) a) := by
      rw [e]
      cases hc : levelsL g (kids ts) with
      | nil => have := levels_len g (kids ts); rw [hc] at this; simp at this
      | cons r rest => rfl
    rw [e2, first_kids h, down_kd h.kids.av _ (kids_le ts a), kids_pre]
    rfl
/-- The keys of the leaves. -/
theorem kd_keys : ∀ {g : Nat} {ts : List T}, AV g ts → (kd g ts).flatMap T.keys = (ts.flatMap (toL g)).map (·.1)
  | 0, ts, h => by
    show ts.flatMap T.keys = _
    induction ts with
    | nil => rfl
    | cons t ts ih =>
      obtain ⟨lo, hi, hv⟩ := h t List.mem_cons_self
      rw [List.flatMap_cons, List.flatMap_cons, List.map_append, ih fun x hx => h x (List.mem_cons_of_mem _ hx)]
      congr 1
      match t, hv with
      | .leaf ps, _ => rfl
      | .inner _ _, hv => exact hv.elim
  | g + 1, ts, h => by
    show (kd g (kids ts)).flatMap T.keys = _
    rw [kd_keys h.kids.av]
    congr 1
    have : ∀ (ts : List T), AV (g + 1) ts → (kids ts).flatMap (toL g) = ts.flatMap (toL (g + 1)) := by
      intro ts
      induction ts with
      | nil => intro _; rfl
      | cons t ts ih =>
        intro h
        obtain ⟨lo, hi, hv⟩ := h t List.mem_cons_self
        rw [show kids (t :: ts) = t.kids ++ kids ts from rfl, List.flatMap_append, ih fun x hx => h x (List.mem_cons_of_mem _ hx), List.flatMap_cons]
        congr 1
        match t, hv with
        | .inner bs cs, _ => rfl
        | .leaf _, hv => exact hv.elim
    exact this ts h
theorem Row.at {V : Option ByteArray → Option ByteArray → T → Prop} : ∀ {bs : List ByteArray} {cs : List T} {lo hi : Option ByteArray}, Row V lo bs cs hi → ∀ i (h1 : i < bs.length) (h2 : i < cs.length) (h3 : i + 1 < cs.length), (∃ l, V l (some bs[i]) cs[i]) ∧ ∃ r, V (some bs[i]) r cs[i + 1]
  | b :: bs, c :: cs, lo, hi, h, 0, _, _, h3 => by
    refine ⟨⟨_, h.1⟩, ?_⟩
    match bs, cs, h.2 with
    | [], [d], h => exact ⟨_, h⟩
    | b2 :: bs, d :: cs, h => exact ⟨_, h.1⟩
    | [], [], h => exact h.elim
    | [], _ :: _ :: _, h => exact h.elim
    | _ :: _, [], h => exact h.elim
  | b :: bs, c :: cs, lo, hi, h, i + 1, h1, h2, h3 => Row.at h.2 i (by simpa using h1) (by simpa using h2) (by simpa using h3)
  | [], _, _, _, _, i, h1, _, _ => by simp at h1
  | _ :: _, [], _, _, h, _, _, _, _ => h.elim
theorem kd_one {g : Nat} {lo hi : Option ByteArray} {c : T} (hv : Val g lo hi c) {t : T} (ht : t ∈ kd g [c]) {x : ByteArray} (hx : x ∈ t.keys) : ∃ p ∈ toL g c, p.1 = x := by
  have h1 : AV g [c] := fun y hy => by rw [List.mem_singleton] at hy; rw [hy]; exact ⟨lo, hi, hv⟩
  have h2 : x ∈ (kd g [c]).flatMap T.keys := List.mem_flatMap.2 ⟨t, ht, hx⟩
  rw [kd_keys h1] at h2
  simpa using h2

/-- What a key between two children asks of the leaves. -/
theorem bp_of {h d : Nat} {t : T} (hav : AV h [t]) (hd : d + 1 ≤ h) {n : Nat} (hn : n < (kd d [t]).length) {bs : List ByteArray} {cs : List T} {lo hi : Option ByteArray} (hN : (kd d [t])[n] = .inner bs cs) (hv : Val (h - d) lo hi (.inner bs cs)) {i : Nat} (hi2 : i < bs.length) :
    BP (levelsL h [t]) d ((kids ((kd d [t]).take n)).length + i) bs[i] := by
  obtain ⟨g, rfl⟩ : ∃ g, h = g + (d + 1) := ⟨h - (d + 1), by omega⟩
  rw [show g + (d + 1) - d = g + 1 from by omega] at hv
  have hlen := hv.1.len
  have hl := levels_len (g + (d + 1)) [t]
  obtain ⟨ts, hts⟩ : ∃ ts, ts = kd d [t] := ⟨_, rfl⟩
  have hav' : AV (g + 1) ts := by rw [hts]; exact AV.kd (by rw [show g + 1 + d = g + (d + 1) from by omega]; exact hav)
  have hK4 := hav'.kids
  rw [← hts] at hn
  have hN' : ts[n] = .inner bs cs := by
    have := hN
    simp only [← hts] at this
    exact this
  rw [← hts]
  obtain ⟨c, hc⟩ : ∃ c, c = (kids (ts.take n)).length + i := ⟨_, rfl⟩
  have hsplit : kids ts = kids (ts.take n) ++ (cs ++ kids (ts.drop (n + 1))) := by
    conv => lhs; rw [← List.take_append_drop n ts, List.drop_eq_getElem_cons hn, kids_app]
    rw [show kids (ts[n] :: ts.drop (n + 1)) = ts[n].kids ++ kids (ts.drop (n + 1)) from rfl, hN']
    rfl
  have hci : ∀ q, q < cs.length → (kids ts)[(kids (ts.take n)).length + q]? = cs[q]? := by
    intro q hq
    rw [hsplit, List.getElem?_append_right (by omega), Nat.add_sub_cancel_left, List.getElem?_append_left hq]
  have hc0 : (kids ts)[(kids (ts.take n)).length + i]? = some cs[i] := by rw [hci i (by omega)]; exact List.getElem?_eq_getElem _
  have hc1 : (kids ts)[(kids (ts.take n)).length + (i + 1)]? = some cs[i + 1] := by rw [hci (i + 1) (by omega)]; exact List.getElem?_eq_getElem _
  rw [← Nat.add_assoc] at hc1
  rw [← hc] at hc0 hc1
  have hlt1 := (List.getElem?_eq_some_iff.1 hc1).1
  have hd1 : (levelsL (g + (d + 1)) [t]).drop (d + 1) = levelsL g (kids ts) := by
    rw [levels_drop _ _ _ (by omega), kd_succ, ← hts, show g + (d + 1) - (d + 1) = g from by omega]
  have hdn := fun a ha => down_kd hK4.av a ha
  have hlast : ∀ hq : (levelsL (g + (d + 1)) [t]).length - 1 < (levelsL (g + (d + 1)) [t]).length, (levelsL (g + (d + 1)) [t])[(levelsL (g + (d + 1)) [t]).length - 1] = (kd g (kids ts)).map T.keys := by
    intro hq
    rw [levels_get]
    congr 1
    rw [hl, show g + (d + 1) + 1 - 1 = g + (d + 1) from by omega, kd_add, kd_succ, ← hts]
  have e1 : (kids ts).take (c + 1) = (kids ts).take c ++ [cs[i]] := by rw [List.take_succ_eq_append_getElem (by omega), (List.getElem?_eq_some_iff.1 hc0).2]
  have e2 : (kids ts).take (c + 2) = (kids ts).take c ++ [cs[i]] ++ [cs[i + 1]] := by rw [List.take_succ_eq_append_getElem hlt1, (List.getElem?_eq_some_iff.1 hc1).2, e1]
  have e3 : kd g (kids ts) = kd g ((kids ts).take c) ++ kd g [cs[i]] ++ kd g [cs[i + 1]] ++ kd g ((kids ts).drop (c + 2)) := by
    conv => lhs; rw [← List.take_append_drop (c + 2) (kids ts), e2, kd_app, kd_app, kd_app]
  obtain ⟨⟨l1, r1⟩, ⟨l2, r2⟩⟩ := hv.1.at i hi2 (by omega) (by omega)
  rw [← hc]
  refine ⟨by rw [hl]; omega, ?_, ?_, ?_⟩
  · rw [levels_get, List.length_map, kd_succ, ← hts]; exact hlt1
  · rw [hlast, hd1, hdn _ (by omega), List.length_map, e2, e3, kd_app, kd_app]
    simp only [List.length_append]
    omega
  · rw [hd1, hdn c (by omega), hdn (c + 1) (by omega), hdn (c + 2) (by omega)]
    intro q hq1 hq2 hq3 x hx
    have hq4 : q < (kd g (kids ts)).length := by rw [hlast, List.length_map] at hq3; exact hq3
    have hx2 : x ∈ ((kd g (kids ts))[q]).keys := by
      have : (levelsL (g + (d + 1)) [t])[(levelsL (g + (d + 1)) [t]).length - 1][q] = ((kd g (kids ts))[q]).keys := by
        have h5 := hlast (by omega)
        simp only [h5, List.getElem_map]
      rw [this] at hx; exact hx
    rw [e1, kd_app] at *
    rw [e2, kd_app, kd_app] at hq2
    simp only [List.length_append] at hq2 ⊢
    refine ⟨fun h5 => ?_, fun h5 => ?_⟩
    · have hm : (kd g (kids ts))[q] ∈ kd g [cs[i]] := by
        have : (kd g (kids ts))[q]? = (kd g [cs[i]])[q - (kd g ((kids ts).take c)).length]? := by
          rw [e3, List.getElem?_append_left (by simp only [List.length_append]; omega), List.getElem?_append_left (by simp only [List.length_append]; omega), List.getElem?_append_right hq1]
        rw [List.getElem?_eq_getElem hq4] at this
        exact List.mem_of_getElem? this.symm
      obtain ⟨p, hp, rfl⟩ := kd_one r1 hm hx2
      exact (r1.list.2 p hp).2 _ rfl
    · have hm : (kd g (kids ts))[q] ∈ kd g [cs[i + 1]] := by
        have : (kd g (kids ts))[q]? = (kd g [cs[i + 1]])[q - ((kd g ((kids ts).take c)).length + (kd g [cs[i]]).length)]? := by
          rw [e3, List.getElem?_append_left (by simp only [List.length_append]; omega), List.getElem?_append_right (by simp only [List.length_append]; omega), List.length_append]
        rw [List.getElem?_eq_getElem hq4] at this
        exact List.mem_of_getElem? this.symm
      obtain ⟨p, hp, rfl⟩ := kd_one r2 hm hx2
      exact (r2.list.2 p hp).1 _ rfl

theorem Whole.av {h : Nat} {t : T} (hw : Whole h t) : AV h [t] := fun y hy => by rw [List.mem_singleton] at hy; rw [hy]; exact ⟨_, _, hw.val⟩
/-- How many keys a node has. -/
theorem whole_sz {h : Nat} {t : T} (hw : Whole h t) {d : Nat} (hd : d ≤ h) {x : T} (hx : x ∈ kd d [t]) : leastN (decide (d + 1 = h + 1)) d ≤ x.keys.length ∧ x.keys.length ≤ mostN (decide (d + 1 = h + 1)) := by
  cases d with
  | zero =>
    have ex : x = t := by simpa [kd] using hx
    subst ex
    cases h with
    | zero =>
      have h1 := keys_sz0 hw.val
      have h2 := hw.max
      simp [leastN, mostN]
      omega
    | succ h =>
      have h1 := keys_sz hw.val
      have h2 := hw.max
      have h3 := hw.min
      simp [leastN, mostN]
      omega
  | succ d =>
    obtain ⟨g, rfl⟩ : ∃ g, h = g + (d + 1) := ⟨h - (d + 1), by omega⟩
    obtain ⟨⟨lo, hi, hv⟩, h4, h8⟩ := AV.kd4 hw.av x hx
    cases g with
    | zero =>
      have h1 := keys_sz0 hv
      simp [leastN, mostN]
      omega
    | succ g =>
      have h1 := keys_sz hv
      have h5 : decide (d + 1 + 1 = g + 1 + (d + 1) + 1) = false := by simp
      rw [h5]
      simp [leastN, mostN]
      omega
theorem whole_lp {h : Nat} {t : T} (hw : Whole h t) {d : Nat} (hd : d ≤ h) : LP (levelsL h [t]) d := by
  have hl := levels_len h [t]
  have hlt : d < (levelsL h [t]).length := by rw [hl]; omega
  have hg := levels_get h [t] d hlt
  have hav : AV (h - d) (kd d [t]) := AV.kd (by rw [show h - d + d = h from by omega]; exact hw.av)
  refine ⟨hlt, ?_, ?_, ?_, ?_⟩
  · intro n hn
    simp only [hg, List.getElem_map, hl]
    exact whole_sz hw hd (List.getElem_mem _)
  · intro n hn i h1 hi
    simp only [hg, List.getElem_map] at hi ⊢
    obtain ⟨lo, hi', hv⟩ := hav _ (List.getElem_mem (by simpa [hg] using hn : n < (kd d [t]).length))
    exact List.pairwise_iff_getElem.1 (keys_srt hv) (i - 1) i (by omega) hi (by omega)
  · intro hd1 n hn i hi
    rw [hl] at hd1
    have hn2 : n < (kd d [t]).length := by simpa [hg] using hn
    obtain ⟨lo, hi', hv⟩ := hav _ (List.getElem_mem hn2)
    obtain ⟨g, hgg⟩ : ∃ g, h - d = g + 1 := ⟨h - d - 1, by omega⟩
    have hfk := first_kids (g := g) (ts := kd d [t]) (by rw [← hgg]; exact hav) n
    simp only [hg, List.getElem_map] at hi ⊢
    rw [hfk]
    obtain ⟨x, hx⟩ : ∃ x, (kd d [t])[n] = x := ⟨_, rfl⟩
    match x, hx with
    | .leaf ps, hN => rw [hN, hgg] at hv; exact hv.elim
    | .inner bs cs, hN =>
      have hk : ((kd d [t])[n]).keys = bs := by rw [hN]; rfl
      have hi2 : i < bs.length := by rw [← hk]; exact hi
      have hb := bp_of hw.av (by omega) hn2 hN (by rw [hN] at hv; exact hv) hi2
      have e : ((kd d [t])[n]).keys[i] = bs[i] := by congr 1
      rw [e]
      exact hb
  · intro hd1
    rw [hl] at hd1
    obtain ⟨g, hgg⟩ : ∃ g, h - d = g + 1 := ⟨h - d - 1, by omega⟩
    rw [levels_get h [t] (d + 1) (by rw [hl]; omega), hg, first_kids (g := g) (by rw [← hgg]; exact hav), List.length_map, List.length_map, List.take_length, kd_succ]
theorem toL_kd : ∀ {d g : Nat} {ts : List T}, AV (g + d) ts → ts.flatMap (toL (g + d)) = (kd d ts).flatMap (toL g)
  | 0, _, _, _ => rfl
  | d + 1, g, ts, h => by
    have h1 : ts.flatMap (toL (g + (d + 1))) = (kids ts).flatMap (toL (g + d)) := by
      have : ∀ (ts : List T), AV (g + d + 1) ts → (kids ts).flatMap (toL (g + d)) = ts.flatMap (toL (g + d + 1)) := by
        intro ts
        induction ts with
        | nil => intro _; rfl
        | cons t ts ih =>
          intro h
          obtain ⟨lo, hi, hv⟩ := h t List.mem_cons_self
          rw [show kids (t :: ts) = t.kids ++ kids ts from rfl, List.flatMap_append, ih fun x hx => h x (List.mem_cons_of_mem _ hx), List.flatMap_cons]
          congr 1
          match t, hv with
          | .inner bs cs, _ => rfl
          | .leaf _, hv => exact hv.elim
      exact (this ts h).symm
    rw [h1, toL_kd (AV4.av (AV.kids (g := g + d) h))]
    rfl
theorem flat_ge {f : T → List KV} {m : Nat} : ∀ {cs : List T}, (∀ c ∈ cs, m ≤ (f c).length) → cs.length * m ≤ (cs.flatMap f).length
  | [], _ => by simp
  | c :: cs, h => by
    have ih := flat_ge (f := f) (cs := cs) fun x hx => h x (List.mem_cons_of_mem _ hx)
    have h1 := h c List.mem_cons_self
    rw [List.flatMap_cons, List.length_append, List.length_cons, Nat.add_mul]
    omega
theorem kd_count {h : Nat} {t : T} (hw : Whole h t) {d : Nat} (hd : d ≤ h) : (kd d [t]).length ≤ (toL h t).length + 1 := by
  cases d with
  | zero => simp [kd]
  | succ d =>
    obtain ⟨g, rfl⟩ : ∃ g, h = g + (d + 1) := ⟨h - (d + 1), by omega⟩
    have h1 := toL_kd (g := g) (d := d + 1) hw.av
    have h2 : [t].flatMap (toL (g + (d + 1))) = toL (g + (d + 1)) t := by simp
    rw [h2] at h1
    have h3 := flat_ge (f := toL g) (m := 4) (cs := kd (d + 1) [t]) (fun c hc => by
      obtain ⟨⟨lo, hi, hv⟩, h4, _⟩ := AV.kd4 hw.av c hc
      exact val_min hv h4)
    rw [h1]
    omega
theorem whole_sml {h : Nat} {t : T} (hw : Whole h t) (hL : (toL h t).length ≤ 2000) (hh : h ≤ 20) : Sml (levelsL h [t]) := by
  refine ⟨by rw [levels_len]; omega, fun kss hk => ?_⟩
  obtain ⟨d, hd, rfl⟩ := List.getElem_of_mem hk
  rw [levels_get]
  rw [levels_len] at hd
  refine ⟨by rw [List.length_map]; have := kd_count hw (d := d) (by omega); omega, fun k hk => ?_⟩
  rw [List.mem_map] at hk
  obtain ⟨x, hx, rfl⟩ := hk
  have := (whole_sz hw (d := d) (by omega) hx).2
  simp only [mostN] at this
  split at this <;> omega
theorem small_of : ∀ {h : Nat} {ts : List T}, (∀ d, d ≤ h → 1 ≤ (kd d ts).length ∧ (kd d ts).length ≤ 1000000 ∧ ∀ t ∈ kd d ts, t.keys.length ≤ 100) → Small h ts
  | 0, _, h => h 0 (Nat.le_refl _)
  | h + 1, ts, hh => ⟨hh 0 (by omega), small_of fun d hd => hh (d + 1) (by omega)⟩
theorem kd_pos {h : Nat} {t : T} (hw : Whole h t) : ∀ d, d ≤ h → 1 ≤ (kd d [t]).length
  | 0, _ => by simp [kd]
  | d + 1, hd => by
    have ih := kd_pos hw d (by omega)
    have hav : AV (h - d) (kd d [t]) := AV.kd (by rw [show h - d + d = h from by omega]; exact hw.av)
    rw [kd_succ]
    cases hc : kd d [t] with
    | nil => rw [hc] at ih; simp at ih
    | cons x xs =>
      obtain ⟨lo, hi, hv⟩ := hav x (by rw [hc]; exact List.mem_cons_self)
      obtain ⟨g, hgg⟩ : ∃ g, h - d = g + 1 := ⟨h - d - 1, by omega⟩
      rw [hgg] at hv
      have h1 := keys_kids hv
      rw [show kids (x :: xs) = x.kids ++ kids xs from rfl, List.length_append]
      omega
theorem whole_small {h : Nat} {t : T} (hw : Whole h t) (hL : (toL h t).length ≤ 2000) : Small h [t] :=
  small_of fun d hd => ⟨kd_pos hw d hd, by have := kd_count hw hd; omega, fun x hx => by
    have := (whole_sz hw hd hx).2
    simp only [mostN] at this
    split at this <;> omega⟩
theorem val_pow : ∀ {h : Nat} {lo hi : Option ByteArray} {t : T}, Val h lo hi t → 4 ≤ t.sz → 4 ^ (h + 1) ≤ (toL h t).length
  | 0, _, _, .leaf ps, _, h4 => by
    have h5 : 4 ≤ ps.length := h4
    show 4 ^ 1 ≤ ps.length
    omega
  | h + 1, _, _, .inner bs cs, hv, h4 => by
    have h1 := flat_ge (f := toL h) (m := 4 ^ (h + 1)) (cs := cs) (fun c hc => by
      obtain ⟨l, r, hc2⟩ := hv.1.each c hc
      exact val_pow hc2 (hv.2 c hc).1)
    have h2 : 4 ≤ cs.length := h4
    have h3 : 4 * 4 ^ (h + 1) ≤ cs.length * 4 ^ (h + 1) := Nat.mul_le_mul_right _ h2
    show 4 ^ (h + 1 + 1) ≤ (cs.flatMap (toL h)).length
    rw [Nat.pow_succ]
    omega
  | 0, _, _, .inner _ _, hv, _ => hv.elim
  | _ + 1, _, _, .leaf _, hv, _ => hv.elim
theorem whole_pow {h : Nat} {t : T} (hw : Whole (h + 1) t) : 4 ^ (h + 1) ≤ (toL (h + 1) t).length := by
  match t, hw.val, hw.min with
  | .inner bs cs, hv, hm =>
    have h1 := flat_ge (f := toL h) (m := 4 ^ (h + 1)) (cs := cs) (fun c hc => by
      obtain ⟨l, r, hc2⟩ := hv.1.each c hc
      exact val_pow hc2 (hv.2 c hc).1)
    have h2 : 2 ≤ cs.length := hm.elim (fun h => by omega) id
    have h3 : 2 * 4 ^ (h + 1) ≤ cs.length * 4 ^ (h + 1) := Nat.mul_le_mul_right _ h2
    show 4 ^ (h + 1) ≤ (cs.flatMap (toL h)).length
    omega
  | .leaf _, hv, _ => exact hv.elim
theorem whole_height {h : Nat} {t : T} (hw : Whole h t) (hL : (toL h t).length ≤ 2000) : h ≤ 5 := by
  by_cases h5 : h ≤ 5
  · exact h5
  · obtain ⟨g, rfl⟩ : ∃ g, h = g + 6 := ⟨h - 6, by omega⟩
    have h1 := whole_pow (h := g + 5) hw
    have h2 : 4 ^ 6 ≤ 4 ^ (g + 5 + 1) := Nat.pow_le_pow_right (by decide) (by omega)
    have h3 : 4 ^ 6 = 4096 := by decide
    have h4 : (toL (g + 5 + 1) t).length ≤ 2000 := hL
    rw [h3] at h2
    exact absurd (Nat.le_trans h2 (Nat.le_trans h1 h4)) (by decide)
/-- The keys of the last level are the keys of the tree. -/
theorem leaves_keys {h : Nat} {t : T} (hw : Whole h t) (hq : h < (levelsL h [t]).length) : ((levelsL h [t])[h]).flatten = keysP (toL h t) := by
  rw [levels_get, ← List.flatMap_def, kd_keys hw.av]
  simp [keysP]
end Go.Proofs.Ytpophalhmjchkaa
