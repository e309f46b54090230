/-
  What Fold makes of a text (out of the seat of stage 3).
-/
import Derived.Test.YtnmffehmjgknkaaGreatDoorChTr
import Derived.Test.YtnmffehmjgknkaaGreatDoorChDec
import Derived.Shelf.Strings.FieldsFuncAny
import Derived.Shelf.Strings.OnBuilder
namespace Go.Proofs.YtnmffehmjgknkaaGreatDoor.Ch
open Go.RowKit
theorem pieceL_same (l : List UInt8) (k : Nat) : pieceL l k k = [] := by simp [pieceL]
theorem pieceL_snoc {l : List UInt8} {f k : Nat} (hf : f ≤ k) (hk : k < l.length) : pieceL l f (k + 1) = pieceL l f k ++ [l[k]] := by
  unfold pieceL
  rw [show k + 1 - f = (k - f) + 1 from by omega, List.take_succ_eq_append_getElem (by simp; omega)]
  congr 2
  simp only [List.getElem_drop]
  congr 1
  omega
theorem pieceL_end (l : List UInt8) (f : Nat) : pieceL l f l.length = l.drop f := List.take_of_length_le (by simp)
def blkP (n : Nat) : Bool := blkB (n : Int)
theorem enter52 : ∀ args w, (callFunc 159 args).run Tryz.prog w = .ok (.enter 159 args) w := fun args w => Tryz.call159 args w
def foldG (s : ByteArray) : List UInt8 := Lib.join ((Lib.goFieldsP blkP s).map (·.data.toList)) [32]



def wl (cur : List UInt8) : List UInt8 → List (List UInt8)
  | [] => if cur = [] then [] else [cur]
  | a :: r => if blk a then (if cur = [] then wl [] r else cur :: wl [] r) else wl (cur ++ [a]) r
def foldL (l : List UInt8) : List UInt8 := Lib.join (wl [] l) [32]
/-- As the document's loop goes. -/
def fr (prev : Bool) : List UInt8 → List UInt8
  | [] => []
  | a :: r => if blk a then (if prev then fr true r else 32 :: fr true r) else a :: fr false r

theorem wl_no {a : UInt8} (h : blk a = false) (cur r : List UInt8) : wl cur (a :: r) = wl (cur ++ [a]) r := by rw [wl, h, if_neg (by simp)]
theorem wl_yes {a : UInt8} (h : blk a = true) (cur r : List UInt8) : wl cur (a :: r) = if cur = [] then wl [] r else cur :: wl [] r := by rw [wl, h, if_pos rfl]
theorem wl_run (x : List UInt8) : ∀ (cur r : List UInt8), (∀ a ∈ x, blk a = false) → wl cur (x ++ r) = wl (cur ++ x) r := by
  induction x with
  | nil => intro cur r _; simp
  | cons a x ih =>
    intro cur r h
    have ha := h a (List.mem_cons_self)
    show wl cur (a :: (x ++ r)) = _
    rw [wl, ha, if_neg (by simp), ih _ _ (fun b hb => h b (List.mem_cons_of_mem _ hb))]
    simp
theorem join_cons (x : List UInt8) (W : List (List UInt8)) (h : W ≠ []) : Lib.join (x :: W) [32] = x ++ 32 :: Lib.join W [32] := by
  cases W with
  | nil => exact absurd rfl h
  | cons y ys => simp [Lib.join, List.intercalate, List.intersperse]
theorem join_one' (x : List UInt8) : Lib.join [x] [32] = x := Lib.join_one x [32]

def lastok (m : List UInt8) : Prop := rdw m = m
theorem lastok_nil : lastok [] := rfl
theorem lastok_tail {a : UInt8} {r : List UInt8} (h : lastok (a :: r)) : lastok r ∧ (r = [] → blk a = false) := by
  unfold lastok at h ⊢
  rw [rdw_cons] at h
  split at h
  · rename_i hr
    cases hb : blk a
    · rw [hb, if_neg (by simp)] at h
      simp only [List.cons.injEq, true_and] at h
      rw [← h]
      exact ⟨rfl, fun _ => rfl⟩
    · rw [hb, if_pos rfl] at h
      cases h
  · rename_i hr
    simp only [List.cons.injEq, true_and] at h
    exact ⟨h, fun e => by rw [e] at hr; exact absurd rfl hr⟩
theorem fold_both : ∀ m : List UInt8, lastok m → (∀ cur, cur ≠ [] → Lib.join (wl cur m) [32] = cur ++ fr false m ∧ wl cur m ≠ []) ∧ (Lib.join (wl [] m) [32] = fr true m ∧ (m ≠ [] → wl [] m ≠ [])) := by
  intro m
  induction m with
  | nil =>
    intro _
    refine ⟨fun cur hc => ?_, ?_⟩
    · rw [wl, if_neg hc, join_one']
      simp [fr]
    · simp [wl, fr, Lib.join_nil]
  | cons a r ih =>
    intro h
    obtain ⟨ht, he⟩ := lastok_tail h
    obtain ⟨ih1, ih2, ih3⟩ := ih ht
    cases hb : blk a
    · refine ⟨fun cur hc => ?_, ?_⟩
      · obtain ⟨e1, e2⟩ := ih1 (cur ++ [a]) (by simp)
        rw [wl, hb, if_neg (by simp), fr, hb, if_neg (by simp), e1]
        exact ⟨by simp, e2⟩
      · obtain ⟨e1, e2⟩ := ih1 ([] ++ [a]) (by simp)
        rw [wl, hb, if_neg (by simp), fr, hb, if_neg (by simp), e1]
        exact ⟨by simp, fun _ => e2⟩
    · have hr : r ≠ [] := fun e => by rw [he e] at hb; cases hb
      refine ⟨fun cur hc => ?_, ?_⟩
      · rw [wl, hb, if_pos rfl, if_neg hc, join_cons _ _ (ih3 hr), ih2, fr, hb]
        exact ⟨by simp, by simp⟩
      · rw [wl, hb, if_pos rfl, if_pos rfl, ih2, fr, hb]
        exact ⟨by simp, fun _ => ih3 hr⟩
theorem wl_dw (l : List UInt8) : wl [] (dw l) = wl [] l := by
  induction l with
  | nil => rfl
  | cons a r ih =>
    cases hb : blk a
    · rw [dw_no hb]
    · rw [dw_yes hb, ih, wl, hb, if_pos rfl, if_pos rfl]
theorem wl_rdw (l : List UInt8) : ∀ cur, wl cur (rdw l) = wl cur l := by
  induction l with
  | nil => intro cur; rfl
  | cons a r ih =>
    intro cur
    rw [rdw_cons]
    split
    · rename_i hr
      have h0 := ih []
      rw [hr] at h0
      cases hb : blk a
      · have h1 := ih (cur ++ [a])
        rw [hr] at h1
        rw [if_neg (by simp), wl_no hb, wl_no hb, h1]
      · rw [if_pos rfl, wl_yes hb, ← h0]
        show (if cur = [] then [] else [cur]) = _
        split <;> rfl
    · cases hb : blk a
      · rw [wl_no hb, ih, wl_no hb]
      · rw [wl_yes hb, ih, wl_yes hb]
theorem dw_idem (l : List UInt8) : dw (dw l) = dw l := by
  induction l with
  | nil => rfl
  | cons a r ih =>
    cases hb : blk a
    · rw [dw_no hb, dw_no hb]
    · rw [dw_yes hb, ih]
theorem rdw_idem (l : List UInt8) : rdw (rdw l) = rdw l := by
  have := dw_idem l.reverse
  unfold dw at this
  unfold rdw
  rw [List.reverse_reverse, this]
theorem trimL_idem (l : List UInt8) : trimL (trimL l) = trimL l := by
  unfold trimL
  rw [rdw_dw, dw_idem, rdw_idem]
theorem trim_last (l : List UInt8) : lastok (trimL l) := rdw_idem _
theorem trim_head (l : List UInt8) : trimL l = [] ∨ ∃ a r, trimL l = a :: r ∧ blk a = false := by
  have h : dw (trimL l) = trimL l := by unfold trimL; rw [rdw_dw, dw_idem]
  cases e : trimL l with
  | nil => exact .inl rfl
  | cons a r =>
    right
    refine ⟨a, r, rfl, ?_⟩
    rw [e] at h
    cases hb : blk a
    · rfl
    · rw [dw_yes hb] at h
      have h2 : (dw r).length ≤ r.length := (List.dropWhile_sublist _).length_le
      rw [h] at h2
      simp at h2
      omega
theorem fold_trim (l : List UInt8) : foldL l = fr false (trimL l) := by
  have e : wl [] (trimL l) = wl [] l := by unfold trimL; rw [wl_rdw, wl_dw]
  rw [foldL, ← e, (fold_both _ (trim_last l)).2.1]
  rcases trim_head l with h | ⟨a, r, h, hb⟩
  · rw [h]; rfl
  · rw [h, fr, hb, fr, hb]
    rfl
theorem fr_len (m : List UInt8) : ∀ b, (fr b m).length ≤ m.length := by
  induction m with
  | nil => intro b; simp [fr]
  | cons a r ih =>
    intro b
    have h1 := ih true
    have h2 := ih false
    rw [fr]
    split
    · split
      · simp; omega
      · simp; omega
    · simp; omega
theorem trim_len (l : List UInt8) : (trimL l).length ≤ l.length := by
  unfold trimL rdw dw
  have h1 := (List.dropWhile_sublist (p := blk) (l := (l.dropWhile blk).reverse)).length_le
  have h2 := (List.dropWhile_sublist (p := blk) (l := l)).length_le
  rw [List.length_reverse] at h1 ⊢
  omega
theorem fold_len (l : List UInt8) : (foldL l).length ≤ l.length := by
  rw [fold_trim]
  have := fr_len (trimL l) false
  have := trim_len l
  omega
theorem wl_len (m : List UInt8) : ∀ cur, (wl cur m).length ≤ m.length + 1 := by
  induction m with
  | nil => intro cur; rw [wl]; split <;> simp
  | cons a r ih =>
    intro cur
    have h1 := ih []
    have h2 := ih (cur ++ [a])
    rw [wl]
    split
    · split
      · simp; omega
      · simp; omega
    · simp; omega
theorem wl_words (m : List UInt8) : ∀ cur, (∀ a ∈ cur, blk a = false) → ∀ x ∈ wl cur m, x ≠ [] ∧ ∀ a ∈ x, blk a = false := by
  induction m with
  | nil =>
    intro cur hc x hx
    rw [wl] at hx
    split at hx
    · simp at hx
    · rename_i hne
      simp only [List.mem_singleton] at hx
      subst hx
      exact ⟨hne, hc⟩
  | cons a r ih =>
    intro cur hc x hx
    rw [wl] at hx
    split at hx
    · split at hx
      · exact ih [] (by simp) x hx
      · rename_i hne
        rcases List.mem_cons.1 hx with rfl | hx
        · exact ⟨hne, hc⟩
        · exact ih [] (by simp) x hx
    · rename_i hb
      refine ih (cur ++ [a]) ?_ x hx
      intro b hb'
      rcases List.mem_append.1 hb' with h | h
      · exact hc b h
      · simp only [List.mem_singleton] at h
        subst h
        simpa using hb
theorem wl_join : ∀ W : List (List UInt8), (∀ x ∈ W, x ≠ [] ∧ ∀ a ∈ x, blk a = false) → wl [] (Lib.join W [32]) = W
  | [], _ => rfl
  | [x], h => by
    have hx := h x (List.mem_cons_self)
    have := wl_run x [] [] hx.2
    rw [List.append_nil, List.nil_append] at this
    rw [join_one', this, wl, if_neg hx.1]
  | x :: y :: W, h => by
    have hx := h x (List.mem_cons_self)
    have ih := wl_join (y :: W) (fun z hz => h z (List.mem_cons_of_mem _ hz))
    rw [join_cons _ _ (by simp), wl_run x [] _ hx.2, List.nil_append, wl]
    have hb : blk 32 = true := by decide
    rw [hb, if_pos rfl, if_neg hx.1, ih]
theorem fold_idem (l : List UInt8) : foldL (foldL l) = foldL l := by
  have h := wl_join (wl [] l) (wl_words l [] (by simp))
  show Lib.join (wl [] (Lib.join (wl [] l) [32])) [32] = _
  rw [h]
  rfl

theorem dec_blank (n b0 b1 b2 b3 : Nat) : ((Lib.decodeN n b0 b1 b2 b3).1 = 32 ∨ (Lib.decodeN n b0 b1 b2 b3).1 = 9 → b0 = (Lib.decodeN n b0 b1 b2 b3).1 ∧ (Lib.decodeN n b0 b1 b2 b3).2 = 1) ∧
    (¬ ((Lib.decodeN n b0 b1 b2 b3).1 = 32 ∨ (Lib.decodeN n b0 b1 b2 b3).1 = 9) → ¬ (b0 = 32 ∨ b0 = 9) ∧ (1 < (Lib.decodeN n b0 b1 b2 b3).2 → 128 ≤ b1) ∧ (2 < (Lib.decodeN n b0 b1 b2 b3).2 → 128 ≤ b2) ∧ (3 < (Lib.decodeN n b0 b1 b2 b3).2 → 128 ≤ b3)) := by
  unfold Lib.decodeN
  (repeat' split) <;> simp_all <;> omega
theorem blk_at0 {l : List UInt8} {k : Nat} (h : k < l.length) : blk l[k] = (decide (at0 l k = 32) || decide (at0 l k = 9)) := by
  unfold at0 blk
  rw [List.getD_eq_getElem?_getD, List.getElem?_eq_getElem h]
  rfl
theorem blkP_iff (n : Nat) : blkP n = true ↔ n = 32 ∨ n = 9 := by
  simp [blkP, blkB]
  omega
theorem dec_yes {l : List UInt8} (hl : l ≠ []) (h : blkP (decL l).1 = true) : ∃ a r, l = a :: r ∧ blk a = true ∧ (decL l).2 = 1 := by
  have hp := List.length_pos_iff.2 hl
  have := (dec_blank l.length (at0 l 0) (at0 l 1) (at0 l 2) (at0 l 3)).1 ((blkP_iff _).1 h)
  cases l with
  | nil => exact absurd rfl hl
  | cons a r =>
    refine ⟨a, r, rfl, ?_, this.2⟩
    have hb := blk_at0 (l := a :: r) (k := 0) (by simp)
    have h1 := (blkP_iff _).1 h
    have e : blk a = _ := hb
    rw [e, this.1]
    simp
    exact h1
theorem dec_no {l : List UInt8} (hl : l ≠ []) (h : blkP (decL l).1 = false) : ∀ a ∈ l.take (decL l).2, blk a = false := by
  have hp := List.length_pos_iff.2 hl
  have hw := dec_width l.length (at0 l 0) (at0 l 1) (at0 l 2) (at0 l 3) hp
  have hn : ¬ ((decL l).1 = 32 ∨ (decL l).1 = 9) := fun e => by rw [(blkP_iff _).2 e] at h; cases h
  have := (dec_blank l.length (at0 l 0) (at0 l 1) (at0 l 2) (at0 l 3)).2 hn
  intro a ha
  obtain ⟨j, hj, rfl⟩ := List.getElem_of_mem ha
  have hj1 : j < (decL l).2 := by simp at hj; omega
  have hj2 : j < l.length := by simp at hj; omega
  rw [List.getElem_take, blk_at0 hj2]
  have hw2 : (decL l).2 ≤ 4 := hw.2.2
  unfold decL at hj1 hw2
  match j, hj1, hj2 with
  | 0, _, _ => simp; omega
  | 1, h1, _ => have := this.2.1 h1; simp; omega
  | 2, h1, _ => have := this.2.2.1 h1; simp; omega
  | 3, h1, _ => have := this.2.2.2 h1; simp; omega
  | j + 4, h1, _ => omega
def curOf (l : List UInt8) (pos : Nat) : Option Nat → List UInt8
  | none => []
  | some a => pieceL l a pos
theorem spans_wl (s : ByteArray) : ∀ (f pos : Nat) (st : Option Nat) (acc : List (Nat × Nat)), pos ≤ s.size → s.size ≤ pos + f → (∀ a, st = some a → a < pos) →
    (Lib.closeSpans s (Lib.spansFromP blkP s f pos st acc)).map (fun x => pieceL s.data.toList x.1 x.2) = acc.map (fun x => pieceL s.data.toList x.1 x.2) ++ wl (curOf s.data.toList pos st) (s.data.toList.drop pos) := by
  have hL : s.data.toList.length = s.size := by simp
  intro f
  induction f with
  | zero =>
    intro pos st acc h1 h2 h3
    obtain rfl : pos = s.size := by omega
    rw [List.drop_eq_nil_of_le (by omega)]
    cases st with
    | none => simp [Lib.spansFromP, Lib.closeSpans, curOf, wl]
    | some a =>
      have ha := h3 a rfl
      have hne : pieceL s.data.toList a s.size ≠ [] := by
        intro e
        have : (pieceL s.data.toList a s.size).length = 0 := by rw [e]; rfl
        simp only [pieceL, List.length_take, List.length_drop] at this
        omega
      simp [Lib.spansFromP, Lib.closeSpans, curOf, wl, hne]
  | succ f ih =>
    intro pos st acc h1 h2 h3
    by_cases hlt : pos < s.size
    · simp only [Lib.spansFromP, hlt, if_true, decode_drop]
      have hne : s.data.toList.drop pos ≠ [] := by
        intro e
        have : (s.data.toList.drop pos).length = 0 := by rw [e]; rfl
        rw [List.length_drop] at this
        omega
      have hw := dec_width (s.data.toList.drop pos).length (at0 (s.data.toList.drop pos) 0) (at0 (s.data.toList.drop pos) 1) (at0 (s.data.toList.drop pos) 2) (at0 (s.data.toList.drop pos) 3) (List.length_pos_iff.2 hne)
      have hw' : 1 ≤ (decL (s.data.toList.drop pos)).2 ∧ (decL (s.data.toList.drop pos)).2 ≤ s.size - pos := by
        refine ⟨hw.1, ?_⟩
        have := hw.2.1
        rw [List.length_drop, hL] at this
        unfold decL
        rw [List.length_drop, hL]
        exact this
      cases hb : blkP (decL (s.data.toList.drop pos)).1
      · have hno := dec_no hne hb
        rw [if_neg (by simp)]
        obtain ⟨K, hK⟩ : ∃ K, K = (decL (s.data.toList.drop pos)).2 := ⟨_, rfl⟩
        rw [← hK] at hno hw' ⊢
        have hsplit : s.data.toList.drop pos = (s.data.toList.drop pos).take K ++ s.data.toList.drop (pos + K) := by
          rw [← List.drop_drop, List.take_append_drop]
        have hcur : ∀ a, a ≤ pos → pieceL s.data.toList a pos ++ (s.data.toList.drop pos).take K = pieceL s.data.toList a (pos + K) := by
          intro a ha
          unfold pieceL
          rw [show pos + K - a = (pos - a) + K from by omega, List.take_add, List.drop_drop, show a + (pos - a) = pos from by omega]
        cases st with
        | none =>
          simp only
          rw [ih (pos + K) (some pos) acc (by omega) (by omega) (fun a e => by cases e; omega)]
          congr 1
          conv => rhs; rw [hsplit]
          rw [wl_run _ _ _ hno]
          show wl (pieceL s.data.toList pos (pos + K)) _ = wl ([] ++ _) _
          rw [← hcur pos (Nat.le_refl _), pieceL_same]
        | some a =>
          simp only
          rw [ih (pos + K) (some a) acc (by omega) (by omega) (fun a' e => by cases e; have := h3 a rfl; omega)]
          congr 1
          conv => rhs; rw [hsplit]
          rw [wl_run _ _ _ hno]
          show wl (pieceL s.data.toList a (pos + K)) _ = wl (pieceL s.data.toList a pos ++ _) _
          rw [hcur a (by have := h3 a rfl; omega)]
      · obtain ⟨a0, r0, he, hba, hK⟩ := dec_yes hne hb
        rw [if_pos rfl, hK]
        have hr : s.data.toList.drop (pos + 1) = r0 := by rw [← List.drop_drop, he]; rfl
        cases st with
        | none =>
          simp only
          rw [ih (pos + 1) none acc (by omega) (by omega) (fun a e => by cases e), hr, he]
          show _ = _ ++ wl [] (a0 :: r0)
          rw [wl, hba, if_pos rfl, if_pos rfl]
          rfl
        | some a =>
          simp only
          have ha := h3 a rfl
          have hne2 : pieceL s.data.toList a pos ≠ [] := by
            intro e
            have : (pieceL s.data.toList a pos).length = 0 := by rw [e]; rfl
            simp only [pieceL, List.length_take, List.length_drop] at this
            omega
          rw [ih (pos + 1) none (acc ++ [(a, pos)]) (by omega) (by omega) (fun a e => by cases e), hr, he]
          show _ = _ ++ wl (pieceL s.data.toList a pos) (a0 :: r0)
          rw [wl, hba, if_pos rfl, if_neg hne2, List.map_append, List.append_assoc]
          rfl
    · obtain rfl : pos = s.size := by omega
      have := ih s.size st acc h1 (by omega) h3
      rw [Lib.spansFromP_end _ _ _ _ _ _ hlt]
      rw [Lib.spansFromP_end _ _ _ _ _ _ hlt] at this
      exact this
theorem fields_wl (s : ByteArray) : (Lib.goFieldsP blkP s).map (·.data.toList) = wl [] s.data.toList := by
  have := spans_wl s s.size 0 none [] (Nat.zero_le _) (by omega) (fun a e => by cases e)
  rw [Lib.goFieldsP, List.map_map, Lib.spansOfP]
  have e : ((fun x : ByteArray => x.data.toList) ∘ fun x : Nat × Nat => s.extract x.1 x.2) = fun x => pieceL s.data.toList x.1 x.2 := by
    funext x
    simp only [Function.comp]
    rw [extract_piece]
  rw [e, this]
  simp [curOf]
theorem foldG_eq (s : ByteArray) : foldG s = foldL s.data.toList := by
  rw [foldG, fields_wl]
  rfl
theorem fields_len (s : ByteArray) : (Lib.goFieldsP blkP s).length ≤ s.size + 1 := by
  have h := congrArg List.length (fields_wl s)
  rw [List.length_map] at h
  rw [h]
  have hL : s.data.toList.length = s.size := by simp
  have := wl_len s.data.toList []
  omega

end Go.Proofs.YtnmffehmjgknkaaGreatDoor.Ch
