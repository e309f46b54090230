/-
  The law XmlWhite: where the texts are short.
-/
import Derived.Test.YtohkocknpmnakabGreatDoorLawWhite
namespace Go.Proofs.YtohkocknpmnakabGreatDoor
open Go.RowKit

def wsL : Nat → List UInt8
  | 0 => []
  | 1 => [32]
  | 2 => [10, 9]
  | _ => [13, 10, 32, 32]
theorem wsL_white (m : Nat) : whB (wsL m) = true := by
  unfold wsL
  split <;> decide
theorem wsL_len (m : Nat) : (wsL m).length ≤ 4 := by
  unfold wsL
  split <;> decide
theorem wsL_cell (w : World) (t : TypeId) (m : Nat) (h : m < 4) : (w.alloc (.cells #[.string ⟨#[]⟩, .string ⟨#[32]⟩, .string ⟨#[10, 9]⟩, .string ⟨#[13, 10, 32, 32]⟩] t)).cell? ⟨w.heap.size, m, none⟩ = some (.string ⟨(wsL m).toArray⟩) := by
  rw [cell_blk (heap_alloc_new w _) m]
  rcases (show m = 0 ∨ m = 1 ∨ m = 2 ∨ m = 3 by omega) with rfl | rfl | rfl | rfl <;> rfl
theorem lit_size (a : Array UInt8) : (⟨a⟩ : ByteArray).size = a.size := rfl
theorem ba_of {C : ByteArray} {l : List UInt8} (h : C.data.toList = l) : C = ⟨l.toArray⟩ := by
  subst h
  cases C
  simp
/-- The two texts that the law makes. -/
theorem docs (a b : List UInt8) (m : Nat) (hl : a.length + b.length ≤ 1000) :
    ∃ P Q V : ByteArray, P = ⟨(escX a).toArray⟩ ∧ Q = ⟨(escX b).toArray⟩ ∧ V = ⟨(wsL m).toArray⟩ ∧
    ∃ X1 X2 X3 X4 Y1 Y2 Y3 Y4 Y5 Y6 Y7 Y8 Y9 Y10 Y11 Y12 Y13 Y14 Y15 Y16 Y17 Y18 Y19 Y20 : ByteArray, (∀ wx, (Op.stringOp .add ⟨#[60, 114, 62, 60, 107, 62]⟩ P).run Tryz.prog wx = .ok (.string X1) wx) ∧ (∀ wx, (Op.stringOp .add X1 ⟨#[60, 47, 107, 62, 60, 118, 62]⟩).run Tryz.prog wx = .ok (.string X2) wx) ∧ (∀ wx, (Op.stringOp .add X2 Q).run Tryz.prog wx = .ok (.string X3) wx) ∧ (∀ wx, (Op.stringOp .add X3 ⟨#[60, 47, 118, 62, 60, 122, 62, 60, 47, 122, 62, 60, 47, 114, 62]⟩).run Tryz.prog wx = .ok (.string X4) wx) ∧ (∀ wx, (Op.stringOp .add V ⟨#[60, 114]⟩).run Tryz.prog wx = .ok (.string Y1) wx) ∧ (∀ wx, (Op.stringOp .add Y1 V).run Tryz.prog wx = .ok (.string Y2) wx) ∧ (∀ wx, (Op.stringOp .add Y2 ⟨#[32, 120, 61, 39, 49, 39, 62]⟩).run Tryz.prog wx = .ok (.string Y3) wx) ∧ (∀ wx, (Op.stringOp .add Y3 V).run Tryz.prog wx = .ok (.string Y4) wx) ∧ (∀ wx, (Op.stringOp .add Y4 ⟨#[60, 107, 32, 121, 61, 34, 50, 34, 62]⟩).run Tryz.prog wx = .ok (.string Y5) wx) ∧ (∀ wx, (Op.stringOp .add Y5 P).run Tryz.prog wx = .ok (.string Y6) wx) ∧ (∀ wx, (Op.stringOp .add Y6 ⟨#[60, 47, 107]⟩).run Tryz.prog wx = .ok (.string Y7) wx) ∧ (∀ wx, (Op.stringOp .add Y7 V).run Tryz.prog wx = .ok (.string Y8) wx) ∧ (∀ wx, (Op.stringOp .add Y8 ⟨#[62]⟩).run Tryz.prog wx = .ok (.string Y9) wx) ∧ (∀ wx, (Op.stringOp .add Y9 V).run Tryz.prog wx = .ok (.string Y10) wx) ∧ (∀ wx, (Op.stringOp .add Y10 ⟨#[60, 118, 62]⟩).run Tryz.prog wx = .ok (.string Y11) wx) ∧ (∀ wx, (Op.stringOp .add Y11 Q).run Tryz.prog wx = .ok (.string Y12) wx) ∧ (∀ wx, (Op.stringOp .add Y12 ⟨#[60, 47, 118, 62]⟩).run Tryz.prog wx = .ok (.string Y13) wx) ∧ (∀ wx, (Op.stringOp .add Y13 V).run Tryz.prog wx = .ok (.string Y14) wx) ∧ (∀ wx, (Op.stringOp .add Y14 ⟨#[60, 122]⟩).run Tryz.prog wx = .ok (.string Y15) wx) ∧ (∀ wx, (Op.stringOp .add Y15 V).run Tryz.prog wx = .ok (.string Y16) wx) ∧ (∀ wx, (Op.stringOp .add Y16 ⟨#[47, 62]⟩).run Tryz.prog wx = .ok (.string Y17) wx) ∧ (∀ wx, (Op.stringOp .add Y17 V).run Tryz.prog wx = .ok (.string Y18) wx) ∧ (∀ wx, (Op.stringOp .add Y18 ⟨#[60, 47, 114, 62]⟩).run Tryz.prog wx = .ok (.string Y19) wx) ∧ (∀ wx, (Op.stringOp .add Y19 V).run Tryz.prog wx = .ok (.string Y20) wx) ∧ X4 = ⟨(t1L (escX a) (escX b)).toArray⟩ ∧ Y20 = ⟨(t2L (wsL m) (escX a) (escX b)).toArray⟩ ∧ (t1L (escX a) (escX b)).length ≤ 65536 ∧ (t2L (wsL m) (escX a) (escX b)).length ≤ 65536 := by
  have hA := escX_len a
  have hB := escX_len b
  have hW := wsL_len m
  obtain ⟨P, hP⟩ : ∃ P : ByteArray, P = ⟨(escX a).toArray⟩ := ⟨_, rfl⟩
  obtain ⟨Q, hQ⟩ : ∃ Q : ByteArray, Q = ⟨(escX b).toArray⟩ := ⟨_, rfl⟩
  obtain ⟨V, hV⟩ : ∃ V : ByteArray, V = ⟨(wsL m).toArray⟩ := ⟨_, rfl⟩
  have zP : P.size ≤ 6000 := by rw [hP, mk_size]; omega
  have zQ : Q.size ≤ 6000 := by rw [hQ, mk_size]; omega
  have zV : V.size ≤ 4 := by rw [hV, mk_size]; omega
  refine ⟨P, Q, V, hP, hQ, hV, ?_⟩
  obtain ⟨X1, eX1, zX1, fX1⟩ := cat_ex ⟨#[60, 114, 62, 60, 107, 62]⟩ P (by (try simp only [lit_size, List.size_toArray, List.length_cons, List.length_nil]); omega)
  have yX1 : X1.size ≤ 6006 := by rw [zX1]; (try simp only [lit_size, List.size_toArray, List.length_cons, List.length_nil]); omega
  obtain ⟨X2, eX2, zX2, fX2⟩ := cat_ex X1 ⟨#[60, 47, 107, 62, 60, 118, 62]⟩ (by (try simp only [lit_size, List.size_toArray, List.length_cons, List.length_nil]); omega)
  have yX2 : X2.size ≤ 6013 := by rw [zX2]; (try simp only [lit_size, List.size_toArray, List.length_cons, List.length_nil]); omega
  obtain ⟨X3, eX3, zX3, fX3⟩ := cat_ex X2 Q (by (try simp only [lit_size, List.size_toArray, List.length_cons, List.length_nil]); omega)
  have yX3 : X3.size ≤ 12013 := by rw [zX3]; (try simp only [lit_size, List.size_toArray, List.length_cons, List.length_nil]); omega
  obtain ⟨X4, eX4, zX4, fX4⟩ := cat_ex X3 ⟨#[60, 47, 118, 62, 60, 122, 62, 60, 47, 122, 62, 60, 47, 114, 62]⟩ (by (try simp only [lit_size, List.size_toArray, List.length_cons, List.length_nil]); omega)
  have yX4 : X4.size ≤ 12028 := by rw [zX4]; (try simp only [lit_size, List.size_toArray, List.length_cons, List.length_nil]); omega
  obtain ⟨Y1, eY1, zY1, fY1⟩ := cat_ex V ⟨#[60, 114]⟩ (by (try simp only [lit_size, List.size_toArray, List.length_cons, List.length_nil]); omega)
  have yY1 : Y1.size ≤ 6 := by rw [zY1]; (try simp only [lit_size, List.size_toArray, List.length_cons, List.length_nil]); omega
  obtain ⟨Y2, eY2, zY2, fY2⟩ := cat_ex Y1 V (by (try simp only [lit_size, List.size_toArray, List.length_cons, List.length_nil]); omega)
  have yY2 : Y2.size ≤ 10 := by rw [zY2]; (try simp only [lit_size, List.size_toArray, List.length_cons, List.length_nil]); omega
  obtain ⟨Y3, eY3, zY3, fY3⟩ := cat_ex Y2 ⟨#[32, 120, 61, 39, 49, 39, 62]⟩ (by (try simp only [lit_size, List.size_toArray, List.length_cons, List.length_nil]); omega)
  have yY3 : Y3.size ≤ 17 := by rw [zY3]; (try simp only [lit_size, List.size_toArray, List.length_cons, List.length_nil]); omega
  obtain ⟨Y4, eY4, zY4, fY4⟩ := cat_ex Y3 V (by (try simp only [lit_size, List.size_toArray, List.length_cons, List.length_nil]); omega)
  have yY4 : Y4.size ≤ 21 := by rw [zY4]; (try simp only [lit_size, List.size_toArray, List.length_cons, List.length_nil]); omega
  obtain ⟨Y5, eY5, zY5, fY5⟩ := cat_ex Y4 ⟨#[60, 107, 32, 121, 61, 34, 50, 34, 62]⟩ (by (try simp only [lit_size, List.size_toArray, List.length_cons, List.length_nil]); omega)
  have yY5 : Y5.size ≤ 30 := by rw [zY5]; (try simp only [lit_size, List.size_toArray, List.length_cons, List.length_nil]); omega
  obtain ⟨Y6, eY6, zY6, fY6⟩ := cat_ex Y5 P (by (try simp only [lit_size, List.size_toArray, List.length_cons, List.length_nil]); omega)
  have yY6 : Y6.size ≤ 6030 := by rw [zY6]; (try simp only [lit_size, List.size_toArray, List.length_cons, List.length_nil]); omega
  obtain ⟨Y7, eY7, zY7, fY7⟩ := cat_ex Y6 ⟨#[60, 47, 107]⟩ (by (try simp only [lit_size, List.size_toArray, List.length_cons, List.length_nil]); omega)
  have yY7 : Y7.size ≤ 6033 := by rw [zY7]; (try simp only [lit_size, List.size_toArray, List.length_cons, List.length_nil]); omega
  obtain ⟨Y8, eY8, zY8, fY8⟩ := cat_ex Y7 V (by (try simp only [lit_size, List.size_toArray, List.length_cons, List.length_nil]); omega)
  have yY8 : Y8.size ≤ 6037 := by rw [zY8]; (try simp only [lit_size, List.size_toArray, List.length_cons, List.length_nil]); omega
  obtain ⟨Y9, eY9, zY9, fY9⟩ := cat_ex Y8 ⟨#[62]⟩ (by (try simp only [lit_size, List.size_toArray, List.length_cons, List.length_nil]); omega)
  have yY9 : Y9.size ≤ 6038 := by rw [zY9]; (try simp only [lit_size, List.size_toArray, List.length_cons, List.length_nil]); omega
  obtain ⟨Y10, eY10, zY10, fY10⟩ := cat_ex Y9 V (by (try simp only [lit_size, List.size_toArray, List.length_cons, List.length_nil]); omega)
  have yY10 : Y10.size ≤ 6042 := by rw [zY10]; (try simp only [lit_size, List.size_toArray, List.length_cons, List.length_nil]); omega
  obtain ⟨Y11, eY11, zY11, fY11⟩ := cat_ex Y10 ⟨#[60, 118, 62]⟩ (by (try simp only [lit_size, List.size_toArray, List.length_cons, List.length_nil]); omega)
  have yY11 : Y11.size ≤ 6045 := by rw [zY11]; (try simp only [lit_size, List.size_toArray, List.length_cons, List.length_nil]); omega
  obtain ⟨Y12, eY12, zY12, fY12⟩ := cat_ex Y11 Q (by (try simp only [lit_size, List.size_toArray, List.length_cons, List.length_nil]); omega)
  have yY12 : Y12.size ≤ 12045 := by rw [zY12]; (try simp only [lit_size, List.size_toArray, List.length_cons, List.length_nil]); omega
  obtain ⟨Y13, eY13, zY13, fY13⟩ := cat_ex Y12 ⟨#[60, 47, 118, 62]⟩ (by (try simp only [lit_size, List.size_toArray, List.length_cons, List.length_nil]); omega)
  have yY13 : Y13.size ≤ 12049 := by rw [zY13]; (try simp only [lit_size, List.size_toArray, List.length_cons, List.length_nil]); omega
  obtain ⟨Y14, eY14, zY14, fY14⟩ := cat_ex Y13 V (by (try simp only [lit_size, List.size_toArray, List.length_cons, List.length_nil]); omega)
  have yY14 : Y14.size ≤ 12053 := by rw [zY14]; (try simp only [lit_size, List.size_toArray, List.length_cons, List.length_nil]); omega
  obtain ⟨Y15, eY15, zY15, fY15⟩ := cat_ex Y14 ⟨#[60, 122]⟩ (by (try simp only [lit_size, List.size_toArray, List.length_cons, List.length_nil]); omega)
  have yY15 : Y15.size ≤ 12055 := by rw [zY15]; (try simp only [lit_size, List.size_toArray, List.length_cons, List.length_nil]); omega
  obtain ⟨Y16, eY16, zY16, fY16⟩ := cat_ex Y15 V (by (try simp only [lit_size, List.size_toArray, List.length_cons, List.length_nil]); omega)
  have yY16 : Y16.size ≤ 12059 := by rw [zY16]; (try simp only [lit_size, List.size_toArray, List.length_cons, List.length_nil]); omega
  obtain ⟨Y17, eY17, zY17, fY17⟩ := cat_ex Y16 ⟨#[47, 62]⟩ (by (try simp only [lit_size, List.size_toArray, List.length_cons, List.length_nil]); omega)
  have yY17 : Y17.size ≤ 12061 := by rw [zY17]; (try simp only [lit_size, List.size_toArray, List.length_cons, List.length_nil]); omega
  obtain ⟨Y18, eY18, zY18, fY18⟩ := cat_ex Y17 V (by (try simp only [lit_size, List.size_toArray, List.length_cons, List.length_nil]); omega)
  have yY18 : Y18.size ≤ 12065 := by rw [zY18]; (try simp only [lit_size, List.size_toArray, List.length_cons, List.length_nil]); omega
  obtain ⟨Y19, eY19, zY19, fY19⟩ := cat_ex Y18 ⟨#[60, 47, 114, 62]⟩ (by (try simp only [lit_size, List.size_toArray, List.length_cons, List.length_nil]); omega)
  have yY19 : Y19.size ≤ 12069 := by rw [zY19]; (try simp only [lit_size, List.size_toArray, List.length_cons, List.length_nil]); omega
  obtain ⟨Y20, eY20, zY20, fY20⟩ := cat_ex Y19 V (by (try simp only [lit_size, List.size_toArray, List.length_cons, List.length_nil]); omega)
  have yY20 : Y20.size ≤ 12073 := by rw [zY20]; (try simp only [lit_size, List.size_toArray, List.length_cons, List.length_nil]); omega
  have hX : X4 = ⟨(t1L (escX a) (escX b)).toArray⟩ := ba_of (by rw [eX4, eX3, eX2, eX1, hP, hQ]; simp [t1L, t1B])
  have hY : Y20 = ⟨(t2L (wsL m) (escX a) (escX b)).toArray⟩ := ba_of (by rw [eY20, eY19, eY18, eY17, eY16, eY15, eY14, eY13, eY12, eY11, eY10, eY9, eY8, eY7, eY6, eY5, eY4, eY3, eY2, eY1, hP, hQ, hV]; simp [t2L, t2B])
  refine ⟨X1, X2, X3, X4, Y1, Y2, Y3, Y4, Y5, Y6, Y7, Y8, Y9, Y10, Y11, Y12, Y13, Y14, Y15, Y16, Y17, Y18, Y19, Y20, fX1, fX2, fX3, fX4, fY1, fY2, fY3, fY4, fY5, fY6, fY7, fY8, fY9, fY10, fY11, fY12, fY13, fY14, fY15, fY16, fY17, fY18, fY19, fY20, hX, hY, ?_, ?_⟩
  · have h := yX4
    rw [hX, mk_size] at h
    omega
  · have h := yY20
    rw [hY, mk_size] at h
    omega
end Go.Proofs.YtohkocknpmnakabGreatDoor
