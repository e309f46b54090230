/-
  The words of MD5 and of SHA-256, and the states they begin with, by contracts.
-/
import Derived.Test.YtnmffehmjgknkaaGreatDoorWds
namespace Go.Proofs.YtnmffehmjgknkaaGreatDoor
open Go.RowKit

def md5K : List Wd := [0xd76aa478, 0xe8c7b756, 0x242070db, 0xc1bdceee, 0xf57c0faf, 0x4787c62a, 0xa8304613, 0xfd469501, 0x698098d8, 0x8b44f7af, 0xffff5bb1, 0x895cd7be, 0x6b901122, 0xfd987193, 0xa679438e, 0x49b40821, 0xf61e2562, 0xc040b340, 0x265e5a51, 0xe9b6c7aa, 0xd62f105d, 0x02441453, 0xd8a1e681, 0xe7d3fbc8, 0x21e1cde6, 0xc33707d6, 0xf4d50d87, 0x455a14ed, 0xa9e3e905, 0xfcefa3f8, 0x676f02d9, 0x8d2a4c8a, 0xfffa3942, 0x8771f681, 0x6d9d6122, 0xfde5380c, 0xa4beea44, 0x4bdecfa9, 0xf6bb4b60, 0xbebfbc70, 0x289b7ec6, 0xeaa127fa, 0xd4ef3085, 0x04881d05, 0xd9d4d039, 0xe6db99e5, 0x1fa27cf8, 0xc4ac5665, 0xf4292244, 0x432aff97, 0xab9423a7, 0xfc93a039, 0x655b59c3, 0x8f0ccc92, 0xffeff47d, 0x85845dd1, 0x6fa87e4f, 0xfe2ce6e0, 0xa3014314, 0x4e0811a1, 0xf7537e82, 0xbd3af235, 0x2ad7d2bb, 0xeb86d391]
def shaK : List Wd := [0x428a2f98, 0x71374491, 0xb5c0fbcf, 0xe9b5dba5, 0x3956c25b, 0x59f111f1, 0x923f82a4, 0xab1c5ed5, 0xd807aa98, 0x12835b01, 0x243185be, 0x550c7dc3, 0x72be5d74, 0x80deb1fe, 0x9bdc06a7, 0xc19bf174, 0xe49b69c1, 0xefbe4786, 0x0fc19dc6, 0x240ca1cc, 0x2de92c6f, 0x4a7484aa, 0x5cb0a9dc, 0x76f988da, 0x983e5152, 0xa831c66d, 0xb00327c8, 0xbf597fc7, 0xc6e00bf3, 0xd5a79147, 0x06ca6351, 0x14292967, 0x27b70a85, 0x2e1b2138, 0x4d2c6dfc, 0x53380d13, 0x650a7354, 0x766a0abb, 0x81c2c92e, 0x92722c85, 0xa2bfe8a1, 0xa81a664b, 0xc24b8b70, 0xc76c51a3, 0xd192e819, 0xd6990624, 0xf40e3585, 0x106aa070, 0x19a4c116, 0x1e376c08, 0x2748774c, 0x34b0bcb5, 0x391c0cb3, 0x4ed8aa4a, 0x5b9cca4f, 0x682e6ff3, 0x748f82ee, 0x78a5636f, 0x84c87814, 0x8cc70208, 0x90befffa, 0xa4506ceb, 0xbef9a3f7, 0xc67178f2]
def md5I : List Wd := [0x67452301, 0xefcdab89, 0x98badcfe, 0x10325476]
def shaI : List Wd := [0x6a09e667, 0xbb67ae85, 0x3c6ef372, 0xa54ff53a, 0x510e527f, 0x9b05688c, 0x1f83d9ab, 0x5be0cd19]

theorem wpList_build_is {P : Program} {ops : Array Oper} {rest : List Oper} {o : Oper} {a : Act} {w : World} {Q : Exit → Act → World → Prop} (hg : o.guard = none) (t : TypeId) (parts : Array (Nat × Operand)) (ho : o.op = .build t parts)
    (cells : Array Value) (hf : P.built t (parts.map fun (i, x) => (i, a.eval x)).toList = some cells)
    (h : wpList P ops Q rest (a.put o.dst (.agg cells)) w) : wpList P ops Q (o :: rest) a w := by
  refine wpList_build hg t parts ho (by rw [hf]; rfl) ?_
  rw [hf]
  exact h

theorem shaWords_any (w : World) : Calls Tryz.prog 162 #[] w fun e w' => e = .returned (.agg (wcs shaK).toArray) ∧ Below w.heap.size w w' := by
  have hz : (zeroValue 176).run Tryz.prog w = .ok (.agg (wcs (zeros 64)).toArray) w := (zero_of_info (P := Tryz.prog) (t := 176) (v := .agg (wcs (zeros 64)).toArray) (n := 64) (by kernel_rfl)).1 w
  have hnew : (w.alloc (.cells (wcs (zeros 64)).toArray 176)).heap[w.heap.size]? = some (.cells (wcs (zeros 64)).toArray 176 (0, 0)) := heap_alloc_last w _
  have HN : Hid _ := hnew
  clear hnew
  go_enter Tryz.func162, Tryz.ntmps162
  go_wp2_with (first
    | refine wpList_build_is rfl 176 _ rfl (wcs shaK).toArray (by kernel_rfl) ?_
    | refine wpList_store_row rfl 176 _ _ rfl _ _ rfl rfl 176 _ HN.out size176 rfl (wcs_all _) ?_)
  refine bodyPost_ret (results_cell_row rfl _ _ w.heap.size 176 _ (0, 0) _ rfl (setRow_heap _ _ _ _ _ _ HN.out) Tryz.underlying176 rfl size176) rfl ?_
  exact ⟨rfl, ((Below.refl _ w).alloc (Nat.le_refl _) _).trans ⟨rfl, rfl, rfl, by simp, fun j hj => setRow_other _ _ _ _ (by omega)⟩⟩

theorem newSHA_any (w : World) : Calls Tryz.prog 111 #[] w fun e w' => e = .returned (.pointer (some ⟨w.heap.size, 0, none⟩)) ∧ w' = w.alloc (.cells (wcs shaI).toArray 175) := by
  go_enter Tryz.func111, Tryz.ntmps111
  go_wp2_with (refine wpList_build_is rfl 175 _ rfl (wcs shaI).toArray (by kernel_rfl) ?_)
  go_ret
  exact ⟨rfl, rfl⟩
end Go.Proofs.YtnmffehmjgknkaaGreatDoor
