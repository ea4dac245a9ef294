/- The reader of drawn inputs: the drawn regions of l43Spoil: their frames, and what each operation leaves. (Written by wip/gen/gen_dr7.py.) -/
import Derived.Test.YtkemfifkjaclhaaGreatDoorJ9
namespace Go.Proofs.YtkemfifkjaclhaaGreatDoor
set_option linter.unusedVariables false
set_option linter.unusedSimpArgs false
open Go.RowKit Go
namespace Dr

theorem wp_frame {P : Program} {Q : Exit → Act → World → Prop} {c : Code} {w : World} (act : Act) (fr : (Nat → Value) → (Nat → Value) → Act) (hact : act = fr (fun j => act.tmps.getD j undef) (fun _ => undef)) (h : ∀ T : Nat → Value, T = (fun j => act.tmps.getD j undef) → c.wp P Q (fr T fun _ => undef) w) : c.wp P Q act w := by
  rw [hact]; exact h _ rfl
def frame14 (T xs : Nat → Value) : Act := { tmps := #[T 0, T 1, T 2, T 3, T 4, T 5, T 6, T 7, T 8, T 9, T 10, T 11, T 12, T 13, T 14, T 15, T 16, T 17, T 18, T 19, T 20, T 21, T 22, T 23, T 24, T 25, T 26, T 27, T 28, T 29, T 30, T 31, T 32, T 33, T 34, T 35, T 36, T 37, T 38, T 39, T 40, T 41, T 42, T 43, T 44, T 45, T 46, T 47, T 48, T 49, xs 0, xs 1, xs 2, xs 3, xs 4, xs 5, xs 6, xs 7, xs 8, xs 9, xs 10, xs 11, xs 12, xs 13, T 64, T 65, T 66, T 67, T 68, T 69, T 70, T 71, T 72, T 73, T 74, T 75, T 76, T 77, T 78, T 79, T 80, T 81, T 82, T 83, T 84, T 85, T 86, T 87, T 88, T 89, T 90, T 91, T 92, T 93, T 94, T 95, T 96, T 97, T 98, T 99, T 100, T 101, T 102, T 103, T 104, T 105, T 106, T 107, T 108, T 109, T 110, T 111, T 112, T 113, T 114, T 115, T 116, T 117, T 118, T 119, T 120, T 121, T 122, T 123, T 124, T 125, T 126, T 127, T 128, T 129, T 130, T 131, T 132, T 133, T 134, T 135, T 136, T 137, T 138, T 139, T 140, T 141, T 142, T 143, T 144, T 145, T 146, T 147, T 148, T 149, T 150, T 151, T 152, T 153, T 154, T 155, T 156], defers := [] }
/-- What an operation leaves in its slot. -/
def Ok14 (R g n cv k base : Nat) (ev : Int) (vk : Value) : Nat → Value → World → Prop
  | 0, v, _ => v = .slice (some ⟨g, 0, none⟩) n cv
  | 1, v, _ => v = .int .i64 (k : Int)
  | 2, v, _ => v = .slice (some ⟨g, 0, none⟩) n cv
  | 3, v, _ => v = .int .i64 (k : Int)
  | 4, v, _ => v = .pointer (some ⟨g, k * 5, none⟩)
  | 5, v, _ => v = .pointer (some ⟨g, k * 5, none⟩)
  | 6, v, _ => v = .int .i64 ev
  | 7, v, W => ∃ b, v = .slice (some ⟨b, 0, none⟩) 2 2 ∧ base ≤ b ∧ b < W.heap.size ∧ W.cell? ⟨b, 0, none⟩ = some (.int .i64 (-1)) ∧ W.cell? ⟨b, 1, none⟩ = some (.int .i64 (ev))
  | 8, v, _ => v = .pointer (some ⟨R, 0, none⟩)
  | 9, v, _ => ∃ y : Nat, v = .int .i64 (y : Int) ∧ y < 2
  | 10, v, W => ∃ (b y : Nat) (z : Int), v = .pointer (some ⟨b, y, none⟩) ∧ base ≤ b ∧ b < W.heap.size ∧ W.cell? ⟨b, y, none⟩ = some (.int .i64 z) ∧ -1 ≤ z ∧ z ≤ 999999
  | 11, v, _ => ∃ z : Int, v = .int .i64 z ∧ -1 ≤ z ∧ z ≤ 999999
  | 12, v, _ => v = .pointer (some ⟨g, k * 5, none⟩)
  | 13, v, _ => v = .pointer (some ⟨g, k * 5 + 1, none⟩)
  | _ + 14, _, _ => True
theorem Ok14.mono {R g n cv k base : Nat} {ev : Int} {vk v : Value} {W W' : World} (hk : Near base W W') : ∀ j, Ok14 R g n cv k base ev vk j v W → Ok14 R g n cv k base ev vk j v W'
  | 0, h => h
  | 1, h => h
  | 2, h => h
  | 3, h => h
  | 4, h => h
  | 5, h => h
  | 6, h => h
  | 7, h => by obtain ⟨b, e, h1, h2, c0, c1⟩ := (show ∃ b, v = .slice (some ⟨b, 0, none⟩) 2 2 ∧ base ≤ b ∧ b < W.heap.size ∧ W.cell? ⟨b, 0, none⟩ = some (.int .i64 (-1)) ∧ W.cell? ⟨b, 1, none⟩ = some (.int .i64 (ev)) from h); exact ⟨b, e, h1, Nat.lt_of_lt_of_le h2 hk.1, (hk.cell h1 h2).trans c0, (hk.cell h1 h2).trans c1⟩
  | 8, h => h
  | 9, h => h
  | 10, h => by obtain ⟨b, y, z, e, h1, h2, c0, h3⟩ := (show ∃ (b y : Nat) (z : Int), v = .pointer (some ⟨b, y, none⟩) ∧ base ≤ b ∧ b < W.heap.size ∧ W.cell? ⟨b, y, none⟩ = some (.int .i64 z) ∧ -1 ≤ z ∧ z ≤ 999999 from h); exact ⟨b, y, z, e, h1, Nat.lt_of_lt_of_le h2 hk.1, (hk.cell h1 h2).trans c0, h3⟩
  | 11, h => h
  | 12, h => h
  | 13, h => h
  | _ + 14, h => trivial
def frame16 (T xs : Nat → Value) : Act := { tmps := #[T 0, T 1, T 2, T 3, T 4, T 5, T 6, T 7, T 8, T 9, T 10, T 11, T 12, T 13, T 14, T 15, T 16, T 17, T 18, T 19, T 20, T 21, T 22, T 23, T 24, T 25, T 26, T 27, T 28, T 29, T 30, T 31, T 32, T 33, T 34, T 35, T 36, T 37, T 38, T 39, T 40, T 41, T 42, T 43, T 44, T 45, T 46, T 47, T 48, T 49, T 50, T 51, T 52, T 53, T 54, T 55, T 56, T 57, T 58, T 59, T 60, T 61, T 62, T 63, T 64, T 65, xs 0, xs 1, xs 2, xs 3, xs 4, xs 5, xs 6, xs 7, xs 8, xs 9, xs 10, xs 11, xs 12, xs 13, xs 14, xs 15, xs 16, xs 17, xs 18, xs 19, T 86, T 87, T 88, T 89, T 90, T 91, T 92, T 93, T 94, T 95, T 96, T 97, T 98, T 99, T 100, T 101, T 102, T 103, T 104, T 105, T 106, T 107, T 108, T 109, T 110, T 111, T 112, T 113, T 114, T 115, T 116, T 117, T 118, T 119, T 120, T 121, T 122, T 123, T 124, T 125, T 126, T 127, T 128, T 129, T 130, T 131, T 132, T 133, T 134, T 135, T 136, T 137, T 138, T 139, T 140, T 141, T 142, T 143, T 144, T 145, T 146, T 147, T 148, T 149, T 150, T 151, T 152, T 153, T 154, T 155, T 156], defers := [] }
/-- What an operation leaves in its slot. -/
def Ok16 (R g n cv k base : Nat) (ev : Int) (vk : Value) : Nat → Value → World → Prop
  | 0, v, _ => v = .slice (some ⟨g, 0, none⟩) n cv
  | 1, v, _ => v = .int .i64 (k : Int)
  | 2, v, _ => v = .slice (some ⟨g, 0, none⟩) n cv
  | 3, v, _ => v = .int .i64 (k : Int)
  | 4, v, _ => v = .pointer (some ⟨g, k * 5, none⟩)
  | 5, v, _ => v = .pointer (some ⟨g, k * 5 + 3, none⟩)
  | 6, v, _ => v = .int .i64 ev
  | 7, v, _ => v = .slice (some ⟨g, 0, none⟩) n cv
  | 8, v, _ => v = .int .i64 (k : Int)
  | 9, v, _ => v = .pointer (some ⟨g, k * 5, none⟩)
  | 10, v, _ => v = .pointer (some ⟨g, k * 5 + 3, none⟩)
  | 11, v, _ => v = .int .i64 ev
  | 12, v, _ => v = .int .i64 (ev + 1)
  | 13, v, W => ∃ b, v = .slice (some ⟨b, 0, none⟩) 3 3 ∧ base ≤ b ∧ b < W.heap.size ∧ W.cell? ⟨b, 0, none⟩ = some (.int .i64 (-1)) ∧ W.cell? ⟨b, 1, none⟩ = some (.int .i64 (ev)) ∧ W.cell? ⟨b, 2, none⟩ = some (.int .i64 (ev + 1))
  | 14, v, _ => v = .pointer (some ⟨R, 0, none⟩)
  | 15, v, _ => ∃ y : Nat, v = .int .i64 (y : Int) ∧ y < 3
  | 16, v, W => ∃ (b y : Nat) (z : Int), v = .pointer (some ⟨b, y, none⟩) ∧ base ≤ b ∧ b < W.heap.size ∧ W.cell? ⟨b, y, none⟩ = some (.int .i64 z) ∧ -1 ≤ z ∧ z ≤ 999999
  | 17, v, _ => ∃ z : Int, v = .int .i64 z ∧ -1 ≤ z ∧ z ≤ 999999
  | 18, v, _ => v = .pointer (some ⟨g, k * 5, none⟩)
  | 19, v, _ => v = .pointer (some ⟨g, k * 5 + 2, none⟩)
  | _ + 20, _, _ => True
theorem Ok16.mono {R g n cv k base : Nat} {ev : Int} {vk v : Value} {W W' : World} (hk : Near base W W') : ∀ j, Ok16 R g n cv k base ev vk j v W → Ok16 R g n cv k base ev vk j v W'
  | 0, h => h
  | 1, h => h
  | 2, h => h
  | 3, h => h
  | 4, h => h
  | 5, h => h
  | 6, h => h
  | 7, h => h
  | 8, h => h
  | 9, h => h
  | 10, h => h
  | 11, h => h
  | 12, h => h
  | 13, h => by obtain ⟨b, e, h1, h2, c0, c1, c2⟩ := (show ∃ b, v = .slice (some ⟨b, 0, none⟩) 3 3 ∧ base ≤ b ∧ b < W.heap.size ∧ W.cell? ⟨b, 0, none⟩ = some (.int .i64 (-1)) ∧ W.cell? ⟨b, 1, none⟩ = some (.int .i64 (ev)) ∧ W.cell? ⟨b, 2, none⟩ = some (.int .i64 (ev + 1)) from h); exact ⟨b, e, h1, Nat.lt_of_lt_of_le h2 hk.1, (hk.cell h1 h2).trans c0, (hk.cell h1 h2).trans c1, (hk.cell h1 h2).trans c2⟩
  | 14, h => h
  | 15, h => h
  | 16, h => by obtain ⟨b, y, z, e, h1, h2, c0, h3⟩ := (show ∃ (b y : Nat) (z : Int), v = .pointer (some ⟨b, y, none⟩) ∧ base ≤ b ∧ b < W.heap.size ∧ W.cell? ⟨b, y, none⟩ = some (.int .i64 z) ∧ -1 ≤ z ∧ z ≤ 999999 from h); exact ⟨b, y, z, e, h1, Nat.lt_of_lt_of_le h2 hk.1, (hk.cell h1 h2).trans c0, h3⟩
  | 17, h => h
  | 18, h => h
  | 19, h => h
  | _ + 20, h => trivial
def frame20 (T xs : Nat → Value) : Act := { tmps := #[T 0, T 1, T 2, T 3, T 4, T 5, T 6, T 7, T 8, T 9, T 10, T 11, T 12, T 13, T 14, T 15, T 16, T 17, T 18, T 19, T 20, T 21, T 22, T 23, T 24, T 25, T 26, T 27, T 28, T 29, T 30, T 31, T 32, T 33, T 34, T 35, T 36, T 37, T 38, T 39, T 40, T 41, T 42, T 43, T 44, T 45, T 46, T 47, T 48, T 49, T 50, T 51, T 52, T 53, T 54, T 55, T 56, T 57, T 58, T 59, T 60, T 61, T 62, T 63, T 64, T 65, T 66, T 67, T 68, T 69, T 70, T 71, T 72, T 73, T 74, T 75, T 76, T 77, T 78, T 79, T 80, T 81, T 82, T 83, T 84, T 85, T 86, T 87, T 88, T 89, T 90, T 91, T 92, T 93, T 94, T 95, T 96, T 97, T 98, xs 0, xs 1, xs 2, xs 3, xs 4, xs 5, xs 6, xs 7, xs 8, xs 9, xs 10, xs 11, xs 12, xs 13, xs 14, xs 15, T 115, T 116, T 117, T 118, T 119, T 120, T 121, T 122, T 123, T 124, T 125, T 126, T 127, T 128, T 129, T 130, T 131, T 132, T 133, T 134, T 135, T 136, T 137, T 138, T 139, T 140, T 141, T 142, T 143, T 144, T 145, T 146, T 147, T 148, T 149, T 150, T 151, T 152, T 153, T 154, T 155, T 156], defers := [] }
/-- What an operation leaves in its slot. -/
def Ok20 (R g n cv k base : Nat) (ev : Int) (vk : Value) : Nat → Value → World → Prop
  | 0, v, _ => v = .slice (some ⟨g, 0, none⟩) n cv
  | 1, v, _ => v = .int .i64 (k : Int)
  | 2, v, _ => v = .slice (some ⟨g, 0, none⟩) n cv
  | 3, v, _ => v = .int .i64 (k : Int)
  | 4, v, _ => v = .pointer (some ⟨g, k * 5, none⟩)
  | 5, v, _ => v = .pointer (some ⟨g, k * 5 + 4, none⟩)
  | 6, v, _ => v = vk
  | 7, v, W => ∃ b, v = .slice (some ⟨b, 0, none⟩) 4 4 ∧ base ≤ b ∧ b < W.heap.size ∧ W.cell? ⟨b, 0, none⟩ = some (.int .i64 (0)) ∧ W.cell? ⟨b, 1, none⟩ = some (.int .i64 (-1)) ∧ W.cell? ⟨b, 2, none⟩ = some (.int .i64 (100000)) ∧ W.cell? ⟨b, 3, none⟩ = some (.int .i64 (100001))
  | 8, v, _ => v = .pointer (some ⟨R, 0, none⟩)
  | 9, v, _ => ∃ y : Nat, v = .int .i64 (y : Int) ∧ y < 4
  | 10, v, W => ∃ (b y : Nat) (z : Int), v = .pointer (some ⟨b, y, none⟩) ∧ base ≤ b ∧ b < W.heap.size ∧ W.cell? ⟨b, y, none⟩ = some (.int .i64 z) ∧ -1 ≤ z ∧ z ≤ 999999
  | 11, v, _ => ∃ z : Int, v = .int .i64 z ∧ -1 ≤ z ∧ z ≤ 999999
  | 12, v, W => ∃ (b : Nat) (z : Int), v = .slice (some ⟨b, 0, none⟩) 1 1 ∧ base ≤ b ∧ b < W.heap.size ∧ W.cell? ⟨b, 0, none⟩ = some (.int .i64 z) ∧ -1 ≤ z ∧ z ≤ 999999
  | 13, v, _ => ∃ (a : Option Addr) (l c : Nat), v = .slice a l c
  | 14, v, _ => v = .pointer (some ⟨g, k * 5, none⟩)
  | 15, v, _ => v = .pointer (some ⟨g, k * 5 + 4, none⟩)
  | _ + 16, _, _ => True
theorem Ok20.mono {R g n cv k base : Nat} {ev : Int} {vk v : Value} {W W' : World} (hk : Near base W W') : ∀ j, Ok20 R g n cv k base ev vk j v W → Ok20 R g n cv k base ev vk j v W'
  | 0, h => h
  | 1, h => h
  | 2, h => h
  | 3, h => h
  | 4, h => h
  | 5, h => h
  | 6, h => h
  | 7, h => by obtain ⟨b, e, h1, h2, c0, c1, c2, c3⟩ := (show ∃ b, v = .slice (some ⟨b, 0, none⟩) 4 4 ∧ base ≤ b ∧ b < W.heap.size ∧ W.cell? ⟨b, 0, none⟩ = some (.int .i64 (0)) ∧ W.cell? ⟨b, 1, none⟩ = some (.int .i64 (-1)) ∧ W.cell? ⟨b, 2, none⟩ = some (.int .i64 (100000)) ∧ W.cell? ⟨b, 3, none⟩ = some (.int .i64 (100001)) from h); exact ⟨b, e, h1, Nat.lt_of_lt_of_le h2 hk.1, (hk.cell h1 h2).trans c0, (hk.cell h1 h2).trans c1, (hk.cell h1 h2).trans c2, (hk.cell h1 h2).trans c3⟩
  | 8, h => h
  | 9, h => h
  | 10, h => by obtain ⟨b, y, z, e, h1, h2, c0, h3⟩ := (show ∃ (b y : Nat) (z : Int), v = .pointer (some ⟨b, y, none⟩) ∧ base ≤ b ∧ b < W.heap.size ∧ W.cell? ⟨b, y, none⟩ = some (.int .i64 z) ∧ -1 ≤ z ∧ z ≤ 999999 from h); exact ⟨b, y, z, e, h1, Nat.lt_of_lt_of_le h2 hk.1, (hk.cell h1 h2).trans c0, h3⟩
  | 11, h => h
  | 12, h => by obtain ⟨b, z, e, h1, h2, c0, h3⟩ := (show ∃ (b : Nat) (z : Int), v = .slice (some ⟨b, 0, none⟩) 1 1 ∧ base ≤ b ∧ b < W.heap.size ∧ W.cell? ⟨b, 0, none⟩ = some (.int .i64 z) ∧ -1 ≤ z ∧ z ≤ 999999 from h); exact ⟨b, z, e, h1, Nat.lt_of_lt_of_le h2 hk.1, (hk.cell h1 h2).trans c0, h3⟩
  | 13, h => h
  | 14, h => h
  | 15, h => h
  | _ + 16, h => trivial
theorem wp_act {P : Program} {Q : Exit → Act → World → Prop} {c : Code} {w : World} {act : Act} (act' : Act) (h : act = act') (h2 : c.wp P Q act' w) : c.wp P Q act w := h ▸ h2
def frame23 (R g k n wn : Nat) (ra : Option Addr) (rc cv j : Nat) (u7 u15 u16 u17 u18 u19 u20 u21 u22 u23 u24 u25 u26 u27 u28 u29 u127 u128 u129 u130 u131 u132 u133 u134 u135 u136 u137 u138 u139 u140 u141 : Value) (xs : Nat → Value) : Act := { tmps := #[Value.pointer (some ⟨R, 0, none⟩), Value.slice ra n rc, undef, undef, Value.slice none 0 0, Value.slice (some ⟨g, 0, none⟩) n cv, Value.int IntKind.i64 (n : Int), u7, Value.int IntKind.i64 (k : Int), Value.int IntKind.i64 (j : Int), Value.slice (some ⟨wn, 0, none⟩) 0 0, Value.int IntKind.i64 (n : Int), Value.slice ra n rc, Value.int IntKind.i64 (n : Int), Value.bool false, u15, u16, u17, u18, u19, u20, u21, u22, u23, u24, u25, u26, u27, u28, u29, Value.pointer (some ⟨R, 0, none⟩), Value.slice (some ⟨g, 0, none⟩) n cv, Value.int IntKind.i64 (n : Int), Value.int IntKind.i64 (k : Int), Value.pointer (some ⟨R, 0, none⟩), Value.int IntKind.i64 5, undef, Value.bool false, Value.bool false, undef, undef, undef, undef, undef, undef, undef, undef, undef, Value.bool false, Value.bool false, undef, undef, undef, undef, undef, undef, undef, undef, undef, undef, undef, undef, undef, undef, Value.bool false, Value.bool false, undef, undef, undef, undef, undef, undef, undef, undef, undef, undef, undef, undef, undef, undef, undef, undef, undef, undef, undef, undef, Value.bool false, Value.bool false, undef, undef, undef, undef, undef, undef, undef, undef, undef, Value.bool false, Value.bool false, undef, undef, undef, undef, undef, undef, undef, undef, undef, undef, undef, undef, undef, undef, undef, undef, Value.bool true, Value.bool true, xs 0, xs 1, xs 2, xs 3, xs 4, xs 5, xs 6, xs 7, xs 8, xs 9, u127, u128, u129, u130, u131, u132, u133, u134, u135, u136, u137, u138, u139, u140, u141, undef, undef, undef, undef, undef, undef, undef, undef, undef, undef, undef, undef, undef, undef, undef], defers := [] }
def Ok23 (R g n cv k : Nat) (L : Int) (vk : Value) : Nat → Value → World → Prop
  | 0, v, _ => v = .slice (some ⟨g, 0, none⟩) n cv
  | 1, v, _ => v = .int .i64 (k : Int)
  | 2, v, _ => v = .pointer (some ⟨g, k * 5, none⟩)
  | 3, v, _ => v = .pointer (some ⟨g, k * 5 + 4, none⟩)
  | 4, v, _ => v = vk
  | 5, v, _ => v = .int .i64 L
  | 6, v, _ => v = .pointer (some ⟨R, 0, none⟩)
  | 7, v, _ => ∃ y : Nat, v = .int .i64 (y : Int) ∧ y < 2
  | 8, v, _ => ∃ y : Nat, v = .int .i64 (8 + (y : Int)) ∧ y < 2
  | 9, v, _ => ∃ y : Nat, v = .bool (decide (L < 8 + (y : Int))) ∧ y < 2
  | _ + 10, _, _ => True
theorem Ok23.mono {R g n cv k : Nat} {L : Int} {vk v : Value} {W W' : World} : ∀ j, Ok23 R g n cv k L vk j v W → Ok23 R g n cv k L vk j v W'
  | 0, h => h | 1, h => h | 2, h => h | 3, h => h | 4, h => h | 5, h => h | 6, h => h | 7, h => h | 8, h => h | 9, h => h | _ + 10, h => trivial
end Dr
end Go.Proofs.YtkemfifkjaclhaaGreatDoor
