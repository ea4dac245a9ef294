/- The program's words of an ask. -/
import Derived.Shelf.Strings.Split
import Derived.Test.YtbngjpnbjknliaaGreatDoorProg
import Derived.Test.YtbngjpnbjknliaaGreatDoorJ1
import Derived.Test.YtbngjpnbjknliaaGreatDoorJ5
import Derived.WalkKit
import Derived.BigCall
import Derived.Test.YtbngjpnbjknliaaGreatDoorJ14
import Derived.Deep.AppendLies
import Derived.Deep.RegionHeld3
namespace Go.Proofs.YtbngjpnbjknliaaGreatDoor
set_option linter.unusedVariables false
set_option linter.unusedSimpArgs false
open Go.Shelf Go
def lays143_ren : Go.Shelf.Ren := ⟨fun | 143 => 49 | 219 => 66 | 217 => 82 | 225 => 83 | 224 => 84 | 267 => 85 | 266 => 93 | 314 => 94 | n => n, fun | 9 => 9 | 3 => 3 | 4 => 4 | 5 => 5 | 46 => 106 | 146 => 127 | 51 => 98 | n => n, fun | 1 => 0 | n => n⟩
theorem lays143 : Go.Proofs.Lays.n143 Tryz.prog lays143_ren := {
  mixed := by kernel_rfl
  f143 := Tryz.func49.trans (congrArg some (by kernel_rfl))
  f217 := Tryz.func82.trans (congrArg some (by kernel_rfl))
  f219 := Tryz.func66.trans (congrArg some (by kernel_rfl))
  f224 := Tryz.func84.trans (congrArg some (by kernel_rfl))
  f225 := Tryz.func83.trans (congrArg some (by kernel_rfl))
  f266 := Tryz.func93.trans (congrArg some (by kernel_rfl))
  f267 := Tryz.func85.trans (congrArg some (by kernel_rfl))
  f314 := Tryz.func94.trans (congrArg some (by kernel_rfl))
  t3 := Tryz.underlying3
  a3 := Tryz.isAgg3
  z3 := Tryz.sizeOf3
  v3 := Tryz.zeroValue3
  t4 := Tryz.underlying4
  a4 := Tryz.isAgg4
  z4 := Tryz.sizeOf4
  v4 := Tryz.zeroValue4
  t5 := Tryz.underlying5
  a5 := Tryz.isAgg5
  z5 := Tryz.sizeOf5
  v5 := Tryz.zeroValue5
  t9 := Tryz.underlying9
  a9 := Tryz.isAgg9
  z9 := Tryz.sizeOf9
  v9 := Tryz.zeroValue9
  t46 := Tryz.underlying106
  a46 := Tryz.isAgg106
  z46 := Tryz.sizeOf106
  v46 := Tryz.zeroValue106
  t51 := Tryz.underlying98
  a51 := Tryz.isAgg98
  z51 := Tryz.sizeOf98
  v51 := Tryz.zeroValue98
  t146 := Tryz.underlying127
  a146 := Tryz.isAgg127
  z146 := Tryz.sizeOf127
  v146 := Tryz.zeroValue127
  g1 := by kernel_rfl }
open Go.RowKit Go.Lib in
theorem strings_Index_one (s : ByteArray) (c : UInt8) (w : World) :
    Calls Tryz.prog 49 #[.string s, .string ⟨#[c]⟩] w fun e w' => e = .returned (.int .i64 (Lib.indexByte s.data.toList c)) ∧ w' = w := Any.strings_Index_one lays143 s c w
def lays138_ren : Go.Shelf.Ren := ⟨fun | 138 => 48 | 195 => 63 | 218 => 65 | 143 => 49 | 219 => 66 | 217 => 82 | 225 => 83 | 224 => 84 | 267 => 85 | 266 => 93 | 314 => 94 | n => n, fun | 9 => 9 | 3 => 3 | 4 => 4 | 5 => 5 | 0 => 0 | 46 => 106 | 146 => 127 | 51 => 98 | n => n, fun | 1 => 0 | n => n⟩
theorem lays138 : Go.Proofs.Lays.n138 Tryz.prog lays138_ren := {
  mixed := by kernel_rfl
  f138 := Tryz.func48.trans (congrArg some (by kernel_rfl))
  f143 := Tryz.func49.trans (congrArg some (by kernel_rfl))
  f195 := Tryz.func63.trans (congrArg some (by kernel_rfl))
  f217 := Tryz.func82.trans (congrArg some (by kernel_rfl))
  f218 := Tryz.func65.trans (congrArg some (by kernel_rfl))
  f219 := Tryz.func66.trans (congrArg some (by kernel_rfl))
  f224 := Tryz.func84.trans (congrArg some (by kernel_rfl))
  f225 := Tryz.func83.trans (congrArg some (by kernel_rfl))
  f266 := Tryz.func93.trans (congrArg some (by kernel_rfl))
  f267 := Tryz.func85.trans (congrArg some (by kernel_rfl))
  f314 := Tryz.func94.trans (congrArg some (by kernel_rfl))
  t0 := Tryz.underlying0
  a0 := Tryz.isAgg0
  z0 := Tryz.sizeOf0
  v0 := Tryz.zeroValue0
  t3 := Tryz.underlying3
  a3 := Tryz.isAgg3
  z3 := Tryz.sizeOf3
  v3 := Tryz.zeroValue3
  t4 := Tryz.underlying4
  a4 := Tryz.isAgg4
  z4 := Tryz.sizeOf4
  v4 := Tryz.zeroValue4
  t5 := Tryz.underlying5
  a5 := Tryz.isAgg5
  z5 := Tryz.sizeOf5
  v5 := Tryz.zeroValue5
  t9 := Tryz.underlying9
  a9 := Tryz.isAgg9
  z9 := Tryz.sizeOf9
  v9 := Tryz.zeroValue9
  t46 := Tryz.underlying106
  a46 := Tryz.isAgg106
  z46 := Tryz.sizeOf106
  v46 := Tryz.zeroValue106
  t51 := Tryz.underlying98
  a51 := Tryz.isAgg98
  z51 := Tryz.sizeOf98
  v51 := Tryz.zeroValue98
  t146 := Tryz.underlying127
  a146 := Tryz.isAgg127
  z146 := Tryz.sizeOf127
  v146 := Tryz.zeroValue127
  g1 := by kernel_rfl }
open Go.RowKit Go.Lib in
theorem strings_Count_one (s : ByteArray) (c : UInt8) (w : World) :
    Calls Tryz.prog 48 #[.string s, .string ⟨#[c]⟩] w fun e w' => e = .returned (.int .i64 (Lib.countByte s.data.toList c)) ∧ w' = w := Any.strings_Count_one lays138 s c w
def lays221_ren : Go.Shelf.Ren := ⟨fun | 221 => 31 | 268 => 47 | 138 => 48 | 143 => 49 | 195 => 63 | 197 => 64 | 218 => 65 | 219 => 66 | 260 => 81 | 217 => 82 | 225 => 83 | 224 => 84 | 267 => 85 | 266 => 93 | 314 => 94 | n => n, fun | 9 => 9 | 3 => 3 | 31 => 28 | 4 => 4 | 0 => 0 | 105 => 101 | 21 => 21 | 5 => 5 | 46 => 106 | 119 => 123 | 139 => 126 | 138 => 125 | 146 => 127 | 51 => 98 | n => n, fun | 1 => 0 | 3 => 3 | 4 => 4 | n => n⟩
theorem lays221 : Go.Proofs.Lays.n221 Tryz.prog lays221_ren := {
  mixed := by kernel_rfl
  f138 := Tryz.func48.trans (congrArg some (by kernel_rfl))
  f143 := Tryz.func49.trans (congrArg some (by kernel_rfl))
  f195 := Tryz.func63.trans (congrArg some (by kernel_rfl))
  f197 := Tryz.func64.trans (congrArg some (by kernel_rfl))
  f217 := Tryz.func82.trans (congrArg some (by kernel_rfl))
  f218 := Tryz.func65.trans (congrArg some (by kernel_rfl))
  f219 := Tryz.func66.trans (congrArg some (by kernel_rfl))
  f221 := Tryz.func31.trans (congrArg some (by kernel_rfl))
  f224 := Tryz.func84.trans (congrArg some (by kernel_rfl))
  f225 := Tryz.func83.trans (congrArg some (by kernel_rfl))
  f260 := Tryz.func81.trans (congrArg some (by kernel_rfl))
  f266 := Tryz.func93.trans (congrArg some (by kernel_rfl))
  f267 := Tryz.func85.trans (congrArg some (by kernel_rfl))
  f268 := Tryz.func47.trans (congrArg some (by kernel_rfl))
  f314 := Tryz.func94.trans (congrArg some (by kernel_rfl))
  t0 := Tryz.underlying0
  a0 := Tryz.isAgg0
  z0 := Tryz.sizeOf0
  v0 := Tryz.zeroValue0
  t3 := Tryz.underlying3
  a3 := Tryz.isAgg3
  z3 := Tryz.sizeOf3
  v3 := Tryz.zeroValue3
  t4 := Tryz.underlying4
  a4 := Tryz.isAgg4
  z4 := Tryz.sizeOf4
  v4 := Tryz.zeroValue4
  t5 := Tryz.underlying5
  a5 := Tryz.isAgg5
  z5 := Tryz.sizeOf5
  v5 := Tryz.zeroValue5
  t9 := Tryz.underlying9
  a9 := Tryz.isAgg9
  z9 := Tryz.sizeOf9
  v9 := Tryz.zeroValue9
  t21 := Tryz.underlying21
  a21 := Tryz.isAgg21
  z21 := Tryz.sizeOf21
  v21 := Tryz.zeroValue21
  t31 := Tryz.underlying28
  a31 := Tryz.isAgg28
  z31 := Tryz.sizeOf28
  v31 := Tryz.zeroValue28
  t46 := Tryz.underlying106
  a46 := Tryz.isAgg106
  z46 := Tryz.sizeOf106
  v46 := Tryz.zeroValue106
  t51 := Tryz.underlying98
  a51 := Tryz.isAgg98
  z51 := Tryz.sizeOf98
  v51 := Tryz.zeroValue98
  t105 := Tryz.underlying101
  a105 := Tryz.isAgg101
  z105 := Tryz.sizeOf101
  v105 := Tryz.zeroValue101
  t119 := Tryz.underlying123
  a119 := Tryz.isAgg123
  z119 := Tryz.sizeOf123
  t138 := Tryz.underlying125
  a138 := Tryz.isAgg125
  z138 := Tryz.sizeOf125
  v138 := Tryz.zeroValue125
  t139 := Tryz.underlying126
  a139 := Tryz.isAgg126
  z139 := Tryz.sizeOf126
  v139 := Tryz.zeroValue126
  t146 := Tryz.underlying127
  a146 := Tryz.isAgg127
  z146 := Tryz.sizeOf127
  v146 := Tryz.zeroValue127
  g1 := by kernel_rfl
  g3 := by kernel_rfl
  g4 := by kernel_rfl }
end Go.Proofs.YtbngjpnbjknliaaGreatDoor

namespace Go.Proofs.YtbngjpnbjknliaaGreatDoor
set_option linter.unusedVariables false
set_option linter.unusedSimpArgs false
open Go.RowKit Go

theorem cutL_lenB (c : UInt8) (l : List UInt8) : ∀ x ∈ cutL c l, x.length ≤ l.length := by
  induction l with
  | nil => intro x hx; simp [cutL] at hx; subst hx; simp
  | cons y l ih =>
    intro x hx
    rw [cutL] at hx
    split at hx
    · rcases List.mem_cons.1 hx with rfl | hx
      · simp
      · have := ih x hx; simp; omega
    · split at hx
      · rename_i h t he
        rcases List.mem_cons.1 hx with rfl | hx
        · have := ih h (by rw [he]; simp); simp; omega
        · have := ih x (by rw [he]; simp [hx]); simp; omega
      · simp at hx; subst hx; simp
theorem cutL_manyB (c : UInt8) (l : List UInt8) : (cutL c l).length ≤ l.length + 1 := by
  induction l with
  | nil => simp [cutL]
  | cons y l ih =>
    rw [cutL]
    split
    · simp; omega
    · split
      · rename_i h t he; rw [he] at ih; simp at ih ⊢; omega
      · simp
theorem indexByte_at (c : UInt8) : ∀ (a b : List UInt8), (∀ x ∈ a, x ≠ c) → Lib.indexByte (a ++ c :: b) c = a.length := by
  intro a
  induction a with
  | nil => intro b _; simp [Lib.indexByte]
  | cons x a ih =>
    intro b h
    have h1 := ih b (fun y hy => h y (List.mem_cons_of_mem _ hy))
    have hx : (x == c) = false := by simpa using h x (by simp)
    simp only [List.cons_append, Lib.indexByte, hx, h1, List.length_cons]
    rw [if_neg (by simp), if_neg (by simp)]
    simp
theorem split_cut (c : UInt8) : ∀ (k : Nat) (l : List UInt8), l.count c = k → Lib.splitK [c] 0 k l = cutL c l := by
  intro k
  induction k with
  | zero =>
    intro l h
    rw [cutL_none c l (fun x hx e => by subst e; exact absurd h (Nat.ne_of_gt (List.count_pos_iff.2 hx)))]
    rfl
  | succ k ih =>
    intro l h
    have hm : c ∈ l := List.count_pos_iff.1 (by omega)
    obtain ⟨a, b, rfl, ha⟩ := List.eq_append_cons_of_mem hm
    have ha' : ∀ x ∈ a, x ≠ c := fun x hx e => ha (e ▸ hx)
    have hi : Lib.index (a ++ c :: b) [c] = a.length := by rw [Lib.index_one, indexByte_at c a b ha']
    have hc : b.count c = k := by
      rw [List.count_append, List.count_cons_self, List.count_eq_zero.2 ha] at h; omega
    rw [cutL_piece c a b ha', Lib.splitK, hi]
    simp only [List.length_cons, List.length_nil]
    rw [if_neg (by simp)]
    have e1 : ((a.length : Int)).toNat = a.length := by omega
    rw [e1, ← ih b hc]
    simp
theorem splitB_cut (s : ByteArray) : bys (Lib.splitB ⟨#[32]⟩ 0 (Lib.countB s ⟨#[32]⟩) s) = cutL 32 s.data.toList := by
  have e := Lib.splitB_data ⟨#[32]⟩ 0 (Lib.countB s ⟨#[32]⟩) s
  have e2 : Lib.countB s ⟨#[32]⟩ = s.data.toList.count 32 := Lib.count_one 32 s.data.toList
  have e3 := split_cut 32 (s.data.toList.count 32) s.data.toList rfl
  rw [← e2] at e3
  exact e.trans e3

theorem genSplit (s : ByteArray) (w : World) (hs : s.size ≤ 16777216) :
    Calls Tryz.prog 31 #[.string s, .string ⟨#[32]⟩, .int .i64 0, .int .i64 (-1)] w fun e w' =>
      e = .returned (.slice (some ⟨w.heap.size, 0, none⟩) (Lib.countB s ⟨#[32]⟩ + 1) (Lib.countB s ⟨#[32]⟩ + 1)) ∧ w' = w.alloc (.cells ((Lib.splitB ⟨#[32]⟩ 0 (Lib.countB s ⟨#[32]⟩) s).map Value.string).toArray 9) := by
  have h1 : (1 : Nat) ≤ (⟨#[32]⟩ : ByteArray).size := by decide
  have hle := Lib.countB_le ⟨#[32]⟩ h1 s.size s (Nat.le_refl _)
  have hlen := Lib.splitB_all ⟨#[32]⟩ h1 0 _ s rfl
  have hone : ∀ (x : ByteArray) (w : World), Calls Tryz.prog 49 #[.string x, .string ⟨#[32]⟩] w fun e w' => e = .returned (.int .i64 (Lib.indexB x ⟨#[32]⟩)) ∧ w' = w := fun x w => by
    have h := strings_Index_one x 32 w
    have e : Lib.indexB x ⟨#[32]⟩ = Lib.indexByte x.data.toList 32 := Lib.index_one x.data.toList 32
    rw [e]; exact h
  have hcnt : Calls Tryz.prog 48 #[.string s, .string ⟨#[32]⟩] w fun e w' => e = .returned (.int .i64 (Lib.countB s ⟨#[32]⟩)) ∧ w' = w := by
    have h := strings_Count_one s 32 w
    have e : Lib.countB s ⟨#[32]⟩ = s.data.toList.count 32 := Lib.count_one 32 s.data.toList
    rw [e]; exact h
  have c := Any.strings_genSplit_core lays221 (by kernel_rfl) s ⟨#[32]⟩ 0 (-1) (Lib.countB s ⟨#[32]⟩ + 1) w (by omega) h1 (Nat.zero_le _) (fun x c _ => hone x _) hcnt (by decide) (by decide) (by rw [if_pos (by decide)]; omega)
  rw [Nat.add_sub_cancel, hlen] at c
  have e2 : Lib.cellsOf (Lib.splitB ⟨#[32]⟩ 0 (Lib.countB s ⟨#[32]⟩) s) (Lib.countB s ⟨#[32]⟩ + 1) = ((Lib.splitB ⟨#[32]⟩ 0 (Lib.countB s ⟨#[32]⟩) s).map Value.string).toArray := by rw [← hlen]; exact Lib.cellsOf_full _
  rw [e2] at c
  exact c

theorem splitSp (s : ByteArray) (w : World) (hs : s.size ≤ 16777216) :
    Calls Tryz.prog 13 #[.string s, .string ⟨#[32]⟩] w fun e w' => ∃ v ps, e = .returned v ∧ Row w' v (sv ps) ∧ bys ps = cutL 32 s.data.toList ∧ Below w.heap.size w w' := by
  have h := genSplit s w hs
  have h1 : (1 : Nat) ≤ (⟨#[32]⟩ : ByteArray).size := by decide
  have hle := Lib.countB_le ⟨#[32]⟩ h1 s.size s (Nat.le_refl _)
  have hlen := Lib.splitB_all ⟨#[32]⟩ h1 0 _ s rfl
  have hcut := splitB_cut s
  have HX : Hid _ := (⟨hle, hlen, hcut⟩ : _ ∧ _ ∧ _)
  clear hcut hlen hle
  go_enter Tryz.func13, Tryz.ntmps13
  go_wp2_with (go_at_call 31; refine h.mono ?_; rintro e w1 ⟨rfl, rfl⟩)
  go_ret
  obtain ⟨hle, hlen, hcut⟩ := HX.out
  generalize Lib.splitB ⟨#[32]⟩ 0 (Lib.countB s ⟨#[32]⟩) s = ps at hlen hcut
  refine ⟨_, ps, rfl, ?_, hcut, (Below.refl _ _).alloc (Nat.le_refl _) _⟩
  have := Row.made w (sv ps) 9 (by unfold maxLen; rw [sv_len]; omega)
  rw [sv_len, hlen] at this
  exact this
end Go.Proofs.YtbngjpnbjknliaaGreatDoor

namespace Go.Proofs.YtbngjpnbjknliaaGreatDoor
set_option linter.unusedVariables false
set_option linter.unusedSimpArgs false
open Go.RowKit Go

set_option maxRecDepth 100000 in
set_option maxHeartbeats 4000000 in
theorem entryWords_9 (id : Int) (key name : ByteArray) (a : Option Addr) (len cap : Nat) (zs : List Int) (w : World) (hr : IsRow .i64 w a len cap zs) (ht : Tab w) (hl : len ≤ 1048576) (hi : (Lit.int .i64 id).wf = true) :
    Calls Tryz.prog 36 #[.agg #[.int .i64 9, .int .i64 id, .string key, .string name, .slice a len cap]] w fun e w' => ∃ v, e = .returned v ∧ Row w' v (sv (⟨#[101, 110, 100]⟩ :: itoB id :: numS zs)) ∧ Below w.heap.size w w' := by
  have t0 := ta_end_start
  have t1 := ta_end_mark
  have t2 := ta_end_ask
  have t3 := ta_end_hap
  have t4 := ta_end_end
  have kw := kw_9
  have HT : Hid (Tab w) := ht
  have HK : Hid (∀ w', Below (w.heap.size + 1) (w.alloc (.cells #[.int .i64 9, .int .i64 id, .string key, .string name, .slice a len cap] 32)) w' → Calls Tryz.prog 27 #[] w' fun e w'' => e = .returned (.agg #[.string ⟨#[]⟩, .string ⟨#[115, 116, 97, 114, 116]⟩, .string ⟨#[109, 97, 114, 107]⟩, .string ⟨#[97, 115, 107]⟩, .string ⟨#[100, 111, 110, 101]⟩, .string ⟨#[98, 114, 111, 107, 101]⟩, .string ⟨#[102, 105, 114, 101, 100]⟩, .string ⟨#[115, 105, 103, 110, 97, 108]⟩, .string ⟨#[99, 97, 110, 99, 101, 108]⟩, .string ⟨#[101, 110, 100]⟩]) ∧ Below (w.heap.size + 1) (w.alloc (.cells #[.int .i64 9, .int .i64 id, .string key, .string name, .slice a len cap] 32)) w'') := fun w' hb => boxed hb (kindWords w')
  have HNO : Hid (∀ w', Below (w.heap.size + 1) (w.alloc (.cells #[.int .i64 9, .int .i64 id, .string key, .string name, .slice a len cap] 32)) w' → Calls Tryz.prog 50 #[.agg #[.int .i64 9, .int .i64 id, .string key, .string name, .slice a len cap]] w' fun x w'' => x = .returned (.iface 94 (.agg #[.int .i64 id, .slice a len cap])) ∧ Below w'.heap.size w' w'') := fun w' hb => noteOf_9 id key name a len cap w'
  have HNW : Hid (∀ w', Below (w.heap.size + 1) (w.alloc (.cells #[.int .i64 9, .int .i64 id, .string key, .string name, .slice a len cap] 32)) w' → Calls Tryz.prog 54 #[.slice a len cap] w' fun e w'' => ∃ v, e = .returned v ∧ Row w'' v (sv (numS zs)) ∧ Below w'.heap.size w' w'') := fun w' hb => numWords a len cap zs w' (hr.below (unbox hb)) (HT.out.below (unbox hb)) hl
  have hz := hr.len.1
  have HIT : Hid (∀ w', Below w.heap.size w w' → Calls Tryz.prog 55 #[.int .i64 id] w' fun e w'' => e = .returned (.string (itoB id)) ∧ Below w'.heap.size w' w'') := fun w' hb => itoa id hi w' (HT.out.below hb)
  clear hr ht hi
  go_enter Tryz.func36, Tryz.ntmps36
  go_wp2_with fail
  first | (go_region_with (go_at_call 27; refine (HK.out _ ?_).mono ?_; (first | exact Below.refl _ _ | assumption | exact (Below.refl _ _).drew); rintro x w1 ⟨rfl, hw1⟩; obtain ⟨c10, c11, c12, c13, c14⟩ := box5 hw1)) | fail
  all_goals
    have hs1 : w.heap.size < w1.heap.size := by have := hw1.size; simp at this; omega
    go_wp2_with first
      | (go_at_call 50; refine (HNO.out _ ?_).mono ?_; exact hw1.alloc (by omega) _; rintro x w2 ⟨rfl, hw2⟩; have hb2 := bcall (hw1.alloc (by omega) _) (by simp; omega) hw2; have hown2 := own_below (own_one (F := w.heap.size + 1) _ (by omega)) hw2; have hs2 : w.heap.size + 1 ≤ w2.heap.size := (by have := hb2.size; simpa using this); have hs12 : w1.heap.size + 1 ≤ w2.heap.size := (by have := hw2.size; simpa using this))
      | (go_at_call 55; refine (HIT.out _ (by exact unbox (hb2.alloc hs2 _))).mono ?_; rintro x w3 ⟨rfl, hw3⟩; have hown3 := own_below (own_alloc hown2 _) hw3; have hb3 := bcall (hb2.alloc hs2 _) (by simp; omega) hw3; have hx3 := box2 (w := w2) (by simpa using hw3); have hs3 : w2.heap.size + 1 ≤ w3.heap.size := (by have := hw3.size; simpa using this))
      | (at_builtin; refine wp_app_strs rfl _ _ rfl (w.heap.size + 1) _ _ 1 _ [itoB id] rfl (own_alloc hown3 _) rfl (by exact Row.made w3 [.string (itoB id)] 9 (by unfold maxLen; simp)) (by simp) (by simp; omega) ?_; intro v4 w4 hown4 hg4 hgr4; have hb4 := (hb3.alloc (by omega) _).trans hg4; have hs4 : w.heap.size + 1 ≤ w4.heap.size := (by have := hb4.size; simpa using this); have hne4 : some w2.heap.size ≠ (Value.slice (some ⟨w1.heap.size, 0, none⟩) 1 1).ownBlock := (by show some w2.heap.size ≠ some w1.heap.size; intro h; injection h with h; omega); have c4 : w4.cell? ⟨w2.heap.size, 1, none⟩ = some (.slice a len cap) := (hgr4.cell_far ⟨w2.heap.size, 1, none⟩ (by simp; omega) hne4).trans ((World.cell?_alloc_past (w := w3) _ w2.heap.size 1 (by omega)).trans hx3.2))
      | (go_at_call 54; refine (HNW.out _ hb4).mono ?_; rintro x w5 ⟨v5, rfl, hv5, hw5⟩; have hown5 := own_below hown4 hw5; have hb5 := bcall hb4 hs4 hw5)
      | (at_builtin; refine wp_app_strs rfl _ _ rfl (w.heap.size + 1) _ _ 2 _ (numS zs) rfl hown5 rfl hv5 (by rw [numS_len]; omega) (by have := hb5.size; simp at this; omega) ?_; intro v6 w6 hown6 hg6 hgr6)
    go_ret
    exact ⟨_, rfl, Row.owned hown6, unbox (hb5.trans hg6)⟩
end Go.Proofs.YtbngjpnbjknliaaGreatDoor

namespace Go.Proofs.YtbngjpnbjknliaaGreatDoor
set_option linter.unusedVariables false
set_option linter.unusedSimpArgs false
open Go.RowKit Go

theorem news3 {w : World} {b : Nat} {x y z : Value} {t : TypeId} (h : w.heap[b]? = some (.cells #[x, y, z] t (0, 0))) : ∀ j u, [x, y, z][j]? = some u → w.cell? ((⟨b, 0, none⟩ : Addr).add j) = some u := by
  intro j u hj
  rw [Addr.add_lit, Nat.zero_add, cell_of_row _ _ _ _ _ _ h]
  simpa using hj
theorem keep_far {w3 w4 : World} {o : Obj} {B R off : Nat} {v : Value} (hg : (w3.alloc o).grownBy w4 (some R)) (hB : B < w3.heap.size) (hne : B ≠ R) (hc : w3.cell? ⟨B, off, none⟩ = some v) : w4.cell? ⟨B, off, none⟩ = some v :=
  (hg.cell_far ⟨B, off, none⟩ (by simp; omega) (fun h => by injection h with h; exact hne h)).trans ((World.cell?_alloc_past (w := w3) _ B off hB).trans hc)
/-- Three strings are appended, as one step of a region that draws. -/
theorem step_app3 {ops : Array Oper} {o : Oper} {a : Act} {K : Act → World → Prop} {Q : Exit → Act → World → Prop} {E : Prop} {w3 : World} {F : Nat} {v : Value} {n : Nat} {xs : List ByteArray} {x y z : ByteArray} (hown : w3.ownsRow F 9 1 v n (sv xs)) (hF : F ≤ w3.heap.size) (hn : n ≤ 1000000) (hgd : o.guard = none) (s t : Operand)
    (ho : o.op = .call { callee := .builtin .append, args := #[s, t], argTypes := #[28, 28] }) (hs : a.eval s = v) (ht : a.eval t = .slice (some ⟨w3.heap.size, 0, none⟩) 3 3)
    (h : ∀ g cap w', w'.ownsRow F 9 1 (.slice (some ⟨g, 0, none⟩) (n + 3) cap) (n + 3) (sv (xs ++ [x, y, z])) → (w3.alloc (.cells #[.string x, .string y, .string z] 9)).grownBy w' v.ownBlock → K (a.put o.dst (.slice (some ⟨g, 0, none⟩) (n + 3) cap)) w') :
    if Region.wanted o (yielded ops a.tmps) = true then Oper.wp Tryz.prog o a (w3.alloc (.cells #[.string x, .string y, .string z] 9)) K Q else E := by
  obtain ⟨i0, hi0, hzz⟩ := Option.map_eq_some_iff.1 Tryz.infoS
  simp only [Prod.mk.injEq] at hzz
  obtain ⟨hz0, hz1, hz2⟩ := hzz
  refine step_append_lies _ hgd s t 28 ho F 9 i0 _ 1 16 Tryz.underlying28 hi0 hz0 hz1 hz2 rfl (by omega) v n (sv xs) hs (own_alloc hown _) ⟨w3.heap.size, 0, none⟩ 3 3 [.string x, .string y, .string z] ht rfl (news3 (heap_alloc_new w3 _)) (by simp [Value.oneCell']) (by omega) (by unfold maxLen; omega) (by omega) (by simp; omega) _ rfl ?_
  intro g cap w' h1 h2 _ _
  exact h g cap w' (by rw [sv_app]; exact h1) h2
theorem undrew {B : Nat} {w w' : World} (h : Below B w.drew w') : Below B w w' := ⟨h.os, h.tape, h.output, h.size, h.block⟩

set_option maxRecDepth 100000 in
set_option maxHeartbeats 4000000 in
theorem entryWords_3 (id : Int) (key name : ByteArray) (a : Option Addr) (len cap : Nat) (zs : List Int) (w : World) (hr : IsRow .i64 w a len cap zs) (ht : Tab w) (hl : len ≤ 1048576) (hi : (Lit.int .i64 id).wf = true) :
    Calls Tryz.prog 36 #[.agg #[.int .i64 3, .int .i64 id, .string key, .string name, .slice a len cap]] w fun e w' => ∃ v, e = .returned v ∧ Row w' v (sv (⟨#[97, 115, 107]⟩ :: itoB id :: key :: nmT name :: numS zs)) ∧ Below w.heap.size w w' := by
  have t0 := ta_ask_start
  have t1 := ta_ask_mark
  have t2 := ta_ask_ask
  have t3 := ta_ask_hap
  have t4 := ta_ask_end
  have kw := kw_3
  have HT : Hid (Tab w) := ht
  have HK : Hid (∀ w', Below (w.heap.size + 1) (w.alloc (.cells #[.int .i64 3, .int .i64 id, .string key, .string name, .slice a len cap] 32)) w' → Calls Tryz.prog 27 #[] w' fun e w'' => e = .returned (.agg #[.string ⟨#[]⟩, .string ⟨#[115, 116, 97, 114, 116]⟩, .string ⟨#[109, 97, 114, 107]⟩, .string ⟨#[97, 115, 107]⟩, .string ⟨#[100, 111, 110, 101]⟩, .string ⟨#[98, 114, 111, 107, 101]⟩, .string ⟨#[102, 105, 114, 101, 100]⟩, .string ⟨#[115, 105, 103, 110, 97, 108]⟩, .string ⟨#[99, 97, 110, 99, 101, 108]⟩, .string ⟨#[101, 110, 100]⟩]) ∧ Below (w.heap.size + 1) (w.alloc (.cells #[.int .i64 3, .int .i64 id, .string key, .string name, .slice a len cap] 32)) w'') := fun w' hb => boxed hb (kindWords w')
  have HNO : Hid (∀ w', Below (w.heap.size + 1) (w.alloc (.cells #[.int .i64 3, .int .i64 id, .string key, .string name, .slice a len cap] 32)) w' → Calls Tryz.prog 50 #[.agg #[.int .i64 3, .int .i64 id, .string key, .string name, .slice a len cap]] w' fun x w'' => x = .returned (.iface 88 (.agg #[.int .i64 id, .string key, .string name, .slice a len cap])) ∧ Below w'.heap.size w' w'') := fun w' hb => noteOf_3 id key name a len cap w'
  have HNW : Hid (∀ w', Below (w.heap.size + 1) (w.alloc (.cells #[.int .i64 3, .int .i64 id, .string key, .string name, .slice a len cap] 32)) w' → Calls Tryz.prog 54 #[.slice a len cap] w' fun e w'' => ∃ v, e = .returned v ∧ Row w'' v (sv (numS zs)) ∧ Below w'.heap.size w' w'') := fun w' hb => numWords a len cap zs w' (hr.below (unbox hb)) (HT.out.below (unbox hb)) hl
  have hz := hr.len.1
  have HIT : Hid (∀ w', Below w.heap.size w w' → Calls Tryz.prog 55 #[.int .i64 id] w' fun e w'' => e = .returned (.string (itoB id)) ∧ Below w'.heap.size w' w'') := fun w' hb => itoa id hi w' (HT.out.below hb)
  have HNM : Hid (∀ w', Calls Tryz.prog 56 #[.string name] w' fun e w'' => e = .returned (.string (nmT name)) ∧ w'' = w') := fun w' => nameWord name w'
  clear hr ht hi
  go_enter Tryz.func36, Tryz.ntmps36
  go_wp2_with fail
  first | (go_region_with (go_at_call 27; refine (HK.out _ ?_).mono ?_; (first | exact Below.refl _ _ | assumption | exact (Below.refl _ _).drew); rintro x w1 ⟨rfl, hw1⟩; obtain ⟨c10, c11, c12, c13, c14⟩ := box5 hw1)) | fail
  all_goals
    have hs1 : w.heap.size < w1.heap.size := by have := hw1.size; simp at this; omega
    go_wp2_with first
      | (go_at_call 50; refine (HNO.out _ ?_).mono ?_; exact hw1.alloc (by omega) _; rintro x w2 ⟨rfl, hw2⟩; have hb2 := bcall (hw1.alloc (by omega) _) (by simp; omega) hw2; have hown2 := own_below (own_one (F := w.heap.size + 1) _ (by omega)) hw2; have hs2 : w.heap.size + 1 ≤ w2.heap.size := (by have := hb2.size; simpa using this); have hs12 : w1.heap.size + 1 ≤ w2.heap.size := (by have := hw2.size; simpa using this))
    go_region_held3 (fun w' => w'.cell? ⟨w2.heap.size, 0, none⟩ = some (.int .i64 id) ∧ w'.cell? ⟨w2.heap.size, 1, none⟩ = some (.string key) ∧ w'.cell? ⟨w2.heap.size, 2, none⟩ = some (.string name) ∧ w'.cell? ⟨w2.heap.size, 3, none⟩ = some (.slice a len cap)) (first | go_keep | exact ⟨keep_far hgr4 (by omega) (by omega) x30, keep_far hgr4 (by omega) (by omega) x31, keep_far hgr4 (by omega) (by omega) x32, keep_far hgr4 (by omega) (by omega) x33⟩)
      (first
        | (go_at_call 55; refine (HIT.out _ ?_).mono ?_; exact (unbox (hb2.alloc hs2 _)).drew; rintro x w3 ⟨rfl, hd3⟩; have hw3 := undrew hd3; have hown3 := own_below (own_alloc hown2 _) hw3; have hb3 := bcall (hb2.alloc hs2 _) (by simp; omega) hw3; obtain ⟨x30, x31, x32, x33⟩ := box4 (w := w2) (V := w3) (by simpa using hw3); have hs3 : w2.heap.size + 1 ≤ w3.heap.size := (by have := hw3.size; simpa using this); have hF3 : w.heap.size + 1 ≤ w3.heap.size := (by omega))
        | (go_at_call 56; refine (HNM.out _).mono ?_; rintro x w4 ⟨rfl, he4⟩; have he5 := he4.symm; clear he4; subst he5)
        | (refine step_app3 hown3 hF3 (by omega) (by rfl) _ _ (by rfl) (by rfl) (by rfl) ?_; intro g cap4 w4 hown4 hgq4; have hgr4 : (w3.alloc (.cells #[.string (itoB id), .string key, .string (nmT name)] 9)).grownBy w4 (some w1.heap.size) := hgq4))
    have c4 := keep_far hgr4 (by omega) (by omega) x33
    have hb4 := (hb3.alloc (by omega) _).trans ((Below.refl _ _).grown hgr4 (by simp; omega) (fun k hk => by injection hk with hk; omega))
    have hs4 : w.heap.size + 1 ≤ w4.heap.size := (by have := hb4.size; simpa using this)
    go_wp2_with first
      | (go_at_call 54; refine (HNW.out _ hb4).mono ?_; rintro x w5 ⟨v5, rfl, hv5, hw5⟩; have hown5 := own_below hown4 hw5; have hb5 := bcall hb4 hs4 hw5)
      | (at_builtin; refine wp_app_strs rfl _ _ rfl (w.heap.size + 1) _ _ 4 [⟨#[97, 115, 107]⟩, itoB id, key, nmT name] (numS zs) rfl hown5 rfl hv5 (by rw [numS_len]; omega) (by have := hb5.size; simp at this; omega) ?_; intro v6 w6 hown6 hg6 hgr6)
    go_ret
    exact ⟨_, rfl, Row.owned hown6, unbox (hb5.trans hg6)⟩
end Go.Proofs.YtbngjpnbjknliaaGreatDoor
