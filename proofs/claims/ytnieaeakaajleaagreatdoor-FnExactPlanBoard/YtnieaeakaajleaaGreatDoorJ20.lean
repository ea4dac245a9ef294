/- A region that draws its order, by a condition that each operation keeps, whatever came ahead of it: no order is branched over. -/
import Derived.Test.YtnieaeakaajleaaGreatDoorJ19
import Derived.Test.YtnieaeakaajleaaGreatDoorJ4
import Derived.Laws.AppendOwn
import Derived.Deep.AppendLies
import Derived.Test.YtnieaeakaajleaaGreatDoorJ15
import Derived.Test.YtnieaeakaajleaaGreatDoorProg
import Derived.OrdersHeld
import Derived.WalkKit
namespace Go.Proofs.YtnieaeakaajleaaGreatDoor
set_option linter.unusedVariables false
set_option linter.unusedSimpArgs false
open Go.RowKit Go
namespace Pl

theorem infoRows : (Tryz.prog.info? 67).map (fun i => (i.zero, i.size, i.bytes)) = some (some (.slice none 0 0), 1, 24) := by kernel_rfl
/-- Rows of words that are the call's own. -/
def OwnRowsW (W : World) (M : Nat) (v : Value) (rs : List (ByteArray × List ByteArray)) : Prop :=
  ∃ vs : List Value, ∃ hv : vs.length = rs.length, W.ownsRow M 67 1 v rs.length vs ∧ ∀ i (h : i < rs.length), ∃ n, W.ownsRow M 9 1 (vs[i]'(by omega)) n (sv (rs[i].1 :: rs[i].2))
theorem OwnRowsW.form {W : World} {M : Nat} {v : Value} {rs : List (ByteArray × List ByteArray)} (h : OwnRowsW W M v rs) : ∃ a c, v = .slice a rs.length c := by
  obtain ⟨vs, hv, h1, _⟩ := h
  rcases h1.2 with ⟨rfl, hn⟩ | ⟨g, cap, cur, rfl, _⟩
  · exact ⟨none, 0, by rw [hn]⟩
  · exact ⟨_, _, rfl⟩
theorem OwnRowsW.rows {W : World} {M : Nat} {v : Value} {rs : List (ByteArray × List ByteArray)} (h : OwnRowsW W M v rs) : RowsW W v rs := by
  obtain ⟨vs, hv, h1, h2⟩ := h
  exact ⟨vs, hv, Row.owned h1, fun i hi => by obtain ⟨n, hn⟩ := h2 i hi; exact Row.owned hn⟩
theorem OwnRowsW.below {W W' : World} {M : Nat} {v : Value} {rs : List (ByteArray × List ByteArray)} (h : OwnRowsW W M v rs) (hb : Below W.heap.size W W') : OwnRowsW W' M v rs := by
  obtain ⟨vs, hv, h1, h2⟩ := h
  exact ⟨vs, hv, own_below h1 hb, fun i hi => by obtain ⟨n, hn⟩ := h2 i hi; exact ⟨n, own_below hn hb⟩⟩
theorem OwnRowsW.push {w w' : World} {M : Nat} {v v' u : Value} {rs : List (ByteArray × List ByteArray)} {r : ByteArray × List ByteArray} {n : Nat} {vs : List Value} (hv : vs.length = rs.length) (h1 : w.ownsRow M 67 1 v rs.length vs)
    (h2 : ∀ i (h : i < rs.length), ∃ n, w.ownsRow M 9 1 (vs[i]'(by omega)) n (sv (rs[i].1 :: rs[i].2))) (h3 : w.ownsRow M 9 1 u n (sv (r.1 :: r.2)))
    (hown : w'.ownsRow M 67 1 v' (rs.length + 1) (vs ++ [u])) (hg : w.grownBy w' v.ownBlock) : OwnRowsW w' M v' (rs ++ [r]) := by
  have keep : ∀ (x : Value) (m : Nat) (xs : List Value), w.ownsRow M 9 1 x m xs → w'.ownsRow M 9 1 x m xs := fun x m xs h => by
    refine ⟨h.1, ?_⟩
    rcases h.2 with h | ⟨g, cap, cur, e1, e2, e3, e4⟩
    · exact .inl h
    · refine .inr ⟨g, cap, cur, e1, e2, (hg.block g (Array.getElem?_eq_some_iff.1 e3).1 (fun e => ?_)).trans e3, e4⟩
      rcases h1.2 with ⟨rfl, _⟩ | ⟨g', cap', cur', rfl, _, hgg, _⟩
      · simp [Value.ownBlock] at e
      · simp [Value.ownBlock] at e
        subst e
        rw [e3] at hgg
        simp at hgg
  refine ⟨vs ++ [u], by simp [hv], by simpa using hown, fun i hi => ?_⟩
  by_cases h : i < rs.length
  · obtain ⟨m, hm⟩ := h2 i h
    rw [List.getElem_append_left (by omega : i < vs.length), List.getElem_append_left h]
    exact ⟨m, keep _ _ _ hm⟩
  · have hie : i = rs.length := by simp at hi; omega
    subst hie
    rw [List.getElem_append_right (by omega : vs.length ≤ rs.length), List.getElem_append_right (Nat.le_refl _)]
    simp only [Nat.sub_self, List.getElem_cons_zero, hv]
    exact ⟨n, keep _ _ _ h3⟩
end Pl
end Go.Proofs.YtnieaeakaajleaaGreatDoor

namespace Go.Proofs.YtnieaeakaajleaaGreatDoor
set_option linter.unusedVariables false
set_option linter.unusedSimpArgs false
open Go.RowKit Go
namespace Pl

theorem append_none1 {P : Program} (w : World) (t ty e : TypeId) (i : TypeInfo) (ht : P.underlying t = some (.slice e)) (hi : P.info? e = some i) (b : Addr) (x : Option Addr) (c : Nat) :
    (Builtin.append_ #[t, t] ty #[.slice (some b) 1 1, .slice x 0 c]).run P w = .ok (.slice (some b) 1 1) w := by
  cases x <;> simp [Builtin.append_, run_underlying ht, sizeOf, typeInfo, hi, Builtin.lenOf, Builtin.firstCells, loadCells, loadCellsFrom, storeCells]
theorem wp_app_full {o : Oper} {a : Act} {K : Act → World → Prop} {Q : Exit → Act → World → Prop} {w : World} (s x : Operand)
    (ho : o.op = .call { callee := .builtin .append, args := #[s, x], argTypes := #[67, 67] })
    (F k : Nat) (vx : Value) (y : ByteArray) (ys : List ByteArray) (hs : a.eval s = .slice (some ⟨k, 0, none⟩) 1 1) (hown : w.ownsRow F 9 1 (.slice (some ⟨k, 0, none⟩) 1 1) 1 (sv [y]))
    (hx : a.eval x = vx) (hr : Row w vx (sv ys)) (hn : 1 + ys.length ≤ 1099511627776) (hF : F ≤ w.heap.size) {d : Option Nat} (hd : o.dst = d)
    (h : ∀ v' w', w'.ownsRow F 9 1 v' (1 + ys.length) (sv (y :: ys)) → Below w.heap.size w w' → K (a.put d v') w') : Oper.wp Tryz.prog o a w K Q := by
  obtain ⟨i, hi, hzz⟩ := Option.map_eq_some_iff.1 Tryz.infoS
  simp only [Prod.mk.injEq] at hzz
  obtain ⟨hz, hsize, hby⟩ := hzz
  have fin : ∃ v' w', (Builtin.append_ #[67, 67] o.type #[.slice (some ⟨k, 0, none⟩) 1 1, vx]).run Tryz.prog w = .ok v' w' ∧ w'.ownsRow F 9 1 v' (1 + ys.length) (sv (y :: ys)) ∧ Below w.heap.size w w' := by
    by_cases hys : ys = []
    · subst hys
      obtain ⟨ax, cx, rfl⟩ := hr.form
      exact ⟨_, w, append_none1 w 67 o.type 9 i Tryz.underlying67 hi _ _ _, hown, Below.refl _ _⟩
    · have hy0 : 0 < ys.length := List.length_pos_iff.2 hys
      rcases hr with ⟨_, he⟩ | ⟨b, off, cap, rfl, h1, h2, hb, hc⟩
      · cases ys with | nil => exact absurd rfl hys | cons y r => simp [sv] at he
      · have hnews : ∀ j u, (sv ys)[j]? = some u → w.cell? ((⟨b, off, none⟩ : Addr).add j) = some u := fun j u hj => by rw [Addr.add_lit]; exact hc j u hj
        have hone : ∀ u ∈ sv ys, u.oneCell' = true := fun u hu => by simp only [sv, List.mem_map] at hu; obtain ⟨q, _, rfl⟩ := hu; rfl
        obtain ⟨v', w', hr, h3, _, _⟩ := run_append_own (P := Tryz.prog) w F 67 o.type 9 i _ 1 16 Tryz.underlying67 hi hz hsize hby rfl (by decide) _ 1 (sv [y]) hown ⟨b, off, none⟩ (sv ys).length cap (sv ys) (by rw [Nat.mul_one]) hnews hone (by rw [sv_len]; unfold maxLen; omega) (by rw [sv_len]; omega) hF
        have hg := run_append_grow (P := Tryz.prog) w 67 o.type 9 i _ Tryz.underlying67 hi hz ⟨k, 0, none⟩ 1 1 (sv [y]) (by rw [hsize]; rfl) (hown.cells (g := k) rfl) ⟨b, off, none⟩ (sv ys).length cap (sv ys) (by rw [hsize, Nat.mul_one]) hnews (by rw [sv_len]; omega) (by rw [sv_len]; omega) (growslice_fits (by rw [sv_len]; omega) (by rw [sv_len, hby]; omega))
        have he := hr.symm.trans hg
        simp only [Result.ok.injEq] at he
        obtain ⟨rfl, rfl⟩ := he
        refine ⟨_, _, hr, ?_, (Below.refl _ w).drew.alloc (Nat.le_refl _) _⟩
        have h4 := h3
        rw [sv_len] at h4
        rw [sv_len]
        exact h4
  obtain ⟨v', w', hrun, h2, h3⟩ := fin
  unfold Oper.wp execOp
  simp only [ho, resolve, invoke, builtin, Sem.run_bind, Sem.run_pure, Result.andThen_ok, List.map_toArray, List.map_cons, List.map_nil, hs, hx, hrun]
  rw [← hd] at h
  exact h v' w' h2 h3
end Pl
end Go.Proofs.YtnieaeakaajleaaGreatDoor

namespace Go.Proofs.YtnieaeakaajleaaGreatDoor
set_option linter.unusedVariables false
set_option linter.unusedSimpArgs false
open Go.RowKit Go
namespace Pl

set_option maxRecDepth 4000 in
set_option maxHeartbeats 2000000 in
theorem toldWords (tk : Int) (wn : Nat) (w : World) (ht : Tab w) (hf : (Lit.int .i64 tk).wf = true) (hwn : 1 ≤ wn ∧ wn ≤ 5) :
    Calls Tryz.prog 49 #[.agg #[.int .i64 tk, .int .i64 wn]] w fun e w' => ∃ v, e = .returned v ∧ w'.ownsRow w.heap.size 9 1 v 2 (sv [itoB tk, whB wn]) ∧ Below w.heap.size w w' := by
  have HT : Hid (Tab w) := ht
  have HI : Hid (∀ w', Tab w' → Calls Tryz.prog 46 #[.int .i64 tk] w' fun e w'' => e = .returned (.string (itoB tk)) ∧ Below w'.heap.size w' w'') := fun w' h => itoa tk hf w' h
  have hwn6 : wn < 6 := by omega
  have hwn7 : ¬ (6 : Int) ≤ (wn : Int) := by omega
  have HW : Hid (((#[.string ⟨#[]⟩, .string ⟨#[98, 101, 103, 97, 110]⟩, .string ⟨#[115, 107, 105, 112, 112, 101, 100]⟩, .string ⟨#[109, 105, 115, 115, 101, 100]⟩, .string ⟨#[115, 116, 111, 112, 112, 101, 100]⟩, .string ⟨#[101, 110, 100, 101, 100]⟩] : Array Value))[wn]? = some (.string (whB wn))) := by
    have : wn = 1 ∨ wn = 2 ∨ wn = 3 ∨ wn = 4 ∨ wn = 5 := by omega
    rcases this with rfl | rfl | rfl | rfl | rfl <;> rfl
  generalize whB wn = WH at HW ⊢
  generalize itoB tk = X at HI ⊢
  clear ht hf hwn
  go_enter Tryz.func49, Tryz.ntmps49
  go_wp2_with fail
  have hmx : Tryz.prog.follows .mixedOrders = true := by kernel_rfl
  have hSW : ∀ W, Below (w.heap.size + 1 + 1) ((w.alloc (.cells #[.int .i64 tk, .int .i64 wn] 63)).alloc (.cells (#[.string ⟨#[]⟩, .string ⟨#[98, 101, 103, 97, 110]⟩, .string ⟨#[115, 107, 105, 112, 112, 101, 100]⟩, .string ⟨#[109, 105, 115, 115, 101, 100]⟩, .string ⟨#[115, 116, 111, 112, 112, 101, 100]⟩, .string ⟨#[101, 110, 100, 101, 100]⟩]) 107)) W → (fun W => W.cell? ⟨w.heap.size, 0, none⟩ = some (.int .i64 tk) ∧ W.cell? ⟨w.heap.size, 1, none⟩ = some (.int .i64 wn) ∧ W.cell? ⟨w.heap.size + 1, wn, none⟩ = some (.string WH) ∧ True) W := fun W h => ⟨(boxAt2 h).1 0 _ rfl, (boxAt2 h).1 1 _ rfl, (boxAt2 h).2.1 wn _ HW.out, trivial⟩
  have hB0 : Below (w.heap.size + 1 + 1) ((w.alloc (.cells #[.int .i64 tk, .int .i64 wn] 63)).alloc (.cells (#[.string ⟨#[]⟩, .string ⟨#[98, 101, 103, 97, 110]⟩, .string ⟨#[115, 107, 105, 112, 112, 101, 100]⟩, .string ⟨#[109, 105, 115, 115, 101, 100]⟩, .string ⟨#[115, 116, 111, 112, 112, 101, 100]⟩, .string ⟨#[101, 110, 100, 101, 100]⟩]) 107)) _ := (Below.refl _ _).drew
  have hS0 := hSW _ hB0
  refine wp_region_noPanic (wp_region_held (S := (fun W => W.cell? ⟨w.heap.size, 0, none⟩ = some (.int .i64 tk) ∧ W.cell? ⟨w.heap.size, 1, none⟩ = some (.int .i64 wn) ∧ W.cell? ⟨w.heap.size + 1, wn, none⟩ = some (.string WH) ∧ True)) hmx ?_)
  refine wpAnyH_go (i := 0) (d := some 5) (v := .pointer (some ⟨w.heap.size, 0, none⟩)) rfl rfl (by kernel_rfl) (by kernel_rfl) (by kernel_rfl) (fun _ _ _ h => h) (.inl ⟨by kernel_rfl, fun w' hw' => by simp [go_sem]⟩) hS0 ?_
  try simp only [Act.put, List.setIfInBounds_toArray, List.set_cons_zero, List.set_cons_succ]
  refine wpAnyH_go (i := 1) (d := some 6) (v := .int .i64 tk) rfl rfl (by kernel_rfl) (by kernel_rfl) (by kernel_rfl) (fun _ _ _ h => h) (.inl ⟨by kernel_rfl, fun w' hw' => by simp [go_sem, hw'.1]⟩) hS0 ?_
  try simp only [Act.put, List.setIfInBounds_toArray, List.set_cons_zero, List.set_cons_succ]
  refine wpAnyH_go (i := 3) (d := some 8) (v := .pointer (some ⟨w.heap.size, 1, none⟩)) rfl rfl (by kernel_rfl) (by kernel_rfl) (by kernel_rfl) (fun _ _ _ h => h) (.inl ⟨by kernel_rfl, fun w' hw' => by simp [go_sem]⟩) hS0 ?_
  try simp only [Act.put, List.setIfInBounds_toArray, List.set_cons_zero, List.set_cons_succ]
  refine wpAnyH_go (i := 4) (d := some 9) (v := .int .i64 wn) rfl rfl (by kernel_rfl) (by kernel_rfl) (by kernel_rfl) (fun _ _ _ h => h) (.inl ⟨by kernel_rfl, fun w' hw' => by simp [go_sem, hw'.2.1]⟩) hS0 ?_
  try simp only [Act.put, List.setIfInBounds_toArray, List.set_cons_zero, List.set_cons_succ]
  refine wpAnyH_go (i := 5) (d := some 10) (v := .pointer (some ⟨w.heap.size + 1, wn, none⟩)) rfl rfl (by kernel_rfl) (by kernel_rfl) (by kernel_rfl) (fun _ _ _ h => h) (.inl ⟨by kernel_rfl, fun w' hw' => by simp [go_sem, hwn6, hwn7]⟩) hS0 ?_
  try simp only [Act.put, List.setIfInBounds_toArray, List.set_cons_zero, List.set_cons_succ]
  refine wpAnyH_go (i := 6) (d := some 11) (v := .string WH) rfl rfl (by kernel_rfl) (by kernel_rfl) (by kernel_rfl) (fun _ _ _ h => h) (.inl ⟨by kernel_rfl, fun w' hw' => by simp [go_sem, hw'.2.2.1]⟩) hS0 ?_
  try simp only [Act.put, List.setIfInBounds_toArray, List.set_cons_zero, List.set_cons_succ]
  refine held_one (i := 2) rfl (by kernel_rfl) (by kernel_rfl) (fun KK hKK => ?_)
  refine wp_callOne (HI.out _ (HT.out.below (boxAt2 hB0).2.2)) (fun e w' h => ⟨_, h.1⟩) (enters_of Tryz.func46 (by kernel_rfl) rfl) _ _ (d := some 7) rfl (by rfl) (by kernel_rfl) ?_
  rintro r5 w5 ⟨he5, hw5⟩
  cases he5
  have hB5 := hB0.trans (hw5.mono (by simp))
  have hS5 := hSW w5 hB5
  refine hKK _ _ hS5 ?_
  clear hKK KK
  try simp only [Act.put, List.setIfInBounds_toArray, List.set_cons_zero, List.set_cons_succ]
  refine held_one (i := 7) rfl (by kernel_rfl) (by kernel_rfl) (fun KK hKK => ?_)
  go_simp
  have hz5 : w.heap.size + 1 + 1 ≤ w5.heap.size := by have := hB5.size; simpa using this
  have hB6 := hB5.alloc hz5 (.cells #[.string X, .string WH] 9)
  have hS6 := hSW _ hB6
  refine hKK _ _ hS6 ?_
  clear hKK KK
  try simp only [Act.put, List.setIfInBounds_toArray, List.set_cons_zero, List.set_cons_succ]
  refine wpAnyH_go (i := 8) (d := some 2) (v := .slice (some ⟨w5.heap.size, 0, none⟩) 2 2) rfl rfl (by kernel_rfl) (by kernel_rfl) (by kernel_rfl) (fun _ _ _ h => h) (.inl ⟨by kernel_rfl, fun w' hw' => by kernel_rfl⟩) hS6 ?_
  try simp only [Act.put, List.setIfInBounds_toArray, List.set_cons_zero, List.set_cons_succ]
  refine wpAnyH_done (by kernel_rfl) ?_ _
  refine NoPanic.normal ?_
  have HBV : Hid _ := (boxAt2 hB6).2.2
  clear hSW hS0 hS5 hS6 hB0 hB5 hB6 hw5 hmx
  go_wp2_with fail
  go_ret
  exact ⟨_, rfl, World.ownsRow_lit w5 #[.string X, .string WH] 2 (by omega) (by unfold maxLen; omega) rfl, HBV.out⟩
end Pl
end Go.Proofs.YtnieaeakaajleaaGreatDoor

namespace Go.Proofs.YtnieaeakaajleaaGreatDoor
set_option linter.unusedVariables false
set_option linter.unusedSimpArgs false
open Go.RowKit Go
namespace RI

variable {P : Program} {ops : Array Oper} {Q : Exit → Act → World → Prop} {md : Region.Mode}

/-- Every operation waits for earlier ones alone. -/
def backB (ops : Array Oper) : Bool := (List.range ops.size).all fun i => ((ops[i]?).map fun o => o.after.all fun e => decide (e.on < i)).getD true
theorem back_spec (h : backB ops = true) {i : Nat} {o : Oper} (hi : ops[i]? = some o) : ∀ e ∈ o.after, e.on < i := by
  intro e he
  have hlt : i < ops.size := (Array.getElem?_eq_some_iff.1 hi).1
  have := List.all_eq_true.1 h i (List.mem_range.2 hlt)
  simp only [hi, Option.map_some, Option.getD_some] at this
  simpa using Array.all_eq_true_iff_forall_mem.1 this e he

theorem mem_ready' {listed : Array Bool} {i : Nat} (h : i ∈ Region.ready md ops listed) : ∃ o, ops[i]? = some o ∧ listed.getD i true = false ∧ ∀ e ∈ o.after, Region.binds md e = true → listed.getD e.on false = true := by
  obtain ⟨h1, o, h2, h3⟩ := mem_ready.1 h
  exact ⟨o, h2, h1, h3⟩
theorem ready_of {listed : Array Bool} {i : Nat} {o : Oper} (hi : ops[i]? = some o) (h1 : listed.getD i true = false) (h3 : ∀ e ∈ o.after, Region.binds md e = true → listed.getD e.on false = true) : i ∈ Region.ready md ops listed :=
  mem_ready.2 ⟨h1, o, hi, h3⟩

/-- Nothing may come up just when all has come up. -/
theorem all_listed (hb : backB ops = true) {listed : Array Bool} (hs : listed.size = ops.size) (h : Region.ready md ops listed = []) : ∀ i, i < ops.size → listed.getD i true = true := by
  intro i
  induction i using Nat.strongRecOn with
  | _ i ih =>
    intro hi
    by_cases hl : listed.getD i true = true
    · exact hl
    · have hl' : listed.getD i true = false := by simpa using hl
      have hm : i ∈ Region.ready md ops listed := ready_of (o := ops[i]) (Array.getElem?_eq_getElem hi) hl' fun e he _ => by
        have hlt := back_spec hb (Array.getElem?_eq_getElem hi) e he
        have := ih e.on hlt (by omega)
        have hsz : e.on < listed.size := by omega
        simpa [Array.getD, hsz] using this
      rw [h] at hm
      cases hm

/-- How many have not come up. -/
def left (listed : Array Bool) : Nat := listed.toList.countP fun b => !b
theorem left_set {listed : Array Bool} {i : Nat} (h : listed.getD i true = false) : left (listed.setIfInBounds i true) + 1 = left listed := by
  have hi : i < listed.size := by
    by_cases h' : i < listed.size
    · exact h'
    · simp [Array.getD, h'] at h
  have hv : listed.toList[i]'(by simpa using hi) = false := by simpa [Array.getD, hi] using h
  unfold left
  rw [Array.toList_setIfInBounds]
  have key : ∀ (l : List Bool) (i : Nat) (hi : i < l.length), l[i] = false → (l.set i true).countP (fun b => !b) + 1 = l.countP (fun b => !b) := by
    intro l
    induction l with
    | nil => intro i hi; simp at hi
    | cons x t ih =>
      intro i hi hx
      cases i with
      | zero =>
        simp only [List.getElem_cons_zero] at hx
        subst hx
        simp
      | succ i =>
        simp only [List.getElem_cons_succ] at hx
        have := ih i (by simpa using hi) hx
        simp only [List.set_cons_succ, List.countP_cons]
        omega
  exact key _ i (by simpa using hi) hv

/-- THE RULE: Inv is kept by each operation that may come up; when all have come up it gives Q. -/
theorem wpAny_inv (hb : backB ops = true) (Inv : Array Bool → Act → World → Prop)
    (hstep : ∀ (i : Nat) (o : Oper) (listed : Array Bool) (a : Act) (w : World), ops[i]? = some o → listed.size = ops.size → listed.getD i true = false → (∀ e ∈ o.after, Region.binds md e = true → listed.getD e.on false = true) → Inv listed a w →
      wpOp P ops Q i (fun a' w' => Inv (listed.setIfInBounds i true) a' w') a w)
    (hdone : ∀ (listed : Array Bool) (a : Act) (w : World), listed.size = ops.size → (∀ i, i < ops.size → listed.getD i true = true) → Inv listed a w → Q .normal a w) :
    ∀ (fuel : Nat) (listed : Array Bool) (a : Act) (w : World), listed.size = ops.size → left listed ≤ fuel → Inv listed a w → wpAny P md ops Q fuel listed a w := by
  intro fuel
  induction fuel with
  | zero =>
    intro listed a w hs hl hi
    have hr : Region.ready md ops listed = [] := by
      cases hr : Region.ready md ops listed with
      | nil => rfl
      | cons i t =>
        obtain ⟨o, h1, h2, h3⟩ := mem_ready' (md := md) (ops := ops) (listed := listed) (i := i) (by rw [hr]; simp)
        have := left_set h2
        omega
    exact ⟨hr, hdone listed a w hs (all_listed hb hs hr) hi⟩
  | succ fuel ih =>
    intro listed a w hs hl hi
    refine ⟨fun hr => hdone listed a w hs (all_listed hb hs hr) hi, fun i hm => ?_⟩
    obtain ⟨o, h1, h2, h3⟩ := mem_ready' hm
    have hl2 := left_set h2
    exact wpOp_mono (fun a' w' h => ih _ a' w' (by simpa using hs) (by omega) h) (hstep i o listed a w h1 hs h2 h3 hi)

theorem left_new (n : Nat) : left (Array.replicate n false) = n := by
  unfold left; rw [Array.toList_replicate, List.countP_replicate]; rfl

/-- A region that draws, by such a condition. -/
theorem wp_region_inv {id : Nat} {a : Act} {w : World} (hm : P.follows .mixedOrders = true) (hb : backB ops = true) (Inv : Array Bool → Act → World → Prop) (h0 : Inv (Array.replicate ops.size false) a w.drew)
    (hstep : ∀ (i : Nat) (o : Oper) (listed : Array Bool) (a : Act) (w : World), ops[i]? = some o → listed.size = ops.size → listed.getD i true = false → (∀ e ∈ o.after, Region.binds .any e = true → listed.getD e.on false = true) → Inv listed a w →
      wpOp P ops Q i (fun a' w' => Inv (listed.setIfInBounds i true) a' w') a w)
    (hdone : ∀ (listed : Array Bool) (a : Act) (w : World), listed.size = ops.size → (∀ i, i < ops.size → listed.getD i true = true) → Inv listed a w → Q .normal a w) : (Code.region id ops true).wp P Q a w :=
  wp_region_any hm (wpAny_inv hb Inv hstep hdone ops.size _ a _ (by simp) (by rw [left_new]; exact Nat.le_refl _) h0)
end RI
end Go.Proofs.YtnieaeakaajleaaGreatDoor
