/- The program's own rules: which are ok. -/
import Derived.Test.YtnieaeakaajleaaGreatDoorJ4
import Derived.Test.YtnieaeakaajleaaGreatDoorJ14
import Derived.Test.YtnieaeakaajleaaGreatDoorJ10
import Derived.Test.YtnieaeakaajleaaGreatDoorJ13
import Derived.Test.YtnieaeakaajleaaGreatDoorJ9
import Derived.Deep.CutBlock
import Derived.Deep.DeepCutAuto
namespace Go.Proofs.YtnieaeakaajleaaGreatDoor
set_option linter.unusedVariables false
set_option linter.unusedSimpArgs false
open Go.RowKit Go
namespace Pl

/-- What was told of a time is ok. -/
def ToldAt (rs : List Rul) (last : Int) (t : Tld) : Prop := (1 ≤ t.wh ∧ t.wh ≤ 5) ∧ t.tk ≤ last ∧ due rs t.tk = true
def WaitsOk (goes waits : List Int) : Prop := 0 < waits.length → 0 < goes.length ∧ goes.getD (goes.length - 1) 0 < waits.getD 0 0
structure PlanOk (p : Pla) : Prop where
  rules : calOk p.rs = true
  pol : 1 ≤ p.pol ∧ p.pol ≤ 5
  win : 0 ≤ p.win ∧ p.win ≤ 1000
  last : -1 ≤ p.last ∧ p.last ≤ 100000
  told60 : p.told.length ≤ 60
  goesN : (p.goes.length : Int) ≤ mostG p.pol
  waitsN : (p.waits.length : Int) ≤ mostW p.pol
  goes : times p.rs p.last p.goes = true
  waits : times p.rs p.last p.waits = true
  behind : WaitsOk p.goes p.waits
  told : ∀ i (h : i < p.told.length), ToldAt p.rs p.last p.told[i]
noncomputable def planOk (p : Pla) : Bool := @decide (PlanOk p) (Classical.propDecidable _)
theorem planOk_yes {p : Pla} (h : PlanOk p) : planOk p = true := by unfold planOk; exact @decide_eq_true _ (Classical.propDecidable _) h
theorem planOk_no {p : Pla} (h : ¬ PlanOk p) : planOk p = false := by unfold planOk; exact @decide_eq_false _ (Classical.propDecidable _) h
theorem planOk_ok {p : Pla} (h : planOk p = true) : PlanOk p := by unfold planOk at h; exact @of_decide_eq_true _ (Classical.propDecidable _) h
theorem mostG_bd (p : Int) : 0 ≤ mostG p ∧ mostG p ≤ 8 := by unfold mostG; split <;> omega
theorem mostW_bd (p : Int) : 0 ≤ mostW p ∧ mostW p ≤ 8 := by unfold mostW; split <;> (try split) <;> omega
end Pl
end Go.Proofs.YtnieaeakaajleaaGreatDoor

namespace Go.Proofs.YtnieaeakaajleaaGreatDoor
set_option linter.unusedVariables false
set_option linter.unusedSimpArgs false
open Go.RowKit Go
namespace Pl

def bLast : ByteArray := ⟨#[108, 97, 115, 116, 32]⟩
def bNext : ByteArray := ⟨#[44, 32, 110, 101, 120, 116, 32]⟩
def bGoes : ByteArray := ⟨#[10, 103, 111, 101, 115]⟩
def bWaits : ByteArray := ⟨#[10, 119, 97, 105, 116, 115]⟩
/-- What became of a time, in a word. -/
def whB (n : Int) : ByteArray := if n = 1 then ⟨#[98, 101, 103, 97, 110]⟩ else if n = 2 then ⟨#[115, 107, 105, 112, 112, 101, 100]⟩ else if n = 3 then ⟨#[109, 105, 115, 115, 101, 100]⟩ else if n = 4 then ⟨#[115, 116, 111, 112, 112, 101, 100]⟩ else if n = 5 then ⟨#[101, 110, 100, 101, 100]⟩ else ⟨#[]⟩
theorem whB_size (n : Int) : (whB n).size ≤ 7 := by unfold whB; (repeat' split) <;> decide
noncomputable def headP (p : Pla) : ByteArray := bLast ++ itoB p.last ++ bNext ++ itoB (calNext p.rs p.last) ++ bGoes
def toldT (x : ByteArray) (ts : List Tld) : ByteArray := ts.foldl (fun o t => o ++ itoB t.tk ++ spB ++ whB t.wh ++ nlB) x
theorem toldT_snoc (x : ByteArray) (ts : List Tld) (t : Tld) : toldT x (ts ++ [t]) = toldT x ts ++ itoB t.tk ++ spB ++ whB t.wh ++ nlB := by simp [toldT]
noncomputable def boardT (p : Pla) : ByteArray := toldT (numsT (numsT (headP p) p.goes ++ bWaits) p.waits ++ nlB) p.told
/-- What PlanBoard answers. -/
noncomputable def boardB (p : Pla) : ByteArray := if planOk p = true then boardT p else ⟨#[]⟩
theorem calNext_bd (rs : List Rul) (t : Int) : -1 ≤ calNext rs t ∧ calNext rs t ≤ 100000 := by
  rcases next_is rs t with ⟨h, _⟩ | ⟨h, _⟩
  · rw [h]; omega
  · have := due_bd h; omega
theorem headP_size {p : Pla} (h : PlanOk p) : (headP p).size ≤ 60 := by
  have h1 := h.last
  have h2 := calNext_bd p.rs p.last
  have s1 := itoB_size p.last (by omega) (by omega)
  have s2 := itoB_size (calNext p.rs p.last) (by omega) (by omega)
  have z1 : bLast.size = 5 := rfl
  have z2 : bNext.size = 7 := rfl
  have z3 : bGoes.size = 5 := rfl
  unfold headP; simp only [ByteArray.size_append]; omega
theorem toldT_size : ∀ (ts : List Tld) (x : ByteArray), (∀ i (h : i < ts.length), -9223372036854775808 ≤ ts[i].tk ∧ ts[i].tk ≤ 9223372036854775807) → (toldT x ts).size ≤ x.size + 30 * ts.length := by
  intro ts
  induction ts with
  | nil => intro x _; simp [toldT]
  | cons t r ih =>
    intro x h
    have h0 := h 0 (by simp)
    have h1 := ih (x ++ itoB t.tk ++ spB ++ whB t.wh ++ nlB) (fun i hi => h (i + 1) (by simpa using hi))
    have s1 := itoB_size t.tk h0.1 h0.2
    have s2 := whB_size t.wh
    have s3 := spB_size
    have s4 := nlB_size
    simp only [toldT, List.foldl_cons, List.length_cons] at h1 ⊢
    simp only [ByteArray.size_append] at h1
    omega
end Pl
end Go.Proofs.YtnieaeakaajleaaGreatDoor

namespace Go.Proofs.YtnieaeakaajleaaGreatDoor
set_option linter.unusedVariables false
set_option linter.unusedSimpArgs false
open Go.RowKit Go
namespace Pl
theorem held_more {P : Program} {ops : Array Oper} {Q : Exit → Act → World → Prop} {md : Region.Mode} {S S' : World → Prop} (hS : ∀ w, S' w → S w) : ∀ (fuel : Nat) {listed : Array Bool} {a : Act} {w : World}, wpAnyH P md ops Q S' fuel listed a w → wpAnyH P md ops Q S fuel listed a w
  | 0, _, _, _, h => h
  | fuel + 1, _, _, _, h => ⟨h.1, fun i hi => wpOp_mono (fun _ _ h' => ⟨hS _ h'.1, held_more hS fuel h'.2⟩) (h.2 i hi)⟩
theorem held_two {P : Program} {ops : Array Oper} {Q : Exit → Act → World → Prop} {md : Region.Mode} {S : World → Prop} {fuel : Nat} {listed : Array Bool} {a : Act} {w : World} {i j : Nat} {o o' : Oper} (hi : ops[i]? = some o) (hj : ops[j]? = some o') (hr : Region.ready md ops listed = [i, j]) (hw : Region.wanted o (yielded ops a.tmps) = true) (hw' : Region.wanted o' (yielded ops a.tmps) = true)
    (h1 : ∀ K : Act → World → Prop, (∀ a' w', S w' → wpAnyH P md ops Q S fuel (listed.setIfInBounds i true) a' w' → K a' w') → Oper.wp P o a w K Q)
    (h2 : ∀ K : Act → World → Prop, (∀ a' w', S w' → wpAnyH P md ops Q S fuel (listed.setIfInBounds j true) a' w' → K a' w') → Oper.wp P o' a w K Q) : wpAnyH P md ops Q S (fuel + 1) listed a w := by
  refine wpAnyH_all hr (by simp) fun k hk => ?_
  simp only [List.mem_cons, List.not_mem_nil, or_false] at hk
  rcases hk with rfl | rfl
  · unfold wpOp
    simp only [hi, hw, if_true]
    exact .inl (h1 _ fun a' w' h1 h2 => ⟨h1, h2⟩)
  · unfold wpOp
    simp only [hj, hw', if_true]
    exact .inl (h2 _ fun a' w' h1 h2 => ⟨h1, h2⟩)
theorem wp_callOne {P : Program} {o : Oper} {a : Act} {K : Act → World → Prop} {Q : Exit → Act → World → Prop} {w : World} {f : Nat} {R : Ending → World → Prop} {v : Value} (hc : Calls P f #[v] w R) (hR : ∀ e w', R e w' → ∃ r, e = .returned r) (en : ∀ args w, (callFunc f args).run P w = .ok (.enter f args) w) (s : Operand) (tys : Array TypeId) {d : Option Nat} (hd : o.dst = d)
    (ho : o.op = .call { callee := .value (.func f), args := #[s], argTypes := tys }) (hs : a.eval s = v) (h : ∀ r w', R (.returned r) w' → K (a.put d r) w') : Oper.wp P o a w K Q := by
  have hx : (execOp a.eval o).run P w = .ok (.enter f #[v]) w := by
    unfold execOp
    have hs' := hs
    simp only [Act.eval] at hs'
    simp [ho, resolve, invoke, go_sem, en]
    first | exact hs' | (rw [← hs]; cases s <;> rfl) | (rw [← hs]; cases s <;> simp [Act.eval])
  unfold Oper.wp
  rw [hx, Oper.upon_enter]
  refine hc.mono fun e w' hr => ?_
  obtain ⟨r, rfl⟩ := hR e w' hr
  rw [hd]; exact h r w' hr
end Pl
end Go.Proofs.YtnieaeakaajleaaGreatDoor

namespace Go.Proofs.YtnieaeakaajleaaGreatDoor
set_option linter.unusedVariables false
set_option linter.unusedSimpArgs false
open Go.RowKit Go

set_option maxHeartbeats 400000 in
theorem isWithin (n lo hi : Int) (w : World) :
    Calls Tryz.prog 73 #[.int .i64 n, .int .i64 lo, .int .i64 hi] w fun e w' => e = .returned (.bool (decide (lo ≤ n ∧ n ≤ hi))) ∧ w' = w := by
  by_cases h1 : lo ≤ n
  · by_cases h2 : n ≤ hi
    · rw [decide_eq_true ⟨h1, h2⟩]
      go_enter Tryz.func73, Tryz.ntmps73
      go_wp2
      go_ret
      exact ⟨by simp [h1, h2], rfl⟩
    · rw [decide_eq_false (fun h => h2 h.2)]
      go_enter Tryz.func73, Tryz.ntmps73
      go_wp2
      go_ret
      exact ⟨by first | (simp; done) | (simp; omega), rfl⟩
  · rw [decide_eq_false (fun h => h1 h.1)]
    go_enter Tryz.func73, Tryz.ntmps73
    go_wp2
    go_ret
    exact ⟨by first | (simp; done) | (simp; omega), rfl⟩
theorem isWithin_t (n lo hi : Int) (h : lo ≤ n ∧ n ≤ hi) (w : World) :
    Calls Tryz.prog 73 #[.int .i64 n, .int .i64 lo, .int .i64 hi] w fun e w' => e = .returned (.bool true) ∧ w' = w := by
  have := isWithin n lo hi w; rwa [decide_eq_true h] at this
theorem isWithin_f (n lo hi : Int) (h : ¬ (lo ≤ n ∧ n ≤ hi)) (w : World) :
    Calls Tryz.prog 73 #[.int .i64 n, .int .i64 lo, .int .i64 hi] w fun e w' => e = .returned (.bool false) ∧ w' = w := by
  have := isWithin n lo hi w; rwa [decide_eq_false h] at this

theorem asItIs (z : Int) (w : World) : Calls Tryz.prog 90 #[.int .i64 z] w fun e w' => e = .returned (.int .i64 z) ∧ w' = w := by
  go_enter Tryz.func90, Tryz.ntmps90
  go_wp2
  go_ret
  exact ⟨rfl, rfl⟩

theorem isTick (z : Int) (w : World) : Calls Tryz.prog 94 #[.int .i64 z] w fun e w' => e = .returned (.bool (decide (0 ≤ z ∧ z ≤ 100000))) ∧ w' = w := by
  have HI := isWithin z 0 100000
  generalize decide (0 ≤ z ∧ z ≤ 100000) = v at HI ⊢
  have HI : Hid _ := HI
  go_enter Tryz.func94, Tryz.ntmps94
  go_wp2_with (go_at_call 73; refine (HI.out _).mono ?_; rintro e w1 ⟨rfl, rfl⟩)
  go_ret
  exact ⟨rfl, rfl⟩

/-- What is said is whether P. -/
def SaysIf (e : Ending) (P : Prop) : Prop := ∃ v : Bool, e = .returned (.bool v) ∧ (v = true ↔ P)
def Asc (zs : List Int) : Prop := ∀ i, i < zs.length → 0 < i → zs.getD (i - 1) 0 < zs.getD i 0
def Ticks (zs : List Int) : Prop := ∀ i, i < zs.length → 0 ≤ zs.getD i 0 ∧ zs.getD i 0 ≤ 100000

set_option maxHeartbeats 1000000 in
theorem allHoldTick (a : Option Addr) (len cap : Nat) (zs : List Int) (w : World) (hr : IsRow .i64 w a len cap zs) :
    Calls Tryz.prog 103 #[.slice a len cap, .func (.func 94) #[] #[]] w fun e w' => SaysIf e (Ticks zs) ∧ w' = w := by
  obtain ⟨hz, hm⟩ := hr.len
  unfold maxLen at hm
  have HR : Hid (IsRow .i64 w a len cap zs) := hr
  clear hr
  go_enter Tryz.func103, Tryz.ntmps103
  go_wp2
  go_loop [9] (fun i => ∃ k : Nat, k ≤ len ∧ i = .int .i64 k ∧ ∀ i, i < k → 0 ≤ zs.getD i 0 ∧ zs.getD i 0 ≤ 100000) (fun i => len - (intOf i).toNat)
  case atStart => exact ⟨0, Nat.zero_le _, rfl, fun i h => by omega⟩
  case round =>
    obtain ⟨k, hk, rfl, hn⟩ := hrel
    have HN : Hid (∀ i, i < k → 0 ≤ zs.getD i 0 ∧ zs.getD i 0 ≤ 100000) := hn
    clear hn
    by_cases hlt : k < len
    · obtain ⟨b, off, rfl, h1, h2, hc⟩ := IsRow.at HR.out hlt
      have HT := isTick (zs.getD k 0) w
      by_cases hin : 0 ≤ zs.getD k 0 ∧ zs.getD k 0 ≤ 100000
      · have HN1 : Hid (∀ i, i < k + 1 → 0 ≤ zs.getD i 0 ∧ zs.getD i 0 ≤ 100000) := fun i hi => by
          by_cases e : i = k
          · subst e; exact hin
          · exact HN.out i (by omega)
        rw [decide_eq_true hin] at HT
        have HT : Hid _ := HT
        clear hin
        generalize zs.getD k 0 = z at hc HT
        go_wp2_with (go_at_call 94; refine Calls.mono HT.out ?_; rintro e w1 ⟨rfl, rfl⟩)
        go_round
        case rel => exact ⟨k + 1, by omega, by go_num, HN1.out⟩
        case measure => simp [intOf]; omega
      · have HF : Hid (¬ Ticks zs) := fun h => hin (h k (by omega))
        rw [decide_eq_false hin] at HT
        have HT : Hid _ := HT
        clear hin
        generalize zs.getD k 0 = z at hc HT
        go_wp2_with (go_at_call 94; refine Calls.mono HT.out ?_; rintro e w1 ⟨rfl, rfl⟩)
        go_ret
        exact ⟨⟨false, rfl, by simpa using HF.out⟩, rfl⟩
    · have HF : Hid (Ticks zs) := fun i hi => HN.out i (by omega)
      go_wp2
      go_ret
      exact ⟨⟨true, rfl, by simpa using HF.out⟩, rfl⟩

set_option maxHeartbeats 1000000 in
theorem ascendsInt (a : Option Addr) (len cap : Nat) (zs : List Int) (w : World) (hr : IsRow .i64 w a len cap zs) :
    Calls Tryz.prog 102 #[.slice a len cap, .func (.func 90) #[] #[]] w fun e w' => SaysIf e (Asc zs) ∧ ∃ q, w' = w.drewN q := by
  obtain ⟨hz, hm⟩ := hr.len
  unfold maxLen at hm
  have HR : Hid (IsRow .i64 w a len cap zs) := hr
  clear hr
  have HI : Hid (∀ z w, Calls Tryz.prog 90 #[.int .i64 z] w fun e w' => e = .returned (.int .i64 z) ∧ w' = w) := asItIs
  go_enter Tryz.func102, Tryz.ntmps102
  go_wp2
  go_loopw [5] (fun i wr => ∃ k q : Nat, 0 < k ∧ (k ≤ len ∨ k = 1) ∧ i = .int .i64 k ∧ (∀ i, i < k → i < zs.length → 0 < i → zs.getD (i - 1) 0 < zs.getD i 0) ∧ wr = w.drewN q) (fun i _ => len - (intOf i).toNat)
  case atStart => exact ⟨1, 0, by omega, .inr rfl, rfl, fun i h _ _ => by omega, rfl⟩
  case round =>
    obtain ⟨k, q, hk0, hk, rfl, hn, rfl⟩ := hrel
    have HN : Hid (∀ i, i < k → i < zs.length → 0 < i → zs.getD (i - 1) 0 < zs.getD i 0) := hn
    clear hn
    by_cases hlt : k < len
    · obtain ⟨j, rfl⟩ : ∃ j, k = j + 1 := ⟨k - 1, by omega⟩
      obtain ⟨b, off, rfl, h1, h2, hc⟩ := IsRow.at HR.out hlt
      obtain ⟨b', off', e', _, _, hcj⟩ := IsRow.at HR.out (i := j) (by omega)
      cases e'
      by_cases hlt2 : zs.getD j 0 < zs.getD (j + 1) 0
      · have HN1 : Hid (∀ i, i < j + 1 + 1 → i < zs.length → 0 < i → zs.getD (i - 1) 0 < zs.getD i 0) := fun i hi h3 h4 => by
          by_cases e : i = j + 1
          · subst e; exact hlt2
          · exact HN.out i (by omega) h3 h4
        generalize zs.getD (j + 1) 0 = z at hc hlt2
        generalize zs.getD j 0 = y at hcj hlt2
        have hd : decide (z ≤ y) = false := decide_eq_false (by omega)
        go_wp2_with fail
        go_quiet ((go_at_call 90; exact quiet_again (HI.out _ _)))
        go_wp2_with fail
        go_roundw
        case rel => exact ⟨j + 1 + 1, _, by omega, .inl (by omega), by go_num, HN1.out, rfl⟩
        case measure => simp [intOf]; omega
      · have HF : Hid (¬ Asc zs) := fun h => hlt2 (h (j + 1) (by omega) (by omega))
        generalize zs.getD (j + 1) 0 = z at hc hlt2
        generalize zs.getD j 0 = y at hcj hlt2
        have hd : z ≤ y := by omega
        clear hlt2
        go_wp2_with fail
        go_quiet ((go_at_call 90; exact quiet_again (HI.out _ _)))
        go_wp2_with fail
        go_ret
        exact ⟨⟨false, rfl, by simpa using HF.out⟩, ⟨_, World.drewN_drewN _ _ _⟩⟩
    · have HF : Hid (Asc zs) := fun i hi h0 => HN.out i (by omega) hi h0
      go_wp2
      go_ret
      exact ⟨⟨true, rfl, by simpa using HF.out⟩, _, rfl⟩
end Go.Proofs.YtnieaeakaajleaaGreatDoor

namespace Go.Proofs.YtnieaeakaajleaaGreatDoor
set_option linter.unusedVariables false
set_option linter.unusedSimpArgs false
open Go.RowKit Go

/-- A value that is whether P. -/
def ValIf (t : Value) (P : Prop) : Prop := ∃ v : Bool, t = .bool v ∧ (v = true ↔ P)
theorem valIf_t {P : Prop} (h : P) : ValIf (.bool true) P := ⟨true, rfl, by simp [h]⟩
theorem valIf_f {P : Prop} (h : ¬ P) : ValIf (.bool false) P := ⟨false, rfl, by simp [h]⟩
theorem isRow_drewN {k : IntKind} {w : World} {a : Option Addr} {len cap : Nat} {zs : List Int} (h : IsRow k w a len cap zs) (q : Nat) : IsRow k (w.drewN q) a len cap zs := h.below (below_drewN (Below.refl _ _) q)

set_option maxRecDepth 4000 in
set_option maxHeartbeats 2000000 in
theorem implRuleOk (r : Rul) (a : Option Addr) (len cap : Nat) (w : World) (hr : IsRow .i64 w a len cap r.but) :
    Calls Tryz.prog 118 #[.agg #[.int .i64 r.ev, .int .i64 r.at_, .int .i64 r.fr, .int .i64 r.to_, .slice a len cap]] w fun x w' => x = .returned (.bool (ruleOk r)) ∧ Below w.heap.size w w' := by
  obtain ⟨hz, hm⟩ := hr.len
  unfold maxLen at hm
  have HR : Hid (IsRow .i64 w a len cap r.but) := hr
  clear hr
  have HT : Hid (∀ n lo hi w, lo ≤ n ∧ n ≤ hi → Calls Tryz.prog 73 #[.int .i64 n, .int .i64 lo, .int .i64 hi] w fun x w' => x = .returned (.bool true) ∧ w' = w) := fun n lo hi w h => isWithin_t n lo hi h w
  have HN : Hid (∀ n lo hi w, ¬ (lo ≤ n ∧ n ≤ hi) → Calls Tryz.prog 73 #[.int .i64 n, .int .i64 lo, .int .i64 hi] w fun x w' => x = .returned (.bool false) ∧ w' = w) := fun n lo hi w h => isWithin_f n lo hi h w
  have HA : Hid (∀ w, IsRow .i64 w a len cap r.but → Calls Tryz.prog 102 #[.slice a len cap, .func (.func 90) #[] #[]] w fun e w' => SaysIf e (Asc r.but) ∧ ∃ q, w' = w.drewN q) := fun w h => ascendsInt a len cap r.but w h
  have HH : Hid (∀ w, IsRow .i64 w a len cap r.but → Calls Tryz.prog 103 #[.slice a len cap, .func (.func 94) #[] #[]] w fun e w' => SaysIf e (Ticks r.but) ∧ w' = w) := fun w h => allHoldTick a len cap r.but w h
  obtain ⟨ev, at_, fr, to_, but⟩ := r
  dsimp only at *
  go_enter Tryz.func118, Tryz.ntmps118
  go_upto_region 1 with fail
  go_cut [3] (fun t3 wx => ValIf t3 ((1 ≤ ev ∧ ev ≤ 1000) ∧ 0 ≤ at_ ∧ at_ ≤ ev - 1) ∧ wx = w.alloc (.cells #[.int .i64 ev, .int .i64 at_, .int .i64 fr, .int .i64 to_, .slice a len cap] 81))
  case first =>
    by_cases p1 : 1 ≤ ev ∧ ev ≤ 1000
    · by_cases p2 : 0 ≤ at_ ∧ at_ ≤ ev - 1
      · go_wp2_with (go_at_call 73; refine (HT.out _ _ _ _ (by omega)).mono ?_; rintro e w' ⟨rfl, rfl⟩)
        go_meet
        case rel => exact ⟨valIf_t ⟨p1, p2⟩, rfl⟩
      · go_wp2_with (go_at_call 73; first | (refine (HT.out _ _ _ _ (by omega)).mono ?_; rintro e w' ⟨rfl, rfl⟩) | (refine (HN.out _ _ _ _ (by omega)).mono ?_; rintro e w' ⟨rfl, rfl⟩))
        go_meet
        case rel => exact ⟨valIf_f (fun h => p2 h.2), rfl⟩
    · go_wp2_with (go_at_call 73; refine (HN.out _ _ _ _ (by omega)).mono ?_; rintro e w' ⟨rfl, rfl⟩)
      go_meet
      case rel => exact ⟨valIf_f (fun h => p1 h.1), rfl⟩
  case rest =>
    obtain ⟨⟨v1, rfl, hv1⟩, rfl⟩ := hcut
    have HV1 : Hid _ := hv1
    clear hv1
    go_upto_region 2 with fail
    go_cut [4] (fun t4 wx => ValIf t4 ((0 ≤ fr ∧ fr ≤ 100000) ∧ fr ≤ to_ ∧ to_ ≤ 100000) ∧ wx = w.alloc (.cells #[.int .i64 ev, .int .i64 at_, .int .i64 fr, .int .i64 to_, .slice a len cap] 81))
    case first =>
      by_cases p1 : 0 ≤ fr ∧ fr ≤ 100000
      · by_cases p2 : fr ≤ to_ ∧ to_ ≤ 100000
        · go_wp2_with (go_at_call 73; refine (HT.out _ _ _ _ (by omega)).mono ?_; rintro e w' ⟨rfl, rfl⟩)
          go_meet
          case rel => exact ⟨valIf_t ⟨p1, p2⟩, rfl⟩
        · go_wp2_with (go_at_call 73; first | (refine (HT.out _ _ _ _ (by omega)).mono ?_; rintro e w' ⟨rfl, rfl⟩) | (refine (HN.out _ _ _ _ (by omega)).mono ?_; rintro e w' ⟨rfl, rfl⟩))
          go_meet
          case rel => exact ⟨valIf_f (fun h => p2 h.2), rfl⟩
      · go_wp2_with (go_at_call 73; refine (HN.out _ _ _ _ (by omega)).mono ?_; rintro e w' ⟨rfl, rfl⟩)
        go_meet
        case rel => exact ⟨valIf_f (fun h => p1 h.1), rfl⟩
    case rest =>
      obtain ⟨⟨v2, rfl, hv2⟩, rfl⟩ := hcut
      have HV2 : Hid _ := hv2
      clear hv2
      go_upto_region 3 with fail
      go_cut [5] (fun t5 wx => ValIf t5 (but.length ≤ 8 ∧ Asc but ∧ Ticks but) ∧ ∃ q, wx = (w.alloc (.cells #[.int .i64 ev, .int .i64 at_, .int .i64 fr, .int .i64 to_, .slice a len cap] 81)).drewN q)
      case first =>
        by_cases p5 : len ≤ 8
        · go_wp2_with fail
          refine (HA.out _ (IsRow.alloc HR.out _)).mono ?_
          rintro e w1 ⟨⟨v, rfl, hv⟩, q, rfl⟩
          cases v with
          | true =>
            have HV : Hid (Asc but) := hv.1 rfl
            clear hv
            go_wp2_with fail
            refine (HH.out _ (isRow_drewN (IsRow.alloc HR.out _) q)).mono ?_
            rintro e w1 ⟨⟨v, rfl, hv⟩, rfl⟩
            cases v with
            | true =>
              have HVT : Hid (Ticks but) := hv.1 rfl
              clear hv
              go_wp2_with fail
              go_meet
              case rel => exact ⟨valIf_t ⟨by omega, HV.out, HVT.out⟩, _, rfl⟩
            | false =>
              have HVT : Hid (¬ Ticks but) := fun h => by have := hv.2 h; cases this
              clear hv
              go_wp2_with fail
              go_meet
              case rel => exact ⟨valIf_f (fun h => HVT.out h.2.2), _, rfl⟩
          | false =>
            have HV : Hid (¬ Asc but) := fun h => by have := hv.2 h; cases this
            clear hv
            go_wp2_with fail
            go_meet
            case rel => exact ⟨valIf_f (fun h => HV.out h.2.1), _, rfl⟩
        · go_wp2_with fail
          go_meet
          case rel => exact ⟨valIf_f (fun h => by have := h.1; omega), 0, rfl⟩
      case rest =>
        obtain ⟨⟨v3, rfl, hv3⟩, q, rfl⟩ := hcut
        have HV3 : Hid _ := hv3
        clear hv3
        have HF : Hid (ruleOk ⟨ev, at_, fr, to_, but⟩ = (v1 && v2 && v3)) := by
          show ruleOk _ = _
          by_cases h : RuleOk ⟨ev, at_, fr, to_, but⟩
          · rw [ruleOk_yes h]
            obtain ⟨h1, h2, h3, h4, h5, h6⟩ := h
            rw [HV1.out.2 ⟨h1, h2⟩, HV2.out.2 ⟨h3, h4⟩, HV3.out.2 ⟨h5, fun i hi h0 => (h6 i hi).2.2 h0, fun i hi => ⟨(h6 i hi).1, (h6 i hi).2.1⟩⟩]
            rfl
          · rw [ruleOk_no h]
            cases hv : (v1 && v2 && v3) with
            | false => rfl
            | true =>
              simp only [Bool.and_eq_true] at hv
              obtain ⟨h1, h2⟩ := HV1.out.1 hv.1.1
              obtain ⟨h3, h4⟩ := HV2.out.1 hv.1.2
              obtain ⟨h5, h6, h7⟩ := HV3.out.1 hv.2
              exact absurd ⟨h1, h2, h3, h4, h5, fun i hi => ⟨(h7 i hi).1, (h7 i hi).2, fun h0 => h6 i hi h0⟩⟩ h
        clear HV1 HV2 HV3
        cases v1 <;> cases v2 <;> cases v3
        all_goals
          go_wp2_with fail
          go_ret
          exact ⟨ret_bool HF.out.symm, below_drewN ((Below.refl _ _).alloc (Nat.le_refl _) _) _⟩
end Go.Proofs.YtnieaeakaajleaaGreatDoor
