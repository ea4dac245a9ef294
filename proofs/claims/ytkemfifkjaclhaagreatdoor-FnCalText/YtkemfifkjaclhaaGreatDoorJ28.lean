/- The program's reading of a rule. -/
import Derived.Test.YtkemfifkjaclhaaGreatDoorJ23
import Derived.Test.YtkemfifkjaclhaaGreatDoorJ26
import Derived.Test.YtkemfifkjaclhaaGreatDoorJ27
import Derived.Test.YtkemfifkjaclhaaGreatDoorJ19
import Derived.Deep.CutBlock
import Derived.Deep.DeepCutAuto
import Derived.Deep.RegionHeld3
import Derived.Deep.LoopGhost
import Derived.BigGuard
import Derived.BigRegion
namespace Go.Proofs.YtkemfifkjaclhaaGreatDoor
set_option linter.unusedVariables false
set_option linter.unusedSimpArgs false
open Go.RowKit Go
namespace Cal

def wfI (z : Int) : Prop := (Lit.int .i64 z).wf = true
theorem wf0 : wfI 0 := by unfold wfI; decide
def wfR (r : Rul) : Prop := wfI r.ev ∧ wfI r.at_ ∧ wfI r.fr ∧ wfI r.to_ ∧ ∀ z ∈ r.but, wfI z
/-- What would be read so far, if the line were a rule's. -/
def Hyp (line : ByteArray) (k : Nat) (f : Bool) (ws : List ByteArray) (z0 z1 z2 z3 : Int) : Prop :=
  ∀ q, RuleOk q → rulT q = line → f = false ∧ ws = (wordsR q).drop (2 * k) ∧ (0 < k → z0 = q.ev) ∧ (1 < k → z1 = q.at_) ∧ (2 < k → z2 = q.fr) ∧ (3 < k → z3 = q.to_)
theorem two_steps {ws : List ByteArray} {f f1 f2 : Bool} {x x0 y0 : ByteArray} {z n : Int} {t : List ByteArray} (hws : ws = x0 :: y0 :: t) (hf : f = false) (hy : atoiO y0 = some n)
    (h1 : (f1 = f ∧ ws = x :: ws.tail) ∨ (f1 = true ∧ ws = [])) (h2 : (f2 = f1 ∧ numA ws.tail = some z) ∨ (f2 = true ∧ numA ws.tail = none)) : f2 = false ∧ z = n ∧ ws.tail.tail = t := by
  subst hws hf
  rcases h1 with ⟨rfl, _⟩ | ⟨_, h⟩
  · rcases h2 with ⟨rfl, h⟩ | ⟨_, h⟩
    · simp only [List.tail_cons, numA] at h
      rw [hy] at h
      exact ⟨rfl, (Option.some.inj h).symm, rfl⟩
    · simp only [List.tail_cons, numA] at h
      rw [hy] at h; cases h
  · cases h
theorem fld {q : Rul} (h : RuleOk q) : (0 ≤ q.ev ∧ q.ev ≤ 999999) ∧ (0 ≤ q.at_ ∧ q.at_ ≤ 999999) ∧ (0 ≤ q.fr ∧ q.fr ≤ 999999) ∧ (0 ≤ q.to_ ∧ q.to_ ≤ 999999) := by
  obtain ⟨⟨e1, e2⟩, ⟨a1, a2⟩, ⟨f1, f2⟩, ⟨t1, t2⟩, _⟩ := h
  omega
theorem wordsR_eq (q : Rul) : wordsR q = [evB, itoB q.ev, atB, itoB q.at_, frB, itoB q.fr, toB, itoB q.to_] ++ (butWs q ++ numS q.but) := by
  unfold wordsR rwW headW; simp
theorem hyp_0 {line : ByteArray} {f f1 f2 : Bool} {ws : List ByteArray} {z0 z1 z2 z3 z : Int} {x : ByteArray} (h : Hyp line 0 f ws z0 z1 z2 z3)
    (h1 : (f1 = f ∧ ws = x :: ws.tail) ∨ (f1 = true ∧ ws = [])) (h2 : (f2 = f1 ∧ numA ws.tail = some z) ∨ (f2 = true ∧ numA ws.tail = none)) : Hyp line (0 + 1) f2 ws.tail.tail z z1 z2 z3 := by
  intro q hq hl
  obtain ⟨hf, hws, p0, p1, p2, p3⟩ := h q hq hl
  have hb := fld hq
  rw [wordsR_eq] at hws
  obtain ⟨e1, e2, e3⟩ := two_steps (n := q.ev) (by rw [hws]; rfl) hf (atoi_own q.ev (by omega) (by omega)) h1 h2
  refine ⟨e1, by rw [e3, wordsR_eq]; rfl, fun _ => e2, fun hk => by omega, fun hk => by omega, fun hk => by omega⟩
theorem hyp_1 {line : ByteArray} {f f1 f2 : Bool} {ws : List ByteArray} {z0 z1 z2 z3 z : Int} {x : ByteArray} (h : Hyp line 1 f ws z0 z1 z2 z3)
    (h1 : (f1 = f ∧ ws = x :: ws.tail) ∨ (f1 = true ∧ ws = [])) (h2 : (f2 = f1 ∧ numA ws.tail = some z) ∨ (f2 = true ∧ numA ws.tail = none)) : Hyp line (1 + 1) f2 ws.tail.tail z0 z z2 z3 := by
  intro q hq hl
  obtain ⟨hf, hws, p0, p1, p2, p3⟩ := h q hq hl
  have hb := fld hq
  rw [wordsR_eq] at hws
  obtain ⟨e1, e2, e3⟩ := two_steps (n := q.at_) (by rw [hws]; rfl) hf (atoi_own q.at_ (by omega) (by omega)) h1 h2
  refine ⟨e1, by rw [e3, wordsR_eq]; rfl, fun _ => p0 (by omega), fun _ => e2, fun hk => by omega, fun hk => by omega⟩
theorem hyp_2 {line : ByteArray} {f f1 f2 : Bool} {ws : List ByteArray} {z0 z1 z2 z3 z : Int} {x : ByteArray} (h : Hyp line 2 f ws z0 z1 z2 z3)
    (h1 : (f1 = f ∧ ws = x :: ws.tail) ∨ (f1 = true ∧ ws = [])) (h2 : (f2 = f1 ∧ numA ws.tail = some z) ∨ (f2 = true ∧ numA ws.tail = none)) : Hyp line (2 + 1) f2 ws.tail.tail z0 z1 z z3 := by
  intro q hq hl
  obtain ⟨hf, hws, p0, p1, p2, p3⟩ := h q hq hl
  have hb := fld hq
  rw [wordsR_eq] at hws
  obtain ⟨e1, e2, e3⟩ := two_steps (n := q.fr) (by rw [hws]; rfl) hf (atoi_own q.fr (by omega) (by omega)) h1 h2
  refine ⟨e1, by rw [e3, wordsR_eq]; rfl, fun _ => p0 (by omega), fun _ => p1 (by omega), fun _ => e2, fun hk => by omega⟩
theorem hyp_3 {line : ByteArray} {f f1 f2 : Bool} {ws : List ByteArray} {z0 z1 z2 z3 z : Int} {x : ByteArray} (h : Hyp line 3 f ws z0 z1 z2 z3)
    (h1 : (f1 = f ∧ ws = x :: ws.tail) ∨ (f1 = true ∧ ws = [])) (h2 : (f2 = f1 ∧ numA ws.tail = some z) ∨ (f2 = true ∧ numA ws.tail = none)) : Hyp line (3 + 1) f2 ws.tail.tail z0 z1 z2 z := by
  intro q hq hl
  obtain ⟨hf, hws, p0, p1, p2, p3⟩ := h q hq hl
  have hb := fld hq
  rw [wordsR_eq] at hws
  obtain ⟨e1, e2, e3⟩ := two_steps (n := q.to_) (by rw [hws]; rfl) hf (atoi_own q.to_ (by omega) (by omega)) h1 h2
  refine ⟨e1, by rw [e3, wordsR_eq]; rfl, fun _ => p0 (by omega), fun _ => p1 (by omega), fun _ => p2 (by omega), fun _ => e2⟩

/-- What would be read so far, if the line were a rule's: of its But. -/
def Hyp6 (line : ByteArray) (f : Bool) (ws : List ByteArray) (z0 z1 z2 z3 : Int) (nums : List Int) : Prop :=
  ∀ q, RuleOk q → rulT q = line → f = false ∧ (∃ t, q.but = nums ++ t ∧ ws = numS t) ∧ z0 = q.ev ∧ z1 = q.at_ ∧ z2 = q.fr ∧ z3 = q.to_
theorem drop8 (q : Rul) : (wordsR q).drop (2 * 4) = butWs q ++ numS q.but := by rw [wordsR_eq]; rfl
theorem hyp_but {line : ByteArray} {f f1 : Bool} {ws : List ByteArray} {z0 z1 z2 z3 : Int} {x : ByteArray} (h : Hyp line 4 f ws z0 z1 z2 z3) (hp : 0 < ws.length) (h1 : (f1 = f ∧ ws = x :: ws.tail) ∨ (f1 = true ∧ ws = [])) : Hyp6 line f1 ws.tail z0 z1 z2 z3 [] := by
  intro q hq hl
  obtain ⟨hf, hws, p0, p1, p2, p3⟩ := h q hq hl
  rw [drop8] at hws
  refine ⟨?_, ⟨q.but, rfl, ?_⟩, p0 (by omega), p1 (by omega), p2 (by omega), p3 (by omega)⟩
  · rcases h1 with ⟨rfl, _⟩ | ⟨_, h2⟩
    · exact hf
    · rw [h2] at hp; simp at hp
  · rw [hws]
    unfold butWs
    split
    · rename_i hb; rw [hb]; rfl
    · rfl
theorem hyp_nobut {line : ByteArray} {f : Bool} {ws : List ByteArray} {z0 z1 z2 z3 : Int} (h : Hyp line 4 f ws z0 z1 z2 z3) (hp : ws = []) : Hyp6 line f ws z0 z1 z2 z3 [] := by
  intro q hq hl
  obtain ⟨hf, hws, p0, p1, p2, p3⟩ := h q hq hl
  rw [drop8] at hws
  refine ⟨hf, ⟨q.but, rfl, ?_⟩, p0 (by omega), p1 (by omega), p2 (by omega), p3 (by omega)⟩
  rw [hp] at hws
  have h2 := List.append_eq_nil_iff.1 hws.symm
  rw [hp, h2.2]
theorem hyp_num {line : ByteArray} {f f1 : Bool} {ws : List ByteArray} {z0 z1 z2 z3 z : Int} {nums : List Int} (h : Hyp6 line f ws z0 z1 z2 z3 nums) (hp : 0 < ws.length) (h1 : (f1 = f ∧ numA ws = some z) ∨ (f1 = true ∧ numA ws = none)) : Hyp6 line f1 ws.tail z0 z1 z2 z3 (nums ++ [z]) := by
  intro q hq hl
  obtain ⟨hf, ⟨t, ht, hws⟩, hr⟩ := h q hq hl
  cases t with
  | nil => rw [hws] at hp; simp [numS] at hp
  | cons n t =>
    have hb := but_bd hq n (by rw [ht]; simp)
    have ha : numA ws = some n := by rw [hws]; exact atoi_own n hb.1 hb.2
    rcases h1 with ⟨rfl, h2⟩ | ⟨_, h2⟩
    · rw [ha] at h2
      cases h2
      exact ⟨hf, ⟨t, by rw [ht]; simp, by rw [hws]; rfl⟩, hr⟩
    · rw [ha] at h2; cases h2

theorem own_isRow {w : World} {F : Nat} {a : Option Addr} {c : Nat} {zs : List Int} (h : w.ownsRow F 3 1 (.slice a zs.length c) zs.length (zs.map (Value.int .i64))) (hw : ∀ z ∈ zs, wfI z) : IsRow .i64 w a zs.length c zs := by
  rcases h.2 with ⟨h1, h2⟩ | ⟨g, cap, cur, h1, _, h3, h4, h5, _, h6⟩
  · simp only [Value.slice.injEq] at h1
    exact ⟨rfl, by omega, by rw [h1.2.2]; unfold maxLen; omega, fun h => by omega, hw⟩
  · simp only [Value.slice.injEq, true_and] at h1
    obtain ⟨rfl, rfl⟩ := h1
    refine ⟨rfl, h4, h5, fun _ => ⟨g, 0, rfl, (Array.getElem?_eq_some_iff.1 h3).1, fun i hi => ?_⟩, hw⟩
    have hq : (zs.map (Value.int .i64))[i]? = some (.int .i64 (zs.getD i 0)) := by simp [hi]
    rw [← h6, List.getElem?_take_of_lt (by omega)] at hq
    simp only [World.cell?, h3, Nat.zero_add]
    simpa using hq
theorem ito_size {n : Int} (h : wfI n) : (itoB n).size ≤ 21 := by
  have e1 : IntKind.i64.min = -9223372036854775808 := by decide
  have e2 : IntKind.i64.max = 9223372036854775807 := by decide
  unfold wfI at h
  simp only [Lit.wf, e1, e2, Bool.and_eq_true, decide_eq_true_eq] at h
  exact itoB_size n (by omega) (by omega)
theorem numsT_size' (l : List Int) (h : ∀ n ∈ l, wfI n) (b : ByteArray) : (numsT b l).size ≤ b.size + 22 * l.length := by
  induction l generalizing b with
  | nil => simp [numsT]
  | cons n l ih =>
    have h1 := ih (fun x hx => h x (List.mem_cons_of_mem _ hx)) (b ++ spB ++ itoB n)
    have h2 := ito_size (h n List.mem_cons_self)
    have e : numsT b (n :: l) = numsT (b ++ spB ++ itoB n) l := rfl
    rw [e]
    simp only [ByteArray.size_append, spB_size, List.length_cons] at h1 ⊢
    omega
theorem rulT_size' {r : Rul} (h : wfR r) (hl : r.but.length ≤ 1000001) : (rulT r).size ≤ 100000000000 := by
  obtain ⟨h1, h2, h3, h4, h5⟩ := h
  have s1 := ito_size h1
  have s2 := ito_size h2
  have s3 := ito_size h3
  have s4 := ito_size h4
  have z1 : w1B.size = 6 := rfl
  have z2 : w2B.size = 4 := rfl
  have z3 : w3B.size = 6 := rfl
  have z4 : w4B.size = 4 := rfl
  have z5 : w5B.size = 4 := rfl
  have hh : (headT r).size ≤ 104 := by unfold headT; simp only [ByteArray.size_append]; omega
  unfold rulT
  have h6 := numsT_size' r.but h5 (if r.but = [] then headT r else headT r ++ w5B)
  have h7 : (if r.but = [] then headT r else headT r ++ w5B).size ≤ 108 := by
    split
    · omega
    · simp only [ByteArray.size_append]; omega
  omega
theorem rwW_len' {r : Rul} (hl : r.but.length ≤ 1000001) : (rwW r).length ≤ 1000000000 := by
  unfold rwW headW butWs
  split <;> simp [numS_len] <;> omega
/-- What readRule answers. -/
def RdPost (line : ByteArray) (w : World) (e : Ending) (w' : World) : Prop :=
  ∃ (r : Rul) (a : Option Addr) (c : Nat) (ok : Bool), e = .returned (.tuple #[.agg #[.int .i64 r.ev, .int .i64 r.at_, .int .i64 r.fr, .int .i64 r.to_, .slice a r.but.length c], .bool ok]) ∧ Below w.heap.size w w' ∧
    w'.ownsRow w.heap.size 3 1 (.slice a r.but.length c) r.but.length (r.but.map (Value.int .i64)) ∧ (ok = true → rulT r = line ∧ wfR r) ∧ ∀ q, RuleOk q → rulT q = line → q = r ∧ ok = true

theorem numA_wf' {f f' : Bool} {ws : List ByteArray} {z : Int} (h : (f' = f ∧ numA ws = some z) ∨ (f' = true ∧ numA ws = none)) (hf : f' = false) : f = false ∧ wfI z := by
  rcases h with ⟨rfl, h⟩ | ⟨rfl, _⟩
  · exact ⟨hf, numA_wf h⟩
  · cases hf
theorem word_f {f f1 : Bool} {ws : List ByteArray} {x : ByteArray} (h : (f1 = f ∧ ws = x :: ws.tail) ∨ (f1 = true ∧ ws = [])) (hf : f1 = false) : f = false := by
  rcases h with ⟨rfl, _⟩ | ⟨rfl, _⟩
  · exact hf
  · cases hf

set_option maxRecDepth 100000 in
set_option maxHeartbeats 4000000 in
theorem readRule (line : ByteArray) (w : World) (hl : line.size ≤ 1000000) (he : Errs w) (ht : Tab w) :
    Calls Tryz.prog 32 #[.string line] w fun e w' => RdPost line w e w' := by
  have HE : Hid (Errs w) := he
  have HT : Hid (Tab w) := ht
  have HSP : Hid (∀ w, Calls Tryz.prog 52 #[.string line, .string ⟨#[32]⟩] w fun e w' => ∃ v ps, e = .returned v ∧ Row w' v (sv ps) ∧ bys ps = cutL 32 line.data.toList ∧ Below w.heap.size w w') := fun w => splitSp line w (by omega)
  clear he ht
  go_enter Tryz.func32, Tryz.ntmps32
  go_wp2_with fail
  refine (HSP.out _).mono ?_
  rintro e w1 ⟨v, ps, rfl, hrow, hcut, hw1⟩
  obtain ⟨av, cv, rfl⟩ := hrow.form
  rw [sv_len] at hrow ⊢
  have hB1 : Below w.heap.size w w1 := bcall (((Below.refl _ _).alloc (Nat.le_refl _) _).alloc (by simp) _) (by simp; omega) hw1
  have hs1 : w.heap.size + 1 + 1 ≤ w1.heap.size := by have := hw1.size; simpa using this
  have hres : Holds w1 w.heap.size 50 #[.int .i64 0, .int .i64 0, .int .i64 0, .int .i64 0, .slice none 0 0] := Holds.below (Holds.below (heap_alloc_new w _) ((Below.refl _ _).alloc (Nat.le_refl _) _)) hw1
  have hent : Holds w1 (w.heap.size + 1) 50 #[.int .i64 0, .int .i64 0, .int .i64 0, .int .i64 0, .slice none 0 0] := by
    refine Holds.below ?_ hw1
    have h := heap_alloc_new (w.alloc (.cells #[.int .i64 0, .int .i64 0, .int .i64 0, .int .i64 0, .slice none 0 0] 50)) (.cells #[.int .i64 0, .int .i64 0, .int .i64 0, .int .i64 0, .slice none 0 0] 50)
    rw [World.size_alloc] at h; exact h
  have hz : ∀ y ∈ ps, y.size ≤ 16777216 := fun y hy => by
    have hm : y.data.toList ∈ cutL 32 line.data.toList := by rw [← hcut]; exact List.mem_map.2 ⟨y, hy, rfl⟩
    have := cutL_lenB 32 line.data.toList _ hm
    have e1 : y.data.toList.length = y.size := by simp
    have e2 : line.data.toList.length = line.size := by simp
    omega
  have hmany : ps.length ≤ 1000001 := by
    have := cutL_manyB 32 line.data.toList
    rw [← hcut] at this
    simp [bys] at this
    have e2 : line.data.size = line.size := rfl
    omega
  have HY : Hid (Hyp line 0 false ps 0 0 0 0) := fun q hq hl => by
    refine ⟨rfl, ?_, fun h => by omega, fun h => by omega, fun h => by omega, fun h => by omega⟩
    refine bys_inj ?_
    show bys ps = bys (wordsR q)
    rw [hcut, bys_words, ← hl, cut_rul hq]
  have HROW : Hid (Row w1 (.slice av ps.length cv) (sv ps)) := hrow
  have HZ : Hid _ := hz
  have HRES : Hid _ := hres
  have HENT : Hid _ := hent
  have HB1 : Hid _ := hB1
  clear hrow hz hres hent hB1 hcut hw1 HSP
  go_wp2_with fail
  go_loopw [17] (fun i wr => ∃ (k : Nat) (f : Bool) (a : Option Addr) (n c : Nat) (ws : List ByteArray) (z0 z1 z2 z3 : Int), k ≤ 4 ∧ i = .int .i64 k ∧ St w (w.heap.size + 1) w1.heap.size #[.int .i64 z0, .int .i64 z1, .int .i64 z2, .int .i64 z3, .slice none 0 0] (.slice a n c) f wr ∧ Holds wr (w1.heap.size + 1) 98 #[.pointer (some ⟨w.heap.size + 1, 0, none⟩), .pointer (some ⟨w.heap.size + 1, 1, none⟩), .pointer (some ⟨w.heap.size + 1, 2, none⟩), .pointer (some ⟨w.heap.size + 1, 3, none⟩)] ∧ Row (cutW wr w1.heap.size) (.slice a n c) (sv ws) ∧ (∀ y ∈ ws, y.size ≤ 16777216) ∧ ws.length ≤ 1000001 ∧ (f = false → wfI z0 ∧ wfI z1 ∧ wfI z2 ∧ wfI z3) ∧ Hyp line k f ws z0 z1 z2 z3) (fun i _ => 4 - (intOf i).toNat)
  case atStart =>
    have hb2 : Below w1.heap.size w1 ((w1.alloc (.cells #[.slice av ps.length cv, .bool false] 97)).alloc (.cells #[.pointer (some ⟨w.heap.size + 1, 0, none⟩), .pointer (some ⟨w.heap.size + 1, 1, none⟩), .pointer (some ⟨w.heap.size + 1, 2, none⟩), .pointer (some ⟨w.heap.size + 1, 3, none⟩)] 98)) := ((Below.refl _ _).alloc (Nat.le_refl _) _).alloc (by simp) _
    refine ⟨0, false, av, ps.length, cv, ps, 0, 0, 0, 0, by omega, rfl, ⟨Holds.below HRES.out hb2, Holds.below HENT.out hb2, ?_, HB1.out.trans (hb2.mono HB1.out.size), by omega, by omega⟩, ?_, rowC_grown (rowC_of HROW.out rfl) (Nat.le_refl _) (grown_below none hb2) (fun k hk => by cases hk), HZ.out, hmany, fun _ => ⟨wf0, wf0, wf0, wf0⟩, HY.out⟩
    · exact Holds.below (heap_alloc_new w1 _) ((Below.refl _ _).alloc (Nat.le_refl _) _)
    · have h := heap_alloc_new (w1.alloc (.cells #[.slice av ps.length cv, .bool false] 97)) (.cells #[.pointer (some ⟨w.heap.size + 1, 0, none⟩), .pointer (some ⟨w.heap.size + 1, 1, none⟩), .pointer (some ⟨w.heap.size + 1, 2, none⟩), .pointer (some ⟨w.heap.size + 1, 3, none⟩)] 98)
      rw [World.size_alloc] at h; exact h
  case round =>
    clear HY HROW HZ HRES HENT HB1
    obtain ⟨k, f, a, n, c, ws, z0, z1, z2, z3, hk, rfl, hS, hA, hrow, hz, hlen, hwf, hhyp⟩ := hrel
    have HROW : Hid (Row (cutW wr w1.heap.size) (.slice a n c) (sv ws)) := hrow
    have hRw : w1.heap.size ≤ wr.heap.size := Nat.le_of_lt (Holds.lt hS.rest)
    have HZ : Hid (∀ y ∈ ws, y.size ≤ 16777216) := hz
    have HWF : Hid _ := hwf
    have HHYP : Hid (Hyp line k f ws z0 z1 z2 z3) := hhyp
    have HA : Hid _ := hA
    have HS : Hid _ := hS
    by_cases hlt : k < 4
    · have HW : Hid (Calls Tryz.prog 53 #[.pointer (some ⟨w1.heap.size, 0, none⟩)] wr fun e w' => WordPost w1.heap.size ws f (cutW wr w1.heap.size) wr e w') := word w1.heap.size a n c f ws (cutW wr w1.heap.size) wr hS.rest (cut_below hRw) hrow
      have p0 := Holds.cell hA 0
      have p1 := Holds.cell hA 1
      have p2 := Holds.cell hA 2
      have p3 := Holds.cell hA 3
      simp at p0 p1 p2 p3
      have hlk := hS.lt1
      have hlr := hS.lt2
      clear hS hA hrow hz hwf hhyp
      rcases (by omega : k = 0 ∨ k = 1 ∨ k = 2 ∨ k = 3) with rfl | rfl | rfl | rfl
      · go_wp2_with fail
        refine Calls.mono HW.out ?_
        rintro e w2 ⟨x, f1, a1, n1, c1, rfl, hr1, hrow1, hg1, hf1⟩
        have hS1 := HS.out.grown hg1 hr1
        have hR2 : w1.heap.size ≤ w2.heap.size := Nat.le_of_lt (Holds.lt hr1)
        have hrow2 := rowC_grown hrow1 hRw hg1 (fun k hk => by cases hk; exact Nat.le_refl _)
        have HN : Hid (Calls Tryz.prog 54 #[.pointer (some ⟨w1.heap.size, 0, none⟩)] w2 fun e w' => NumPost w1.heap.size ws.tail f1 (cutW w2 w1.heap.size) w2 e w') := num2 w1.heap.size a1 n1 c1 f1 ws.tail (cutW w2 w1.heap.size) w2 hr1 (cut_below hR2) hrow2 (fun i u => HE.out.below (hS1.bel.setCell (p := ⟨w1.heap.size, i, none⟩) (by simp only; omega) u)) (tail_size HZ.out)
        have HS1 : Hid _ := hS1
        have HA1 : Hid _ := Holds.grown HA.out hg1 (by omega)
        have HF1 : Hid _ := hf1
        clear hS1 hrow1 hrow2 hr1 hg1 hf1
        go_wp2_with fail
        refine Calls.mono HN.out ?_
        rintro e w3 ⟨z, f2, a2, n2, c2, rfl, hr2, hrow2, hg2, hf2⟩
        have hS2 := HS1.out.grown hg2 hr2
        have g0 := hS2.ent.cell 0
        have g1 := hS2.ent.frozen 0
        simp at g0
        have hrow3 := rowC_set (i := 0) (u := .int .i64 z) (rowC_grown hrow2 hR2 hg2 (fun k hk => by cases hk; exact Nat.le_refl _)) (Nat.le_of_lt (Holds.lt hr2)) (rul_noS hS2.ent)
        have HS2 : Hid (St w (w.heap.size + 1) w1.heap.size #[.int .i64 z, .int .i64 z1, .int .i64 z2, .int .i64 z3, .slice none 0 0] (.slice a2 n2 c2) f2 (w3.setCell ⟨w.heap.size + 1, 0, none⟩ (.int .i64 z))) := hS2.set 0 (.int .i64 z)
        have HA2 : Hid _ := Holds.else (Holds.grown HA1.out hg2 (by omega)) 0 (.int .i64 z) (R := w.heap.size + 1) (by omega)
        have HROW3 : Hid _ := hrow3
        have HF2 : Hid _ := hf2
        clear hS2 hrow2 hrow3 hr2 hg2 hf2
        go_wp2_with fail
        go_roundw
        case rel =>
          refine ⟨0 + 1, f2, a2, n2, c2, ws.tail.tail, z, z1, z2, z3, by omega, by go_num, HS2.out, HA2.out, HROW3.out, tail_size (tail_size HZ.out), by simp only [List.length_tail]; omega, fun hf => ?_, hyp_0 HHYP.out HF1.out HF2.out⟩
          obtain ⟨hf1, hwz⟩ := numA_wf' HF2.out hf
          have hf0 := word_f HF1.out hf1
          exact ⟨hwz, (HWF.out hf0).2.1, (HWF.out hf0).2.2.1, (HWF.out hf0).2.2.2⟩
        case measure => simp [intOf]
      · go_wp2_with fail
        refine Calls.mono HW.out ?_
        rintro e w2 ⟨x, f1, a1, n1, c1, rfl, hr1, hrow1, hg1, hf1⟩
        have hS1 := HS.out.grown hg1 hr1
        have hR2 : w1.heap.size ≤ w2.heap.size := Nat.le_of_lt (Holds.lt hr1)
        have hrow2 := rowC_grown hrow1 hRw hg1 (fun k hk => by cases hk; exact Nat.le_refl _)
        have HN : Hid (Calls Tryz.prog 54 #[.pointer (some ⟨w1.heap.size, 0, none⟩)] w2 fun e w' => NumPost w1.heap.size ws.tail f1 (cutW w2 w1.heap.size) w2 e w') := num2 w1.heap.size a1 n1 c1 f1 ws.tail (cutW w2 w1.heap.size) w2 hr1 (cut_below hR2) hrow2 (fun i u => HE.out.below (hS1.bel.setCell (p := ⟨w1.heap.size, i, none⟩) (by simp only; omega) u)) (tail_size HZ.out)
        have HS1 : Hid _ := hS1
        have HA1 : Hid _ := Holds.grown HA.out hg1 (by omega)
        have HF1 : Hid _ := hf1
        clear hS1 hrow1 hrow2 hr1 hg1 hf1
        go_wp2_with fail
        refine Calls.mono HN.out ?_
        rintro e w3 ⟨z, f2, a2, n2, c2, rfl, hr2, hrow2, hg2, hf2⟩
        have hS2 := HS1.out.grown hg2 hr2
        have g0 := hS2.ent.cell 1
        have g1 := hS2.ent.frozen 1
        simp at g0
        have hrow3 := rowC_set (i := 1) (u := .int .i64 z) (rowC_grown hrow2 hR2 hg2 (fun k hk => by cases hk; exact Nat.le_refl _)) (Nat.le_of_lt (Holds.lt hr2)) (rul_noS hS2.ent)
        have HS2 : Hid (St w (w.heap.size + 1) w1.heap.size #[.int .i64 z0, .int .i64 z, .int .i64 z2, .int .i64 z3, .slice none 0 0] (.slice a2 n2 c2) f2 (w3.setCell ⟨w.heap.size + 1, 1, none⟩ (.int .i64 z))) := hS2.set 1 (.int .i64 z)
        have HA2 : Hid _ := Holds.else (Holds.grown HA1.out hg2 (by omega)) 1 (.int .i64 z) (R := w.heap.size + 1) (by omega)
        have HROW3 : Hid _ := hrow3
        have HF2 : Hid _ := hf2
        clear hS2 hrow2 hrow3 hr2 hg2 hf2
        go_wp2_with fail
        go_roundw
        case rel =>
          refine ⟨1 + 1, f2, a2, n2, c2, ws.tail.tail, z0, z, z2, z3, by omega, by go_num, HS2.out, HA2.out, HROW3.out, tail_size (tail_size HZ.out), by simp only [List.length_tail]; omega, fun hf => ?_, hyp_1 HHYP.out HF1.out HF2.out⟩
          obtain ⟨hf1, hwz⟩ := numA_wf' HF2.out hf
          have hf0 := word_f HF1.out hf1
          exact ⟨(HWF.out hf0).1, hwz, (HWF.out hf0).2.2.1, (HWF.out hf0).2.2.2⟩
        case measure => simp [intOf]
      · go_wp2_with fail
        refine Calls.mono HW.out ?_
        rintro e w2 ⟨x, f1, a1, n1, c1, rfl, hr1, hrow1, hg1, hf1⟩
        have hS1 := HS.out.grown hg1 hr1
        have hR2 : w1.heap.size ≤ w2.heap.size := Nat.le_of_lt (Holds.lt hr1)
        have hrow2 := rowC_grown hrow1 hRw hg1 (fun k hk => by cases hk; exact Nat.le_refl _)
        have HN : Hid (Calls Tryz.prog 54 #[.pointer (some ⟨w1.heap.size, 0, none⟩)] w2 fun e w' => NumPost w1.heap.size ws.tail f1 (cutW w2 w1.heap.size) w2 e w') := num2 w1.heap.size a1 n1 c1 f1 ws.tail (cutW w2 w1.heap.size) w2 hr1 (cut_below hR2) hrow2 (fun i u => HE.out.below (hS1.bel.setCell (p := ⟨w1.heap.size, i, none⟩) (by simp only; omega) u)) (tail_size HZ.out)
        have HS1 : Hid _ := hS1
        have HA1 : Hid _ := Holds.grown HA.out hg1 (by omega)
        have HF1 : Hid _ := hf1
        clear hS1 hrow1 hrow2 hr1 hg1 hf1
        go_wp2_with fail
        refine Calls.mono HN.out ?_
        rintro e w3 ⟨z, f2, a2, n2, c2, rfl, hr2, hrow2, hg2, hf2⟩
        have hS2 := HS1.out.grown hg2 hr2
        have g0 := hS2.ent.cell 2
        have g1 := hS2.ent.frozen 2
        simp at g0
        have hrow3 := rowC_set (i := 2) (u := .int .i64 z) (rowC_grown hrow2 hR2 hg2 (fun k hk => by cases hk; exact Nat.le_refl _)) (Nat.le_of_lt (Holds.lt hr2)) (rul_noS hS2.ent)
        have HS2 : Hid (St w (w.heap.size + 1) w1.heap.size #[.int .i64 z0, .int .i64 z1, .int .i64 z, .int .i64 z3, .slice none 0 0] (.slice a2 n2 c2) f2 (w3.setCell ⟨w.heap.size + 1, 2, none⟩ (.int .i64 z))) := hS2.set 2 (.int .i64 z)
        have HA2 : Hid _ := Holds.else (Holds.grown HA1.out hg2 (by omega)) 2 (.int .i64 z) (R := w.heap.size + 1) (by omega)
        have HROW3 : Hid _ := hrow3
        have HF2 : Hid _ := hf2
        clear hS2 hrow2 hrow3 hr2 hg2 hf2
        go_wp2_with fail
        go_roundw
        case rel =>
          refine ⟨2 + 1, f2, a2, n2, c2, ws.tail.tail, z0, z1, z, z3, by omega, by go_num, HS2.out, HA2.out, HROW3.out, tail_size (tail_size HZ.out), by simp only [List.length_tail]; omega, fun hf => ?_, hyp_2 HHYP.out HF1.out HF2.out⟩
          obtain ⟨hf1, hwz⟩ := numA_wf' HF2.out hf
          have hf0 := word_f HF1.out hf1
          exact ⟨(HWF.out hf0).1, (HWF.out hf0).2.1, hwz, (HWF.out hf0).2.2.2⟩
        case measure => simp [intOf]
      · go_wp2_with fail
        refine Calls.mono HW.out ?_
        rintro e w2 ⟨x, f1, a1, n1, c1, rfl, hr1, hrow1, hg1, hf1⟩
        have hS1 := HS.out.grown hg1 hr1
        have hR2 : w1.heap.size ≤ w2.heap.size := Nat.le_of_lt (Holds.lt hr1)
        have hrow2 := rowC_grown hrow1 hRw hg1 (fun k hk => by cases hk; exact Nat.le_refl _)
        have HN : Hid (Calls Tryz.prog 54 #[.pointer (some ⟨w1.heap.size, 0, none⟩)] w2 fun e w' => NumPost w1.heap.size ws.tail f1 (cutW w2 w1.heap.size) w2 e w') := num2 w1.heap.size a1 n1 c1 f1 ws.tail (cutW w2 w1.heap.size) w2 hr1 (cut_below hR2) hrow2 (fun i u => HE.out.below (hS1.bel.setCell (p := ⟨w1.heap.size, i, none⟩) (by simp only; omega) u)) (tail_size HZ.out)
        have HS1 : Hid _ := hS1
        have HA1 : Hid _ := Holds.grown HA.out hg1 (by omega)
        have HF1 : Hid _ := hf1
        clear hS1 hrow1 hrow2 hr1 hg1 hf1
        go_wp2_with fail
        refine Calls.mono HN.out ?_
        rintro e w3 ⟨z, f2, a2, n2, c2, rfl, hr2, hrow2, hg2, hf2⟩
        have hS2 := HS1.out.grown hg2 hr2
        have g0 := hS2.ent.cell 3
        have g1 := hS2.ent.frozen 3
        simp at g0
        have hrow3 := rowC_set (i := 3) (u := .int .i64 z) (rowC_grown hrow2 hR2 hg2 (fun k hk => by cases hk; exact Nat.le_refl _)) (Nat.le_of_lt (Holds.lt hr2)) (rul_noS hS2.ent)
        have HS2 : Hid (St w (w.heap.size + 1) w1.heap.size #[.int .i64 z0, .int .i64 z1, .int .i64 z2, .int .i64 z, .slice none 0 0] (.slice a2 n2 c2) f2 (w3.setCell ⟨w.heap.size + 1, 3, none⟩ (.int .i64 z))) := hS2.set 3 (.int .i64 z)
        have HA2 : Hid _ := Holds.else (Holds.grown HA1.out hg2 (by omega)) 3 (.int .i64 z) (R := w.heap.size + 1) (by omega)
        have HROW3 : Hid _ := hrow3
        have HF2 : Hid _ := hf2
        clear hS2 hrow2 hrow3 hr2 hg2 hf2
        go_wp2_with fail
        go_roundw
        case rel =>
          refine ⟨3 + 1, f2, a2, n2, c2, ws.tail.tail, z0, z1, z2, z, by omega, by go_num, HS2.out, HA2.out, HROW3.out, tail_size (tail_size HZ.out), by simp only [List.length_tail]; omega, fun hf => ?_, hyp_3 HHYP.out HF1.out HF2.out⟩
          obtain ⟨hf1, hwz⟩ := numA_wf' HF2.out hf
          have hf0 := word_f HF1.out hf1
          exact ⟨(HWF.out hf0).1, (HWF.out hf0).2.1, (HWF.out hf0).2.2.1, hwz⟩
        case measure => simp [intOf]
    · obtain rfl : k = 4 := by omega
      have hn : n = ws.length := by
        obtain ⟨a', c', h⟩ := hrow.form
        simp only [Value.slice.injEq] at h
        rw [h.2.1, sv_len]
      have r0 := Holds.cell hS.rest 0
      simp at r0
      clear hS hA hrow hz hwf hhyp HA
      go_upto_if 29 with fail
      go_cut [] (fun wx => ∃ (f : Bool) (a : Option Addr) (n c : Nat) (ws : List ByteArray), St w (w.heap.size + 1) w1.heap.size #[.int .i64 z0, .int .i64 z1, .int .i64 z2, .int .i64 z3, .slice none 0 0] (.slice a n c) f wx ∧ Row (cutW wx w1.heap.size) (.slice a n c) (sv ws) ∧ (∀ y ∈ ws, y.size ≤ 16777216) ∧ ws.length ≤ 1000001 ∧ (f = false → wfI z0 ∧ wfI z1 ∧ wfI z2 ∧ wfI z3) ∧ Hyp6 line f ws z0 z1 z2 z3 [])
      case first =>
        by_cases hpos : 0 < ws.length
        · have hd : decide ((0 : Int) < (n : Int)) = true := decide_eq_true (by omega)
          have HW : Hid (Calls Tryz.prog 53 #[.pointer (some ⟨w1.heap.size, 0, none⟩)] wr fun e w' => WordPost w1.heap.size ws f (cutW wr w1.heap.size) wr e w') := word w1.heap.size a n c f ws (cutW wr w1.heap.size) wr HS.out.rest (cut_below hRw) HROW.out
          go_wp2_with (go_at_call 53; refine Calls.mono HW.out ?_; rintro e w2 ⟨x, f1, a1, n1, c1, rfl, hr1, hrow1, hg1, hf1⟩; have HX : Hid _ := (⟨hr1, hrow1, hg1, hf1⟩ : _ ∧ _ ∧ _ ∧ _); clear hr1 hrow1 hg1 hf1)
          go_meet
          case rel =>
            obtain ⟨hr1, hrow1, hg1, hf1⟩ := HX.out
            refine ⟨f1, a1, n1, c1, ws.tail, HS.out.grown hg1 hr1, rowC_grown hrow1 hRw hg1 (fun k hk => by cases hk; exact Nat.le_refl _), tail_size HZ.out, by simp only [List.length_tail]; omega, fun hf => HWF.out (word_f hf1 hf), hyp_but HHYP.out hpos hf1⟩
        · have hd : decide ((0 : Int) < (n : Int)) = false := decide_eq_false (by omega)
          have hw0 : ws = [] := List.length_eq_zero_iff.1 (by omega)
          go_wp2_with fail
          go_meet
          case rel => exact ⟨f, a, n, c, ws, HS.out, HROW.out, HZ.out, hlen, HWF.out, hyp_nobut HHYP.out hw0⟩
      case rest =>
        clear HS HROW HZ HWF HHYP hlen r0 hn hRw
        obtain ⟨f, a, n, c, ws, hS, hrow, hz, hlen, hwf, hhyp⟩ := hcut
        rename World => wD
        have hR1 : w.heap.size + 1 < w1.heap.size := hS.lt2
        go_wp2_with fail
        go_loopw [] (fun wr => ∃ (f1 : Bool) (a : Option Addr) (n c : Nat) (ws1 : List ByteArray) (nums : List Int) (v : Value), St w (w.heap.size + 1) w1.heap.size #[.int .i64 z0, .int .i64 z1, .int .i64 z2, .int .i64 z3, v] (.slice a n c) f1 wr ∧ Row (cutW wr w1.heap.size) (.slice a n c) (sv ws1) ∧ (∀ y ∈ ws1, y.size ≤ 16777216) ∧ nums.length + ws1.length ≤ 1000001 ∧ (f1 = false → (wfI z0 ∧ wfI z1 ∧ wfI z2 ∧ wfI z3) ∧ ∀ z ∈ nums, wfI z) ∧ wr.ownsRow (w1.heap.size + 1) 3 1 v nums.length (nums.map (Value.int .i64)) ∧ Hyp6 line f1 ws1 z0 z1 z2 z3 nums) (fun wr => left w1.heap.size wr)
        case atStart => exact ⟨f, a, n, c, ws, [], _, hS, hrow, hz, by simpa using hlen, fun h => ⟨hwf h, fun z hz => by cases hz⟩, World.ownsRow_nil _ _ _ _, hhyp⟩
        case round =>
          clear hS hrow hz hlen hwf hhyp
          obtain ⟨f1, a, n, c, ws1, nums, v, hS, hRw, hz1, hl1, hG1, hown, hhyp⟩ := hrel
          have hlen1 : n = ws1.length := by
            obtain ⟨a', c', h⟩ := hRw.form
            simp only [Value.slice.injEq] at h
            rw [h.2.1, sv_len]
          have r0 := Holds.cell hS.rest 0
          have r1 := Holds.cell hS.rest 1
          simp at r0 r1
          have hRs : w1.heap.size < wr.heap.size := Holds.lt hS.rest
          obtain ⟨a8, c8, rfl⟩ := own_slice hown
          by_cases hlt : 0 < ws1.length
          · have HN : Hid (Calls Tryz.prog 54 #[.pointer (some ⟨w1.heap.size, 0, none⟩)] wr.drew fun e w' => NumPost w1.heap.size ws1 f1 (cutW wr w1.heap.size) wr.drew e w') := num2 w1.heap.size a n c f1 ws1 (cutW wr w1.heap.size) wr.drew hS.rest (cut_below (Nat.le_of_lt hRs)).drew hRw (fun i u => HE.out.below (hS.bel.drew.setCell (p := ⟨w1.heap.size, i, none⟩) (by simp only; omega) u)) hz1
            have hpos : 0 < n := by omega
            have g4 := hS.ent.cell 4
            simp at g4
            have hnl : nums.length ≤ 100000000 := by omega
            have hvb : ∀ k, (Value.slice a8 nums.length c8).ownBlock = some k → w1.heap.size < k := fun k hk => (hown.lt k hk).1
            have HVB : Hid _ := hvb
            have HS : Hid _ := hS
            have HOWN : Hid _ := hown
            have HG1 : Hid _ := hG1
            have HZ1 : Hid _ := hz1
            have HHYP : Hid _ := hhyp
            clear hS hown hG1 hz1 hvb hRw hhyp
            go_upto_region 12 with fail
            go_region_law (first
                | (refine step_call HN.out (fun e w' ⟨z, _, _, _, _, he, _⟩ => ⟨_, he⟩) (enters_of Tryz.func54 (by kernel_rfl) rfl) (by rfl) _ _ (by rfl) (by rfl) ?_; rintro r w2 ⟨z, f2, a2, n2, c2, he2, hr2, hrow2, hg2, hf2⟩; cases he2; have hown2 := own_grown (w := wr.drew) HOWN.out hg2 (Nat.lt_succ_self w1.heap.size); have hS2 := St.grown (wx := wr.drew) ⟨HS.out.res, HS.out.ent, HS.out.rest, HS.out.bel.drew, HS.out.lt1, HS.out.lt2⟩ hg2 hr2; have d2 : w2.cell? ⟨w.heap.size + 1, 4, none⟩ = some (.slice a8 nums.length c8) := (by have q := hS2.ent.cell 4; simpa using q); have hR2 : w1.heap.size + 1 ≤ w2.heap.size := Holds.lt hr2; have hE2 : w.heap.size + 1 < w2.heap.size := (by omega); have d1 : ∀ o, (w2.alloc o).cell? ⟨w.heap.size + 1, 4, none⟩ = some (.slice a8 nums.length c8) := fun o => (World.cell?_alloc_past (w := w2) o (w.heap.size + 1) 4 hE2).trans d2; have hrow2' := rowC_grown (w := wr.drew) (R := w1.heap.size) hrow2 (Nat.le_of_lt hRs) hg2 (fun k hk => by cases hk; exact Nat.le_refl _); have HOWN2 : Hid _ := hown2; have HS2 : Hid _ := hS2; have HF2 : Hid _ := (⟨hrow2', hf2⟩ : _ ∧ _); clear hown2 hS2 hrow2 hrow2' hf2 hr2 hg2)
                | (refine step_app1 HOWN2.out hR2 hnl (by rfl) _ _ (by rfl) (by rfl) (by rfl) ?_; intro g cap3 w3 hown3 hg3; have d3 : w3.cell? ⟨w.heap.size + 1, 4, none⟩ = some (.slice a8 nums.length c8) := (hg3.cell_far ⟨w.heap.size + 1, 4, none⟩ (by simp; omega) (fun h => by have := HVB.out (w.heap.size + 1) h.symm; omega)).trans (d1 _); have p3 : w3.frozen? ⟨w.heap.size + 1, 4, none⟩ = false := (hg3.frozen_far ⟨w.heap.size + 1, 4, none⟩ (by simp; omega) (fun h => by have := HVB.out (w.heap.size + 1) h.symm; omega)).trans (Holds.frozen (Holds.below HS2.out.ent ((Below.refl _ _).alloc (Nat.le_refl _) _)) 4); have HOWN3 : Hid _ := hown3; have HG3 : Hid _ := hg3; clear hown3 hg3))
            all_goals
              go_wp2_with fail
              obtain ⟨hrow2, hf2⟩ := HF2.out
              have hS3' := St.kept (St.kept HS2.out (World.grownBy_alloc w2 (.cells #[.int .i64 z] 3) none) (fun k hk => by cases hk)) HG3.out HVB.out
              have hS3 := hS3'.set 4 (.slice (some ⟨g, 0, none⟩) (nums.length + 1) cap3)
              have hrow3 := rowC_set (i := 4) (u := .slice (some ⟨g, 0, none⟩) (nums.length + 1) cap3) (rowC_grown (rowC_grown hrow2 (by omega) (World.grownBy_alloc w2 (.cells #[.int .i64 z] 3) none) (fun k hk => by cases hk)) (by simp; omega) HG3.out (fun k hk => Nat.le_of_lt (HVB.out k hk))) (by have := Holds.lt hS3'.rest; omega) (rul_noS hS3'.ent)
              have hn2 : n2 = ws1.tail.length := by
                obtain ⟨a', c', h⟩ := hrow2.form
                simp only [Value.slice.injEq] at h
                rw [h.2.1, sv_len]
              have hL : left w1.heap.size wr = n := by unfold left; rw [r0]
              have hL3 : left w1.heap.size (w3.setCell ⟨w.heap.size + 1, 4, none⟩ (.slice (some ⟨g, 0, none⟩) (nums.length + 1) cap3)) = n2 := by
                have q := Holds.cell hS3.rest 0
                simp at q
                unfold left; rw [q]
              go_roundw
              case rel =>
                refine ⟨_, _, _, _, _, _, _, _, _, _, ⟨f2, a2, n2, c2, ws1.tail, nums ++ [z], _, hS3, hrow3, tail_size HZ1.out, by simp; omega, fun h => ?_, ?_, hyp_num HHYP.out hlt hf2⟩, rfl⟩
                · obtain ⟨hf1, hwz⟩ := numA_wf' hf2 h
                  refine ⟨(HG1.out hf1).1, fun y hy => ?_⟩
                  rcases List.mem_append.1 hy with hy | hy
                  · exact (HG1.out hf1).2 y hy
                  · simp only [List.mem_singleton] at hy; subst hy; exact hwz
                · rw [List.length_append]
                  exact own_grown HOWN3.out (grown_set _ _ _ _) (by omega)
              case measure => rw [hL3, hL, hn2, hlen1]; simp; omega
          · have hw0 : ws1 = [] := List.length_eq_zero_iff.1 (by omega)
            subst hw0
            have hn0 : n = 0 := hlen1
            subst hn0
            clear hlen1
            have HS : Hid _ := hS
            have HOWN : Hid _ := hown
            have HG1 : Hid _ := hG1
            have HHYP : Hid _ := hhyp
            have e0 := hS.ent.cell 0
            have e1 := hS.ent.cell 1
            have e2 := hS.ent.cell 2
            have e3 := hS.ent.cell 3
            have e4 := hS.ent.cell 4
            simp at e0 e1 e2 e3 e4
            have hne1 : w.heap.size + 1 ≠ w1.heap.size := by omega
            have hnl : nums.length ≤ 1000001 := by simpa using hl1
            cases f1 with
            | true =>
              have s0 := hS.res.cell 0
              have s1 := hS.res.cell 1
              have s2 := hS.res.cell 2
              have s3 := hS.res.cell 3
              have s4 := hS.res.cell 4
              have k0 := hS.res.frozen 0
              have k1 := hS.res.frozen 1
              have k2 := hS.res.frozen 2
              have k3 := hS.res.frozen 3
              have k4 := hS.res.frozen 4
              simp at s0 s1 s2 s3 s4
              clear hS hown hG1 hRw hz1 hhyp
              go_wp2_with fail
              go_region
              all_goals
                go_wp2_with fail
                obtain ⟨cur', qh, _, _, q0, q1, q2, q3, q4⟩ := HS.out.res.set5 0 (.int .i64 z0) (.int .i64 z1) (.int .i64 z2) (.int .i64 z3) (.slice a8 nums.length c8) (by simp)
                have b0 := (qh.cell 0).trans q0
                have b1 := (qh.cell (0 + 1)).trans q1
                have b2 := (qh.cell (0 + 2)).trans q2
                have b3 := (qh.cell (0 + 3)).trans q3
                have b4 := (qh.cell (0 + 4)).trans q4
                simp only [Nat.zero_add] at b0 b1 b2 b3 b4
                refine bodyPost_ret (v := .tuple #[.agg #[.int .i64 z0, .int .i64 z1, .int .i64 z2, .int .i64 z3, .slice a8 nums.length c8], .bool false]) ?_ rfl ?_
                · simp [results, Tryz.results32, go_sem, b0, b1, b2, b3, b4]
                · refine ⟨⟨z0, z1, z2, z3, nums⟩, a8, c8, false, rfl, (below_set5 HS.out.bel (Nat.le_refl _) 0 _ _ _ _ _).drew, ?_, (fun h => by cases h), fun q hq hl => ?_⟩
                  · exact own_drew (own_less (own_set5 HOWN.out (by omega) 0 (.int .i64 z0) (.int .i64 z1) (.int .i64 z2) (.int .i64 z3) (.slice a8 nums.length c8)) (by omega))
                  · have := (HHYP.out q hq hl).1; cases this
            | false =>
              obtain ⟨⟨g0, g1, g2, g3⟩, g4⟩ := hG1 rfl
              have hWR : wfR ⟨z0, z1, z2, z3, nums⟩ := ⟨g0, g1, g2, g3, g4⟩
              have hbw : Below w.heap.size w wr.drew := hS.bel.drew
              have HRW : Hid (Calls Tryz.prog 23 #[.agg #[.int .i64 z0, .int .i64 z1, .int .i64 z2, .int .i64 z3, .slice a8 nums.length c8]] wr.drew fun e w' => ∃ v n, e = .returned v ∧ w'.ownsRow wr.heap.size 9 1 v n (sv (evB :: rwW ⟨z0, z1, z2, z3, nums⟩)) ∧ Below wr.drew.heap.size wr.drew w') := ruleWords ⟨z0, z1, z2, z3, nums⟩ a8 nums.length c8 wr.drew (own_isRow (own_drew hown) g4) (HT.out.below hbw) ⟨g0, g1, g2, g3⟩ (by omega)
              have HJN : Hid (∀ v w', Row w' v (sv (evB :: rwW ⟨z0, z1, z2, z3, nums⟩)) → Calls Tryz.prog 42 #[v, .string ⟨#[32]⟩] w' fun e w'' => e = .returned (.string (rulT ⟨z0, z1, z2, z3, nums⟩)) ∧ Below w'.heap.size w' w'') := fun v w' hr => joinWords v evB _ _ w' hr (rwW_len' hnl) (joinB_rule _) (rulT_size' hWR hnl)
              generalize hTT : rulT ⟨z0, z1, z2, z3, nums⟩ = TT at HJN
              generalize rwW ⟨z0, z1, z2, z3, nums⟩ = RW at HRW HJN
              have HST0 : Hid (St w (w.heap.size + 1) w1.heap.size #[.int .i64 z0, .int .i64 z1, .int .i64 z2, .int .i64 z3, .slice a8 nums.length c8] (.slice a 0 c) false wr.drew) := ⟨hS.res, hS.ent, hS.rest, hS.bel.drew, hS.lt1, hS.lt2⟩
              clear hS hown hG1 hRw hz1 hhyp g0 g1 g2 g3 g4 hbw
              go_upto_region 13 with fail
              go_cut [3] (fun t3 wx => ∃ w5 w6 : World, t3 = .bool (TT.toList == line.toList) ∧ Below wr.drew.heap.size wr.drew w5 ∧ Below w5.heap.size w5 w6 ∧ wx = ((((w6.setCell ⟨w.heap.size, 0, none⟩ (.int .i64 z0)).setCell ⟨w.heap.size, 1, none⟩ (.int .i64 z1)).setCell ⟨w.heap.size, 2, none⟩ (.int .i64 z2)).setCell ⟨w.heap.size, 3, none⟩ (.int .i64 z3)).setCell ⟨w.heap.size, 4, none⟩ (.slice a8 nums.length c8))
              case first =>
                clear r0 r1 e0 e1 e2 e3 e4 HOWN HHYP HG1 HE HT hl1 HS hTT hWR hnl hRs hl
                go_region_held3 (fun w' => w'.cell? ⟨w.heap.size + 1, 0, none⟩ = some (.int .i64 z0) ∧ w'.cell? ⟨w.heap.size + 1, 1, none⟩ = some (.int .i64 z1) ∧ w'.cell? ⟨w.heap.size + 1, 2, none⟩ = some (.int .i64 z2) ∧ w'.cell? ⟨w.heap.size + 1, 3, none⟩ = some (.int .i64 z3) ∧ w'.cell? ⟨w.heap.size + 1, 4, none⟩ = some (.slice a8 nums.length c8) ∧ w'.cell? ⟨w1.heap.size, 1, none⟩ = some (.bool false))
                  (first | with_reducible exact hC6 | with_reducible exact hC5 | with_reducible exact HST0.out.cells6 | exact St.cells6set hC6 (by omega) (by omega))
                  (first
                    | (go_at_call 23; refine Calls.mono HRW.out ?_; rintro e w5 ⟨v5, n5, rfl, hown5, hw5⟩; have hS5 := HST0.out.below hw5; have hC5 := hS5.cells6; have HS5 : Hid _ := hS5; clear hS5)
                    | (go_at_call 42; refine (HJN.out _ _ (Row.owned hown5)).mono ?_; rintro e w6 ⟨rfl, hw6⟩; have hS6 := HS5.out.below hw6; have hC6 := hS6.cells6; have s0 := hS6.res.cell 0; have s1 := hS6.res.cell 1; have s2 := hS6.res.cell 2; have s3 := hS6.res.cell 3; have s4 := hS6.res.cell 4; have k0 := hS6.res.frozen 0; have k1 := hS6.res.frozen 1; have k2 := hS6.res.frozen 2; have k3 := hS6.res.frozen 3; have k4 := hS6.res.frozen 4; simp at s0 s1 s2 s3 s4; clear hS6))
                all_goals
                  go_wp2_with fail
                  go_meet
                  case rel => exact ⟨w5, w6, rfl, hw5, hw6, rfl⟩
              case rest =>
                obtain ⟨w5, w6, rfl, hb5, hb6, rfl⟩ := hcut
                have hS6 := (HST0.out.below hb5).below hb6
                have HS6 : Hid _ := hS6
                have HOWN6 : Hid _ := own_below (own_below (own_drew HOWN.out) hb5) hb6
                clear hS6 hb5 hb6 HRW HJN r0 r1 e0 e1 e2 e3 e4
                have hWR2 : Hid (wfR ⟨z0, z1, z2, z3, nums⟩) := hWR
                clear hWR
                generalize hok : (TT.toList == line.toList) = ok
                go_wp2_with fail
                obtain ⟨cur', qh, _, _, q0, q1, q2, q3, q4⟩ := HS6.out.res.set5 0 (.int .i64 z0) (.int .i64 z1) (.int .i64 z2) (.int .i64 z3) (.slice a8 nums.length c8) (by simp)
                have b0 := (qh.cell 0).trans q0
                have b1 := (qh.cell (0 + 1)).trans q1
                have b2 := (qh.cell (0 + 2)).trans q2
                have b3 := (qh.cell (0 + 3)).trans q3
                have b4 := (qh.cell (0 + 4)).trans q4
                simp only [Nat.zero_add] at b0 b1 b2 b3 b4
                refine bodyPost_ret (v := .tuple #[.agg #[.int .i64 z0, .int .i64 z1, .int .i64 z2, .int .i64 z3, .slice a8 nums.length c8], .bool ok]) ?_ rfl ?_
                · simp [results, Tryz.results32, go_sem, b0, b1, b2, b3, b4]
                · refine ⟨⟨z0, z1, z2, z3, nums⟩, a8, c8, ok, rfl, below_set5 HS6.out.bel (Nat.le_refl _) 0 _ _ _ _ _, ?_, fun h => ⟨hTT.trans ((eqS_iff _ _).1 (hok.trans h)), hWR2.out⟩, fun q hq hl => ?_⟩
                  · exact own_less (own_set5 HOWN6.out (by omega) 0 (.int .i64 z0) (.int .i64 z1) (.int .i64 z2) (.int .i64 z3) (.slice a8 nums.length c8)) (by omega)
                  · obtain ⟨_, ⟨t, ht, hws⟩, h0, h1, h2, h3⟩ := HHYP.out q hq hl
                    have ht0 : t = [] := by cases t with | nil => rfl | cons x y => simp [numS] at hws
                    have hqe : q = ⟨z0, z1, z2, z3, nums⟩ := by
                      cases q; simp only at ht h0 h1 h2 h3; rw [ht0, List.append_nil] at ht; simp [ht, h0, h1, h2, h3]
                    refine ⟨hqe, ?_⟩
                    rw [← hok]
                    exact (eqS_iff _ _).2 (by rw [← hTT, ← hqe]; exact hl)
end Cal
end Go.Proofs.YtkemfifkjaclhaaGreatDoor
