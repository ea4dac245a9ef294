/- The program's check of an entry. -/
import Derived.Test.YtbngjpnbjknliaaGreatDoorJ1
import Derived.Test.YtbngjpnbjknliaaGreatDoorJ10
import Derived.Shelf.Slices.Equal
import Derived.Shelf.Slices.Empties2
import Derived.Test.YtbngjpnbjknliaaGreatDoorProg
import Derived.Deep.RegionHeld3
import Derived.BigGuard
import Derived.BigRegion
namespace Go.Proofs.YtbngjpnbjknliaaGreatDoor
set_option linter.unusedVariables false
set_option linter.unusedSimpArgs false
open Go.RowKit Go
theorem ta_start_start (v : Value) (w : World) : (Instr.typeAssert (.iface 84 v) 79 84 true).run Tryz.prog w = .ok (.tuple #[v, .bool true]) w := by kernel_rfl
theorem ta_start_mark (v : Value) (w : World) : (Instr.typeAssert (.iface 84 v) 79 86 true).run Tryz.prog w = .ok (.tuple #[.string ⟨#[]⟩, .bool false]) w := by kernel_rfl
theorem ta_start_ask (v : Value) (w : World) : (Instr.typeAssert (.iface 84 v) 79 88 true).run Tryz.prog w = .ok (.tuple #[.agg #[.int .i64 0, .string ⟨#[]⟩, .string ⟨#[]⟩, .slice none 0 0], .bool false]) w := by kernel_rfl
theorem ta_start_hap (v : Value) (w : World) : (Instr.typeAssert (.iface 84 v) 79 91 true).run Tryz.prog w = .ok (.tuple #[.agg #[.int .i64 0, .int .i64 0, .string ⟨#[]⟩, .int .i64 0], .bool false]) w := by kernel_rfl
theorem ta_start_end (v : Value) (w : World) : (Instr.typeAssert (.iface 84 v) 79 94 true).run Tryz.prog w = .ok (.tuple #[.agg #[.int .i64 0, .slice none 0 0], .bool false]) w := by kernel_rfl
theorem ta_mark_start (v : Value) (w : World) : (Instr.typeAssert (.iface 86 v) 79 84 true).run Tryz.prog w = .ok (.tuple #[.slice none 0 0, .bool false]) w := by kernel_rfl
theorem ta_mark_mark (v : Value) (w : World) : (Instr.typeAssert (.iface 86 v) 79 86 true).run Tryz.prog w = .ok (.tuple #[v, .bool true]) w := by kernel_rfl
theorem ta_mark_ask (v : Value) (w : World) : (Instr.typeAssert (.iface 86 v) 79 88 true).run Tryz.prog w = .ok (.tuple #[.agg #[.int .i64 0, .string ⟨#[]⟩, .string ⟨#[]⟩, .slice none 0 0], .bool false]) w := by kernel_rfl
theorem ta_mark_hap (v : Value) (w : World) : (Instr.typeAssert (.iface 86 v) 79 91 true).run Tryz.prog w = .ok (.tuple #[.agg #[.int .i64 0, .int .i64 0, .string ⟨#[]⟩, .int .i64 0], .bool false]) w := by kernel_rfl
theorem ta_mark_end (v : Value) (w : World) : (Instr.typeAssert (.iface 86 v) 79 94 true).run Tryz.prog w = .ok (.tuple #[.agg #[.int .i64 0, .slice none 0 0], .bool false]) w := by kernel_rfl
theorem ta_ask_start (v : Value) (w : World) : (Instr.typeAssert (.iface 88 v) 79 84 true).run Tryz.prog w = .ok (.tuple #[.slice none 0 0, .bool false]) w := by kernel_rfl
theorem ta_ask_mark (v : Value) (w : World) : (Instr.typeAssert (.iface 88 v) 79 86 true).run Tryz.prog w = .ok (.tuple #[.string ⟨#[]⟩, .bool false]) w := by kernel_rfl
theorem ta_ask_ask (v : Value) (w : World) : (Instr.typeAssert (.iface 88 v) 79 88 true).run Tryz.prog w = .ok (.tuple #[v, .bool true]) w := by kernel_rfl
theorem ta_ask_hap (v : Value) (w : World) : (Instr.typeAssert (.iface 88 v) 79 91 true).run Tryz.prog w = .ok (.tuple #[.agg #[.int .i64 0, .int .i64 0, .string ⟨#[]⟩, .int .i64 0], .bool false]) w := by kernel_rfl
theorem ta_ask_end (v : Value) (w : World) : (Instr.typeAssert (.iface 88 v) 79 94 true).run Tryz.prog w = .ok (.tuple #[.agg #[.int .i64 0, .slice none 0 0], .bool false]) w := by kernel_rfl
theorem ta_hap_start (v : Value) (w : World) : (Instr.typeAssert (.iface 91 v) 79 84 true).run Tryz.prog w = .ok (.tuple #[.slice none 0 0, .bool false]) w := by kernel_rfl
theorem ta_hap_mark (v : Value) (w : World) : (Instr.typeAssert (.iface 91 v) 79 86 true).run Tryz.prog w = .ok (.tuple #[.string ⟨#[]⟩, .bool false]) w := by kernel_rfl
theorem ta_hap_ask (v : Value) (w : World) : (Instr.typeAssert (.iface 91 v) 79 88 true).run Tryz.prog w = .ok (.tuple #[.agg #[.int .i64 0, .string ⟨#[]⟩, .string ⟨#[]⟩, .slice none 0 0], .bool false]) w := by kernel_rfl
theorem ta_hap_hap (v : Value) (w : World) : (Instr.typeAssert (.iface 91 v) 79 91 true).run Tryz.prog w = .ok (.tuple #[v, .bool true]) w := by kernel_rfl
theorem ta_hap_end (v : Value) (w : World) : (Instr.typeAssert (.iface 91 v) 79 94 true).run Tryz.prog w = .ok (.tuple #[.agg #[.int .i64 0, .slice none 0 0], .bool false]) w := by kernel_rfl
theorem ta_end_start (v : Value) (w : World) : (Instr.typeAssert (.iface 94 v) 79 84 true).run Tryz.prog w = .ok (.tuple #[.slice none 0 0, .bool false]) w := by kernel_rfl
theorem ta_end_mark (v : Value) (w : World) : (Instr.typeAssert (.iface 94 v) 79 86 true).run Tryz.prog w = .ok (.tuple #[.string ⟨#[]⟩, .bool false]) w := by kernel_rfl
theorem ta_end_ask (v : Value) (w : World) : (Instr.typeAssert (.iface 94 v) 79 88 true).run Tryz.prog w = .ok (.tuple #[.agg #[.int .i64 0, .string ⟨#[]⟩, .string ⟨#[]⟩, .slice none 0 0], .bool false]) w := by kernel_rfl
theorem ta_end_hap (v : Value) (w : World) : (Instr.typeAssert (.iface 94 v) 79 91 true).run Tryz.prog w = .ok (.tuple #[.agg #[.int .i64 0, .int .i64 0, .string ⟨#[]⟩, .int .i64 0], .bool false]) w := by kernel_rfl
theorem ta_end_end (v : Value) (w : World) : (Instr.typeAssert (.iface 94 v) 79 94 true).run Tryz.prog w = .ok (.tuple #[v, .bool true]) w := by kernel_rfl
theorem ta_nil_start (w : World) : (Instr.typeAssert .nilIface 79 84 true).run Tryz.prog w = .ok (.tuple #[.slice none 0 0, .bool false]) w := by kernel_rfl
theorem ta_nil_mark (w : World) : (Instr.typeAssert .nilIface 79 86 true).run Tryz.prog w = .ok (.tuple #[.string ⟨#[]⟩, .bool false]) w := by kernel_rfl
theorem ta_nil_ask (w : World) : (Instr.typeAssert .nilIface 79 88 true).run Tryz.prog w = .ok (.tuple #[.agg #[.int .i64 0, .string ⟨#[]⟩, .string ⟨#[]⟩, .slice none 0 0], .bool false]) w := by kernel_rfl
theorem ta_nil_hap (w : World) : (Instr.typeAssert .nilIface 79 91 true).run Tryz.prog w = .ok (.tuple #[.agg #[.int .i64 0, .int .i64 0, .string ⟨#[]⟩, .int .i64 0], .bool false]) w := by kernel_rfl
theorem ta_nil_end (w : World) : (Instr.typeAssert .nilIface 79 94 true).run Tryz.prog w = .ok (.tuple #[.agg #[.int .i64 0, .slice none 0 0], .bool false]) w := by kernel_rfl
theorem me_start (v : Value) (w : World) : (method 268 84 v "loop.example/dunlin/impl.entry").run Tryz.prog w = .ok (137, v) w := by kernel_rfl
theorem me_mark (v : Value) (w : World) : (method 268 86 v "loop.example/dunlin/impl.entry").run Tryz.prog w = .ok (138, v) w := by kernel_rfl
theorem me_ask (v : Value) (w : World) : (method 268 88 v "loop.example/dunlin/impl.entry").run Tryz.prog w = .ok (139, v) w := by kernel_rfl
theorem me_hap (v : Value) (w : World) : (method 268 91 v "loop.example/dunlin/impl.entry").run Tryz.prog w = .ok (140, v) w := by kernel_rfl
theorem me_end (v : Value) (w : World) : (method 268 94 v "loop.example/dunlin/impl.entry").run Tryz.prog w = .ok (141, v) w := by kernel_rfl
end Go.Proofs.YtbngjpnbjknliaaGreatDoor

namespace Go.Proofs.YtbngjpnbjknliaaGreatDoor
set_option linter.unusedVariables false
set_option linter.unusedSimpArgs false
open Go.RowKit Go

def hapOk (kind id num : Int) (name : ByteArray) : Bool :=
  if kind = 1 ∨ kind = 2 then between 1 9999 id && numIn num else if kind = 3 then between 1 9999 id else if kind = 4 then nameOk name.data.toList && numIn num else decide (kind = 5)

set_option maxRecDepth 100000 in
set_option maxHeartbeats 1000000 in
theorem happeningOk (kind id num : Int) (name : ByteArray) (hk : 1 ≤ kind ∧ kind ≤ 5) (hn : name.size ≤ maxLen) (w : World) :
    Calls Tryz.prog 72 #[.agg #[.int .i64 kind, .int .i64 id, .string name, .int .i64 num]] w fun e w' => e = .returned (.bool (hapOk kind id num name)) ∧ Below w.heap.size w w' := by
  have HI : Hid (∀ w, Calls Tryz.prog 71 #[.int .i64 id] w fun e w' => e = .returned (.bool (between 1 9999 id)) ∧ w' = w) := fun w => isId id w
  have HN : Hid (∀ w, Calls Tryz.prog 86 #[.int .i64 num] w fun e w' => e = .returned (.bool (numIn num)) ∧ w' = w) := fun w => isNum num w
  have HM : Hid (∀ w, Calls Tryz.prog 69 #[.string name] w fun e w' => e = .returned (.bool (nameOk name.data.toList)) ∧ Below w.heap.size w w') := fun w => isName name w hn
  rcases (by omega : kind = 1 ∨ kind = 2 ∨ kind = 3 ∨ kind = 4 ∨ kind = 5) with rfl | rfl | rfl | rfl | rfl
  · have HF : Hid (hapOk 1 id num name = (between 1 9999 id && numIn num)) := if_pos (.inl rfl)
    cases hb : between 1 9999 id
    · rw [hb] at HI HF
      go_enter Tryz.func72, Tryz.ntmps72
      go_wp2_with first
        | (go_at_call 71; refine (HI.out _).mono ?_; rintro e w1 ⟨rfl, rfl⟩)
        | (go_at_call 86; refine (HN.out _).mono ?_; rintro e w1 ⟨rfl, rfl⟩)
      go_ret
      exact ⟨ret_bool (by rw [HF.out]; rfl), (Below.refl _ _).alloc (Nat.le_refl _) _⟩
    · rw [hb] at HI HF
      go_enter Tryz.func72, Tryz.ntmps72
      go_wp2_with first
        | (go_at_call 71; refine (HI.out _).mono ?_; rintro e w1 ⟨rfl, rfl⟩)
        | (go_at_call 86; refine (HN.out _).mono ?_; rintro e w1 ⟨rfl, rfl⟩)
      go_ret
      exact ⟨ret_bool (by rw [HF.out]; rfl), (Below.refl _ _).alloc (Nat.le_refl _) _⟩
  · have HF : Hid (hapOk 2 id num name = (between 1 9999 id && numIn num)) := if_pos (.inr rfl)
    cases hb : between 1 9999 id
    · rw [hb] at HI HF
      go_enter Tryz.func72, Tryz.ntmps72
      go_wp2_with first
        | (go_at_call 71; refine (HI.out _).mono ?_; rintro e w1 ⟨rfl, rfl⟩)
        | (go_at_call 86; refine (HN.out _).mono ?_; rintro e w1 ⟨rfl, rfl⟩)
      go_ret
      exact ⟨ret_bool (by rw [HF.out]; rfl), (Below.refl _ _).alloc (Nat.le_refl _) _⟩
    · rw [hb] at HI HF
      go_enter Tryz.func72, Tryz.ntmps72
      go_wp2_with first
        | (go_at_call 71; refine (HI.out _).mono ?_; rintro e w1 ⟨rfl, rfl⟩)
        | (go_at_call 86; refine (HN.out _).mono ?_; rintro e w1 ⟨rfl, rfl⟩)
      go_ret
      exact ⟨ret_bool (by rw [HF.out]; rfl), (Below.refl _ _).alloc (Nat.le_refl _) _⟩
  · have HF : Hid (hapOk 3 id num name = between 1 9999 id) := rfl
    go_enter Tryz.func72, Tryz.ntmps72
    go_wp2_with first
      | (go_at_call 71; refine (HI.out _).mono ?_; rintro e w1 ⟨rfl, rfl⟩)
    go_ret
    exact ⟨ret_bool (by rw [HF.out]), (Below.refl _ _).alloc (Nat.le_refl _) _⟩
  · have HF : Hid (hapOk 4 id num name = (nameOk name.data.toList && numIn num)) := rfl
    cases hb : nameOk name.data.toList
    · rw [hb] at HM HF
      go_enter Tryz.func72, Tryz.ntmps72
      go_wp2_with first
        | (go_at_call 69; refine (HM.out _).mono ?_; rintro e w1 ⟨rfl, hw1⟩)
        | (go_at_call 86; refine (HN.out _).mono ?_; rintro e w1 ⟨rfl, rfl⟩)
      go_ret
      exact ⟨ret_bool (by rw [HF.out]; rfl), bcall ((Below.refl _ _).alloc (Nat.le_refl _) _) (by simp) hw1⟩
    · rw [hb] at HM HF
      go_enter Tryz.func72, Tryz.ntmps72
      go_wp2_with first
        | (go_at_call 69; refine (HM.out _).mono ?_; rintro e w1 ⟨rfl, hw1⟩; obtain ⟨hc1, hf1⟩ := bcell hw1)
        | (go_at_call 86; refine (HN.out _).mono ?_; rintro e w1 ⟨rfl, rfl⟩)
      go_ret
      exact ⟨ret_bool (by rw [HF.out]; rfl), bcall ((Below.refl _ _).alloc (Nat.le_refl _) _) (by simp) hw1⟩
  · have HF : Hid (hapOk 5 id num name = true) := rfl
    go_enter Tryz.func72, Tryz.ntmps72
    go_wp2
    go_ret
    exact ⟨ret_bool (by rw [HF.out]), (Below.refl _ _).alloc (Nat.le_refl _) _⟩

set_option maxRecDepth 100000 in
set_option maxHeartbeats 1000000 in
theorem noteOk_start (a : Option Addr) (len cap : Nat) (zs : List Int) (w : World) (hr : IsRow .i64 w a len cap zs) :
    Calls Tryz.prog 51 #[.iface 84 (.slice a len cap)] w fun e w' => e = .returned (.bool (decide (zs.length ≤ 3) && numsIn zs)) ∧ Below w.heap.size w w' := by
  have t0 := ta_start_start
  have t1 := ta_start_mark
  have t2 := ta_start_ask
  have t3 := ta_start_hap
  have t4 := ta_start_end
  obtain ⟨hz, hm⟩ := hr.len
  unfold maxLen at hm
  have HN : Hid (Calls Tryz.prog 68 #[.slice a len cap] w fun e w' => e = .returned (.bool (numsIn zs)) ∧ w' = w) := allNums a len cap zs w hr
  clear hr
  rw [hz]
  by_cases h3 : len ≤ 3
  · have d : decide ((len : Int) ≤ 3) = true := decide_eq_true (by omega)
    have HF : Hid (decide (len ≤ 3) = true) := decide_eq_true h3
    go_enter Tryz.func51, Tryz.ntmps51
    go_wp2_with (go_at_call 68; refine HN.out.mono ?_; rintro e w1 ⟨rfl, rfl⟩)
    go_ret
    exact ⟨ret_bool (by rw [HF.out]; rfl), Below.refl _ _⟩
  · have d : decide ((len : Int) ≤ 3) = false := decide_eq_false (by omega)
    have HF : Hid (decide (len ≤ 3) = false) := decide_eq_false h3
    go_enter Tryz.func51, Tryz.ntmps51
    go_wp2_with (go_at_call 68; refine HN.out.mono ?_; rintro e w1 ⟨rfl, rfl⟩)
    go_ret
    exact ⟨ret_bool (by rw [HF.out]; rfl), Below.refl _ _⟩
set_option maxRecDepth 100000 in
set_option maxHeartbeats 1000000 in
theorem noteOk_mark (name : ByteArray) (w : World) (hn : name.size ≤ maxLen) :
    Calls Tryz.prog 51 #[.iface 86 (.string name)] w fun e w' => e = .returned (.bool (nameOk name.data.toList)) ∧ Below w.heap.size w w' := by
  have t0 := ta_mark_start
  have t1 := ta_mark_mark
  have t2 := ta_mark_ask
  have t3 := ta_mark_hap
  have t4 := ta_mark_end
  have HM : Hid (∀ w, Calls Tryz.prog 69 #[.string name] w fun e w' => e = .returned (.bool (nameOk name.data.toList)) ∧ Below w.heap.size w w') := fun w => isName name w hn
  go_enter Tryz.func51, Tryz.ntmps51
  go_wp2_with (go_at_call 69; refine (HM.out _).mono ?_; rintro e w1 ⟨rfl, hw1⟩)
  go_ret
  exact ⟨rfl, hw1⟩
set_option maxRecDepth 100000 in
set_option maxHeartbeats 1000000 in
theorem noteOk_hap (kind id num : Int) (name : ByteArray) (hk : 1 ≤ kind ∧ kind ≤ 5) (hn : name.size ≤ maxLen) (w : World) :
    Calls Tryz.prog 51 #[.iface 91 (.agg #[.int .i64 kind, .int .i64 id, .string name, .int .i64 num])] w fun e w' => e = .returned (.bool (hapOk kind id num name)) ∧ Below w.heap.size w w' := by
  have t0 := ta_hap_start
  have t1 := ta_hap_mark
  have t2 := ta_hap_ask
  have t3 := ta_hap_hap
  have t4 := ta_hap_end
  have HM : Hid (∀ w, Calls Tryz.prog 72 #[.agg #[.int .i64 kind, .int .i64 id, .string name, .int .i64 num]] w fun e w' => e = .returned (.bool (hapOk kind id num name)) ∧ Below w.heap.size w w') := fun w => happeningOk kind id num name hk hn w
  go_enter Tryz.func51, Tryz.ntmps51
  go_wp2_with (go_at_call 72; refine (HM.out _).mono ?_; rintro e w1 ⟨rfl, hw1⟩)
  go_ret
  exact ⟨rfl, bcall ((Below.refl _ _).alloc (Nat.le_refl _) _) (by simp) hw1⟩
set_option maxRecDepth 100000 in
set_option maxHeartbeats 1000000 in
theorem noteOk_nil (w : World) :
    Calls Tryz.prog 51 #[.nilIface] w fun e w' => e = .returned (.bool false) ∧ Below w.heap.size w w' := by
  have t0 := ta_nil_start
  have t1 := ta_nil_mark
  have t2 := ta_nil_ask
  have t3 := ta_nil_hap
  have t4 := ta_nil_end
  go_enter Tryz.func51, Tryz.ntmps51
  go_wp2
  go_ret
  exact ⟨rfl, Below.refl _ _⟩

/-- A record of four that was laid in a block of its own: it is there later, too. -/
theorem box4 {w V : World} {v0 v1 v2 v3 : Value} {t : TypeId} (h : Below (w.heap.size + 1) (w.alloc (.cells #[v0, v1, v2, v3] t)) V) :
    V.cell? ⟨w.heap.size, 0, none⟩ = some v0 ∧ V.cell? ⟨w.heap.size, 1, none⟩ = some v1 ∧ V.cell? ⟨w.heap.size, 2, none⟩ = some v2 ∧ V.cell? ⟨w.heap.size, 3, none⟩ = some v3 :=
  ⟨(h.cell (p := ⟨w.heap.size, 0, none⟩) (Nat.lt_succ_self _)).trans (by rw [World.cell?_alloc_new]; rfl), (h.cell (p := ⟨w.heap.size, 1, none⟩) (Nat.lt_succ_self _)).trans (by rw [World.cell?_alloc_new]; rfl),
   (h.cell (p := ⟨w.heap.size, 2, none⟩) (Nat.lt_succ_self _)).trans (by rw [World.cell?_alloc_new]; rfl), (h.cell (p := ⟨w.heap.size, 3, none⟩) (Nat.lt_succ_self _)).trans (by rw [World.cell?_alloc_new]; rfl)⟩
theorem box2 {w V : World} {v0 v1 : Value} {t : TypeId} (h : Below (w.heap.size + 1) (w.alloc (.cells #[v0, v1] t)) V) :
    V.cell? ⟨w.heap.size, 0, none⟩ = some v0 ∧ V.cell? ⟨w.heap.size, 1, none⟩ = some v1 :=
  ⟨(h.cell (p := ⟨w.heap.size, 0, none⟩) (Nat.lt_succ_self _)).trans (by rw [World.cell?_alloc_new]; rfl), (h.cell (p := ⟨w.heap.size, 1, none⟩) (Nat.lt_succ_self _)).trans (by rw [World.cell?_alloc_new]; rfl)⟩
/-- A call behind a box: what it leaves lies behind the box, too. -/
theorem boxed {P : Program} {f : FuncId} {args : Array Value} {w V : World} {o : Obj} {v : Value} (h : Below (w.heap.size + 1) (w.alloc o) V) (k : Calls P f args V fun e w' => e = .returned v ∧ Below V.heap.size V w') :
    Calls P f args V fun e w' => e = .returned v ∧ Below (w.heap.size + 1) (w.alloc o) w' :=
  k.mono fun _ _ ⟨he, hb⟩ => ⟨he, bcall h (by have := h.size; simpa using this) hb⟩
theorem same_below {P : Program} {f : FuncId} {args : Array Value} {V : World} {v : Value} (k : Calls P f args V fun e w' => e = .returned v ∧ w' = V) : Calls P f args V fun e w' => e = .returned v ∧ Below V.heap.size V w' :=
  k.mono fun _ _ ⟨he, hb⟩ => ⟨he, by subst hb; exact Below.refl _ _⟩

def askOk (id : Int) (key name : ByteArray) (zs : List Int) : Bool := between 1 9999 id && (decide (1 ≤ key.size) && decide (key.size ≤ 24) && key.data.toList.all keyc) && (emp name || nameOk name.data.toList) && decide (zs.length ≤ 3) && numsIn zs
set_option maxRecDepth 100000 in
set_option maxHeartbeats 4000000 in
theorem noteOk_ask (id : Int) (key name : ByteArray) (a : Option Addr) (len cap : Nat) (zs : List Int) (w : World) (hr : IsRow .i64 w a len cap zs) (hk : key.size ≤ maxLen) (hn : name.size ≤ maxLen) :
    Calls Tryz.prog 51 #[.iface 88 (.agg #[.int .i64 id, .string key, .string name, .slice a len cap])] w fun e w' => e = .returned (.bool (askOk id key name zs)) ∧ Below w.heap.size w w' := by
  have t0 := ta_ask_start
  have t1 := ta_ask_mark
  have t2 := ta_ask_ask
  obtain ⟨hz, hm⟩ := hr.len
  have HN : Hid (∀ w', Below (w.heap.size + 1) (w.alloc (.cells #[.int .i64 id, .string key, .string name, .slice a len cap] 88)) w' → Calls Tryz.prog 68 #[.slice a len cap] w' fun e w'' => e = .returned (.bool (numsIn zs)) ∧ Below (w.heap.size + 1) (w.alloc (.cells #[.int .i64 id, .string key, .string name, .slice a len cap] 88)) w'') := fun w' hb => boxed hb (same_below (allNums a len cap zs w' (hr.below (unbox hb))))
  have HI : Hid (∀ w, Calls Tryz.prog 71 #[.int .i64 id] w fun e w' => e = .returned (.bool (between 1 9999 id)) ∧ w' = w) := fun w => isId id w
  have HK : Hid (∀ w', Below (w.heap.size + 1) (w.alloc (.cells #[.int .i64 id, .string key, .string name, .slice a len cap] 88)) w' → Calls Tryz.prog 70 #[.string key] w' fun e w'' => e = .returned (.bool (key.data.toList.all keyc)) ∧ Below (w.heap.size + 1) (w.alloc (.cells #[.int .i64 id, .string key, .string name, .slice a len cap] 88)) w'') := fun w' hb => boxed hb (isKey key w' hk)
  have HM : Hid (∀ w', Below (w.heap.size + 1) (w.alloc (.cells #[.int .i64 id, .string key, .string name, .slice a len cap] 88)) w' → Calls Tryz.prog 69 #[.string name] w' fun e w'' => e = .returned (.bool (nameOk name.data.toList)) ∧ Below (w.heap.size + 1) (w.alloc (.cells #[.int .i64 id, .string key, .string name, .slice a len cap] 88)) w'') := fun w' hb => boxed hb (isName name w' hn)
  unfold maxLen at hm hk hn
  clear hr
  have HF : Hid (askOk id key name zs = (between 1 9999 id && (decide (1 ≤ key.size) && decide (key.size ≤ 24) && key.data.toList.all keyc) && (name.toList.isEmpty || nameOk name.data.toList) && decide (len ≤ 3) && numsIn zs)) := by
    rw [← hz]; unfold askOk emp; cases h : name.toList <;> rfl
  generalize key.data.toList.all keyc = kb at HK HF
  generalize nameOk name.data.toList = nb at HM HF
  generalize numsIn zs = zb at HN HF
  generalize between 1 9999 id = ib at HI HF
  clear hz
  go_enter Tryz.func51, Tryz.ntmps51
  go_wp2_with first
    | (go_at_call 70; refine (HK.out _ ?_).mono ?_; (first | exact Below.refl _ _ | assumption); rintro e w1 ⟨rfl, hw1⟩; obtain ⟨c10, c11, c12, c13⟩ := box4 hw1)
    | (go_at_call 71; refine (HI.out _).mono ?_; rintro e w2 ⟨rfl, rfl⟩)
    | (go_at_call 69; refine (HM.out _ ?_).mono ?_; (first | exact Below.refl _ _ | assumption); rintro e w3 ⟨rfl, hw3⟩; obtain ⟨c30, c31, c32, c33⟩ := box4 hw3)
    | (go_at_call 68; refine (HN.out _ ?_).mono ?_; (first | exact Below.refl _ _ | assumption); rintro e w4 ⟨rfl, hw4⟩)
  all_goals
    go_ret
    refine ⟨ret_bool ?_, unbox (by first | exact Below.refl _ _ | assumption)⟩
    rw [HF.out]
    simp_all
    try omega
end Go.Proofs.YtbngjpnbjknliaaGreatDoor

namespace Go.Proofs.YtbngjpnbjknliaaGreatDoor
set_option linter.unusedVariables false
set_option linter.unusedSimpArgs false
open Go.Shelf Go
def lays111_ren : Go.Shelf.Ren := ⟨fun | 111 => 73 | n => n, fun | 28 => 30 | 3 => 3 | 4 => 4 | 0 => 0 | n => n, fun | n => n⟩
theorem lays111 : Go.Proofs.Lays.n111 Tryz.prog lays111_ren := {
  mixed := by kernel_rfl
  f111 := Tryz.func73.trans (congrArg some (by kernel_rfl))
  t0 := Tryz.underlying0
  a0 := Tryz.isAgg0
  z0 := Tryz.sizeOf0
  v0 := Tryz.zeroValue0
  t3 := Tryz.underlying3
  a3 := Tryz.isAgg3
  z3 := Tryz.sizeOf3
  v3 := Tryz.zeroValue3
  t4 := Tryz.underlying4
  a4 := Tryz.isAgg4
  z4 := Tryz.sizeOf4
  v4 := Tryz.zeroValue4
  t28 := Tryz.underlying30
  a28 := Tryz.isAgg30
  z28 := Tryz.sizeOf30
  v28 := Tryz.zeroValue30 }
open Go.RowKit Go.Lib in
theorem slices_Equal_int (b1 o1 n c b2 o2 m d : Nat) (xs ys : List Int) (w : World) (hx : n ≤ xs.length) (hy : m ≤ ys.length) (hbig : n ≤ 9223372036854775807) (hbig2 : m ≤ 9223372036854775807) (hc1 : ∀ j, j < xs.length → w.cell? ⟨b1, o1 + j, none⟩ = some (.int .i64 (xs.getD j 0))) (hc2 : ∀ j, j < ys.length → w.cell? ⟨b2, o2 + j, none⟩ = some (.int .i64 (ys.getD j 0))) :
    Calls Tryz.prog 73 #[.slice (some ⟨b1, o1, none⟩) n c, .slice (some ⟨b2, o2, none⟩) m d] w fun e w' => e = .returned (.bool (xs.take n == ys.take m)) ∧ ∃ q, w' = w.drewN q := Any.slices_Equal_int lays111 b1 o1 n c b2 o2 m d xs ys w hx hy hbig hbig2 hc1 hc2
open Go.RowKit Go.Lib in
theorem slices_Equal_int_empty (a1 a2 : Option Addr) (c m d : Nat) (w : World) (hbig2 : m ≤ 9223372036854775807) :
    Calls Tryz.prog 73 #[.slice a1 0 c, .slice a2 m d] w fun e w' => e = .returned (.bool (decide (m = 0))) ∧ w' = w := Any.slices_Equal_int_empty lays111 a1 a2 c m d w hbig2
open Go.RowKit Go.Lib in
theorem slices_Equal_int_lens (a1 a2 : Option Addr) (n c m d : Nat) (w : World) (hnm : n ≠ m) :
    Calls Tryz.prog 73 #[.slice a1 n c, .slice a2 m d] w fun e w' => e = .returned (.bool false) ∧ w' = w := Any.slices_Equal_int_lens lays111 a1 a2 n c m d w hnm
end Go.Proofs.YtbngjpnbjknliaaGreatDoor

namespace Go.Proofs.YtbngjpnbjknliaaGreatDoor
set_option linter.unusedVariables false
set_option linter.unusedSimpArgs false
open Go.RowKit Go

def endOk (id : Int) (zs : List Int) : Bool := decide (1 ≤ id) && decide (id ≤ 4) && decide (1 ≤ zs.length) && decide (zs.length ≤ 4) && numsIn zs
set_option maxRecDepth 100000 in
set_option maxHeartbeats 4000000 in
theorem noteOk_end (id : Int) (a : Option Addr) (len cap : Nat) (zs : List Int) (w : World) (hr : IsRow .i64 w a len cap zs) :
    Calls Tryz.prog 51 #[.iface 94 (.agg #[.int .i64 id, .slice a len cap])] w fun e w' => e = .returned (.bool (endOk id zs)) ∧ Below w.heap.size w w' := by
  have t0 := ta_end_start
  have t1 := ta_end_mark
  have t2 := ta_end_ask
  have t3 := ta_end_hap
  have t4 := ta_end_end
  obtain ⟨hz, hm⟩ := hr.len
  have HN : Hid (∀ o, Calls Tryz.prog 68 #[.slice a len cap] (w.alloc o) fun e w'' => e = .returned (.bool (numsIn zs)) ∧ w'' = w.alloc o) := fun o => allNums a len cap zs _ (hr.alloc o)
  unfold maxLen at hm
  clear hr
  have HF : Hid (endOk id zs = (decide (1 ≤ id) && decide (id ≤ 4) && decide (1 ≤ len) && decide (len ≤ 4) && numsIn zs)) := by rw [← hz]; rfl
  generalize numsIn zs = zb at HN HF
  clear hz
  go_enter Tryz.func51, Tryz.ntmps51
  go_wp2_with (go_at_call 68; refine (HN.out _).mono ?_; rintro e w4 ⟨rfl, rfl⟩)
  all_goals
    go_ret
    refine ⟨ret_bool ?_, (Below.refl _ _).alloc (Nat.le_refl _) _⟩
    rw [HF.out]
    simp_all
    try omega

theorem slicesEqual (a1 a2 : Option Addr) (l1 c1 l2 c2 : Nat) (xs ys : List Int) (w : World) (h1 : IsRow .i64 w a1 l1 c1 xs) (h2 : IsRow .i64 w a2 l2 c2 ys) :
    Calls Tryz.prog 73 #[.slice a1 l1 c1, .slice a2 l2 c2] w fun e w' => e = .returned (.bool (xs == ys)) ∧ ∃ q, w' = w.drewN q := by
  obtain ⟨e1, m1⟩ := h1.len
  obtain ⟨e2, m2⟩ := h2.len
  unfold maxLen at m1 m2
  by_cases hl : l1 = l2
  · by_cases h0 : l1 = 0
    · subst h0
      have hx : xs = [] := List.length_eq_zero_iff.1 e1
      have hy : ys = [] := List.length_eq_zero_iff.1 (by omega)
      refine (slices_Equal_int_empty a1 a2 c1 l2 c2 w (by omega)).mono ?_
      rintro e w' ⟨rfl, rfl⟩
      exact ⟨ret_bool (by rw [hx, hy, ← hl]; rfl), 0, rfl⟩
    · obtain ⟨b1, o1, rfl, _, _⟩ := h1.2.2.2.1 (by omega)
      obtain ⟨b2, o2, rfl, _, _⟩ := h2.2.2.2.1 (by omega)
      refine (slices_Equal_int b1 o1 l1 c1 b2 o2 l2 c2 xs ys w (by omega) (by omega) m1 m2 ?_ ?_).mono ?_
      · intro j hj; obtain ⟨b, off, e, _, _, hc⟩ := h1.at (i := j) (by omega); cases e; exact hc
      · intro j hj; obtain ⟨b, off, e, _, _, hc⟩ := h2.at (i := j) (by omega); cases e; exact hc
      · rintro e w' ⟨rfl, q, hq⟩
        exact ⟨ret_bool (by rw [List.take_of_length_le (by omega), List.take_of_length_le (by omega)]), q, hq⟩
  · refine (slices_Equal_int_lens a1 a2 l1 c1 l2 c2 w hl).mono ?_
    rintro e w' ⟨rfl, rfl⟩
    refine ⟨ret_bool ?_, 0, rfl⟩
    symm; rw [beq_eq_false_iff_ne]; intro e; rw [e] at e1; omega

/-- Two entries are the same. -/
def sameEnt (x y : Ent) : Bool := x.kind == y.kind && x.id == y.id && x.key.toList == y.key.toList && x.name.toList == y.name.toList && x.nums == y.nums
set_option maxRecDepth 100000 in
set_option maxHeartbeats 4000000 in
theorem sameEntry (x y : Ent) (a1 a2 : Option Addr) (l1 c1 l2 c2 : Nat) (w : World) (h1 : IsRow .i64 w a1 l1 c1 x.nums) (h2 : IsRow .i64 w a2 l2 c2 y.nums) :
    Calls Tryz.prog 52 #[.agg #[.int .i64 x.kind, .int .i64 x.id, .string x.key, .string x.name, .slice a1 l1 c1], .agg #[.int .i64 y.kind, .int .i64 y.id, .string y.key, .string y.name, .slice a2 l2 c2]] w fun e w' => e = .returned (.bool (sameEnt x y)) ∧ Below w.heap.size w w' := by
  have HS : Hid (∀ o o', Calls Tryz.prog 73 #[.slice a1 l1 c1, .slice a2 l2 c2] ((w.alloc o).alloc o') fun e w' => e = .returned (.bool (x.nums == y.nums)) ∧ ∃ q, w' = ((w.alloc o).alloc o').drewN q) := fun o o' => slicesEqual a1 a2 l1 c1 l2 c2 _ _ _ ((h1.alloc o).alloc o') ((h2.alloc o).alloc o')
  clear h1 h2
  have HF : Hid (sameEnt x y = (x.kind == y.kind && x.id == y.id && x.key.toList == y.key.toList && x.name.toList == y.name.toList && x.nums == y.nums)) := rfl
  obtain ⟨xk, xi, xy, xn, xz⟩ := x
  obtain ⟨yk, yi, yy, yn, yz⟩ := y
  simp only at HS HF
  generalize (xz == yz) = zb at HS HF
  simp only
  go_enter Tryz.func52, Tryz.ntmps52
  go_wp2_with (go_at_call 73; refine (HS.out _ _).mono ?_; rintro e w4 ⟨rfl, q, rfl⟩)
  all_goals
    go_ret
    refine ⟨ret_bool ?_, by first | exact ((Below.refl _ _).alloc (Nat.le_refl _) _).alloc (by simp) _ | exact below_drewN (((Below.refl _ _).alloc (Nat.le_refl _) _).alloc (by simp) _) _⟩
    rw [HF.out]
    simp_all
end Go.Proofs.YtbngjpnbjknliaaGreatDoor
