/- The program's check of notes. -/
import Derived.Test.YtmfibpfnbhhoaaaDoorIA2
import Derived.Test.YtmfibpfnbhhoaaaDoorI1
import Derived.Test.YtmfibpfnbhhoaaaDoorIAT
namespace Go.Proofs.YtmfibpfnbhhoaaaDoor
set_option linter.unusedVariables false
set_option linter.unusedSimpArgs false
open Go.RowKit Go

def hapOk (kind id num : Int) (name : ByteArray) : Bool :=
  if kind = 1 ∨ kind = 2 then between 1 9999 id && numIn num else if kind = 3 then between 1 9999 id else if kind = 4 then nameOk name.data.toList && numIn num else decide (kind = 5)

set_option maxRecDepth 100000 in
set_option maxHeartbeats 1000000 in
theorem happeningOk (kind id num : Int) (name : ByteArray) (hk : 1 ≤ kind ∧ kind ≤ 5) (hn : name.size ≤ maxLen) (w : World) :
    Calls Tryd.prog 46 #[.agg #[.int .i64 kind, .int .i64 id, .string name, .int .i64 num]] w fun e w' => e = .returned (.bool (hapOk kind id num name)) ∧ Below w.heap.size w w' := by
  have HI : Hid (∀ w, Calls Tryd.prog 45 #[.int .i64 id] w fun e w' => e = .returned (.bool (between 1 9999 id)) ∧ w' = w) := fun w => isId id w
  have HN : Hid (∀ w, Calls Tryd.prog 52 #[.int .i64 num] w fun e w' => e = .returned (.bool (numIn num)) ∧ w' = w) := fun w => isNum num w
  have HM : Hid (∀ w, Calls Tryd.prog 43 #[.string name] w fun e w' => e = .returned (.bool (nameOk name.data.toList)) ∧ Below w.heap.size w w') := fun w => isName name w hn
  rcases (by omega : kind = 1 ∨ kind = 2 ∨ kind = 3 ∨ kind = 4 ∨ kind = 5) with rfl | rfl | rfl | rfl | rfl
  · have HF : Hid (hapOk 1 id num name = (between 1 9999 id && numIn num)) := if_pos (.inl rfl)
    cases hb : between 1 9999 id
    · rw [hb] at HI HF
      go_enter Tryd.func46, Tryd.ntmps46
      go_wp2_with first
        | (go_at_call 45; refine (HI.out _).mono ?_; rintro e w1 ⟨rfl, rfl⟩)
        | (go_at_call 52; refine (HN.out _).mono ?_; rintro e w1 ⟨rfl, rfl⟩)
      go_ret
      exact ⟨ret_bool (by rw [HF.out]; rfl), (Below.refl _ _).alloc (Nat.le_refl _) _⟩
    · rw [hb] at HI HF
      go_enter Tryd.func46, Tryd.ntmps46
      go_wp2_with first
        | (go_at_call 45; refine (HI.out _).mono ?_; rintro e w1 ⟨rfl, rfl⟩)
        | (go_at_call 52; refine (HN.out _).mono ?_; rintro e w1 ⟨rfl, rfl⟩)
      go_ret
      exact ⟨ret_bool (by rw [HF.out]; rfl), (Below.refl _ _).alloc (Nat.le_refl _) _⟩
  · have HF : Hid (hapOk 2 id num name = (between 1 9999 id && numIn num)) := if_pos (.inr rfl)
    cases hb : between 1 9999 id
    · rw [hb] at HI HF
      go_enter Tryd.func46, Tryd.ntmps46
      go_wp2_with first
        | (go_at_call 45; refine (HI.out _).mono ?_; rintro e w1 ⟨rfl, rfl⟩)
        | (go_at_call 52; refine (HN.out _).mono ?_; rintro e w1 ⟨rfl, rfl⟩)
      go_ret
      exact ⟨ret_bool (by rw [HF.out]; rfl), (Below.refl _ _).alloc (Nat.le_refl _) _⟩
    · rw [hb] at HI HF
      go_enter Tryd.func46, Tryd.ntmps46
      go_wp2_with first
        | (go_at_call 45; refine (HI.out _).mono ?_; rintro e w1 ⟨rfl, rfl⟩)
        | (go_at_call 52; refine (HN.out _).mono ?_; rintro e w1 ⟨rfl, rfl⟩)
      go_ret
      exact ⟨ret_bool (by rw [HF.out]; rfl), (Below.refl _ _).alloc (Nat.le_refl _) _⟩
  · have HF : Hid (hapOk 3 id num name = between 1 9999 id) := rfl
    go_enter Tryd.func46, Tryd.ntmps46
    go_wp2_with first
      | (go_at_call 45; refine (HI.out _).mono ?_; rintro e w1 ⟨rfl, rfl⟩)
    go_ret
    exact ⟨ret_bool (by rw [HF.out]), (Below.refl _ _).alloc (Nat.le_refl _) _⟩
  · have HF : Hid (hapOk 4 id num name = (nameOk name.data.toList && numIn num)) := rfl
    cases hb : nameOk name.data.toList
    · rw [hb] at HM HF
      go_enter Tryd.func46, Tryd.ntmps46
      go_wp2_with first
        | (go_at_call 43; refine (HM.out _).mono ?_; rintro e w1 ⟨rfl, hw1⟩)
        | (go_at_call 52; refine (HN.out _).mono ?_; rintro e w1 ⟨rfl, rfl⟩)
      go_ret
      exact ⟨ret_bool (by rw [HF.out]; rfl), bcall ((Below.refl _ _).alloc (Nat.le_refl _) _) (by simp) hw1⟩
    · rw [hb] at HM HF
      go_enter Tryd.func46, Tryd.ntmps46
      go_wp2_with first
        | (go_at_call 43; refine (HM.out _).mono ?_; rintro e w1 ⟨rfl, hw1⟩; obtain ⟨hc1, hf1⟩ := bcell hw1)
        | (go_at_call 52; refine (HN.out _).mono ?_; rintro e w1 ⟨rfl, rfl⟩)
      go_ret
      exact ⟨ret_bool (by rw [HF.out]; rfl), bcall ((Below.refl _ _).alloc (Nat.le_refl _) _) (by simp) hw1⟩
  · have HF : Hid (hapOk 5 id num name = true) := rfl
    go_enter Tryd.func46, Tryd.ntmps46
    go_wp2
    go_ret
    exact ⟨ret_bool (by rw [HF.out]), (Below.refl _ _).alloc (Nat.le_refl _) _⟩

set_option maxRecDepth 100000 in
set_option maxHeartbeats 1000000 in
theorem noteOk_start (a : Option Addr) (len cap : Nat) (zs : List Int) (w : World) (hr : IsRow .i64 w a len cap zs) :
    Calls Tryd.prog 27 #[.iface 65 (.slice a len cap)] w fun e w' => e = .returned (.bool (decide (zs.length ≤ 3) && numsIn zs)) ∧ Below w.heap.size w w' := by
  have t0 := ta_start_start
  have t1 := ta_start_mark
  have t2 := ta_start_ask
  have t3 := ta_start_hap
  have t4 := ta_start_end
  obtain ⟨hz, hm⟩ := hr.len
  unfold maxLen at hm
  have HN : Hid (Calls Tryd.prog 42 #[.slice a len cap] w fun e w' => e = .returned (.bool (numsIn zs)) ∧ w' = w) := allNums a len cap zs w hr
  clear hr
  rw [hz]
  by_cases h3 : len ≤ 3
  · have d : decide ((len : Int) ≤ 3) = true := decide_eq_true (by omega)
    have HF : Hid (decide (len ≤ 3) = true) := decide_eq_true h3
    go_enter Tryd.func27, Tryd.ntmps27
    go_wp2_with (go_at_call 42; refine HN.out.mono ?_; rintro e w1 ⟨rfl, rfl⟩)
    go_ret
    exact ⟨ret_bool (by rw [HF.out]; rfl), Below.refl _ _⟩
  · have d : decide ((len : Int) ≤ 3) = false := decide_eq_false (by omega)
    have HF : Hid (decide (len ≤ 3) = false) := decide_eq_false h3
    go_enter Tryd.func27, Tryd.ntmps27
    go_wp2_with (go_at_call 42; refine HN.out.mono ?_; rintro e w1 ⟨rfl, rfl⟩)
    go_ret
    exact ⟨ret_bool (by rw [HF.out]; rfl), Below.refl _ _⟩
set_option maxRecDepth 100000 in
set_option maxHeartbeats 1000000 in
theorem noteOk_mark (name : ByteArray) (w : World) (hn : name.size ≤ maxLen) :
    Calls Tryd.prog 27 #[.iface 67 (.string name)] w fun e w' => e = .returned (.bool (nameOk name.data.toList)) ∧ Below w.heap.size w w' := by
  have t0 := ta_mark_start
  have t1 := ta_mark_mark
  have t2 := ta_mark_ask
  have t3 := ta_mark_hap
  have t4 := ta_mark_end
  have HM : Hid (∀ w, Calls Tryd.prog 43 #[.string name] w fun e w' => e = .returned (.bool (nameOk name.data.toList)) ∧ Below w.heap.size w w') := fun w => isName name w hn
  go_enter Tryd.func27, Tryd.ntmps27
  go_wp2_with (go_at_call 43; refine (HM.out _).mono ?_; rintro e w1 ⟨rfl, hw1⟩)
  go_ret
  exact ⟨rfl, hw1⟩
set_option maxRecDepth 100000 in
set_option maxHeartbeats 1000000 in
theorem noteOk_hap (kind id num : Int) (name : ByteArray) (hk : 1 ≤ kind ∧ kind ≤ 5) (hn : name.size ≤ maxLen) (w : World) :
    Calls Tryd.prog 27 #[.iface 72 (.agg #[.int .i64 kind, .int .i64 id, .string name, .int .i64 num])] w fun e w' => e = .returned (.bool (hapOk kind id num name)) ∧ Below w.heap.size w w' := by
  have t0 := ta_hap_start
  have t1 := ta_hap_mark
  have t2 := ta_hap_ask
  have t3 := ta_hap_hap
  have t4 := ta_hap_end
  have HM : Hid (∀ w, Calls Tryd.prog 46 #[.agg #[.int .i64 kind, .int .i64 id, .string name, .int .i64 num]] w fun e w' => e = .returned (.bool (hapOk kind id num name)) ∧ Below w.heap.size w w') := fun w => happeningOk kind id num name hk hn w
  go_enter Tryd.func27, Tryd.ntmps27
  go_wp2_with (go_at_call 46; refine (HM.out _).mono ?_; rintro e w1 ⟨rfl, hw1⟩)
  go_ret
  exact ⟨rfl, bcall ((Below.refl _ _).alloc (Nat.le_refl _) _) (by simp) hw1⟩
set_option maxRecDepth 100000 in
set_option maxHeartbeats 1000000 in
theorem noteOk_nil (w : World) :
    Calls Tryd.prog 27 #[.nilIface] w fun e w' => e = .returned (.bool false) ∧ Below w.heap.size w w' := by
  have t0 := ta_nil_start
  have t1 := ta_nil_mark
  have t2 := ta_nil_ask
  have t3 := ta_nil_hap
  have t4 := ta_nil_end
  go_enter Tryd.func27, Tryd.ntmps27
  go_wp2
  go_ret
  exact ⟨rfl, Below.refl _ _⟩

/-- A record of four that was laid in a block of its own: it is there later, too. -/
theorem box4 {w V : World} {v0 v1 v2 v3 : Value} {t : TypeId} (h : Below (w.heap.size + 1) (w.alloc (.cells #[v0, v1, v2, v3] t)) V) :
    V.cell? ⟨w.heap.size, 0, none⟩ = some v0 ∧ V.cell? ⟨w.heap.size, 1, none⟩ = some v1 ∧ V.cell? ⟨w.heap.size, 2, none⟩ = some v2 ∧ V.cell? ⟨w.heap.size, 3, none⟩ = some v3 :=
  ⟨(h.cell (p := ⟨w.heap.size, 0, none⟩) (Nat.lt_succ_self _)).trans (by rw [World.cell?_alloc_new]; rfl), (h.cell (p := ⟨w.heap.size, 1, none⟩) (Nat.lt_succ_self _)).trans (by rw [World.cell?_alloc_new]; rfl),
   (h.cell (p := ⟨w.heap.size, 2, none⟩) (Nat.lt_succ_self _)).trans (by rw [World.cell?_alloc_new]; rfl), (h.cell (p := ⟨w.heap.size, 3, none⟩) (Nat.lt_succ_self _)).trans (by rw [World.cell?_alloc_new]; rfl)⟩
theorem box2 {w V : World} {v0 v1 : Value} {t : TypeId} (h : Below (w.heap.size + 1) (w.alloc (.cells #[v0, v1] t)) V) :
    V.cell? ⟨w.heap.size, 0, none⟩ = some v0 ∧ V.cell? ⟨w.heap.size, 1, none⟩ = some v1 :=
  ⟨(h.cell (p := ⟨w.heap.size, 0, none⟩) (Nat.lt_succ_self _)).trans (by rw [World.cell?_alloc_new]; rfl), (h.cell (p := ⟨w.heap.size, 1, none⟩) (Nat.lt_succ_self _)).trans (by rw [World.cell?_alloc_new]; rfl)⟩
/-- A call behind a box: what it leaves lies behind the box, too. -/
theorem boxed {P : Program} {f : FuncId} {args : Array Value} {w V : World} {o : Obj} {v : Value} (h : Below (w.heap.size + 1) (w.alloc o) V) (k : Calls P f args V fun e w' => e = .returned v ∧ Below V.heap.size V w') :
    Calls P f args V fun e w' => e = .returned v ∧ Below (w.heap.size + 1) (w.alloc o) w' :=
  k.mono fun _ _ ⟨he, hb⟩ => ⟨he, bcall h (by have := h.size; simpa using this) hb⟩
theorem same_below {P : Program} {f : FuncId} {args : Array Value} {V : World} {v : Value} (k : Calls P f args V fun e w' => e = .returned v ∧ w' = V) : Calls P f args V fun e w' => e = .returned v ∧ Below V.heap.size V w' :=
  k.mono fun _ _ ⟨he, hb⟩ => ⟨he, by subst hb; exact Below.refl _ _⟩

def askOk (id : Int) (key name : ByteArray) (zs : List Int) : Bool := between 1 9999 id && (decide (1 ≤ key.size) && decide (key.size ≤ 24) && key.data.toList.all keyc) && (emp name || nameOk name.data.toList) && decide (zs.length ≤ 3) && numsIn zs
set_option maxRecDepth 100000 in
set_option maxHeartbeats 4000000 in
theorem noteOk_ask (id : Int) (key name : ByteArray) (a : Option Addr) (len cap : Nat) (zs : List Int) (w : World) (hr : IsRow .i64 w a len cap zs) (hk : key.size ≤ maxLen) (hn : name.size ≤ maxLen) :
    Calls Tryd.prog 27 #[.iface 69 (.agg #[.int .i64 id, .string key, .string name, .slice a len cap])] w fun e w' => e = .returned (.bool (askOk id key name zs)) ∧ Below w.heap.size w w' := by
  have t0 := ta_ask_start
  have t1 := ta_ask_mark
  have t2 := ta_ask_ask
  obtain ⟨hz, hm⟩ := hr.len
  have HN : Hid (∀ w', Below (w.heap.size + 1) (w.alloc (.cells #[.int .i64 id, .string key, .string name, .slice a len cap] 69)) w' → Calls Tryd.prog 42 #[.slice a len cap] w' fun e w'' => e = .returned (.bool (numsIn zs)) ∧ Below (w.heap.size + 1) (w.alloc (.cells #[.int .i64 id, .string key, .string name, .slice a len cap] 69)) w'') := fun w' hb => boxed hb (same_below (allNums a len cap zs w' (hr.below (unbox hb))))
  have HI : Hid (∀ w, Calls Tryd.prog 45 #[.int .i64 id] w fun e w' => e = .returned (.bool (between 1 9999 id)) ∧ w' = w) := fun w => isId id w
  have HK : Hid (∀ w', Below (w.heap.size + 1) (w.alloc (.cells #[.int .i64 id, .string key, .string name, .slice a len cap] 69)) w' → Calls Tryd.prog 44 #[.string key] w' fun e w'' => e = .returned (.bool (key.data.toList.all keyc)) ∧ Below (w.heap.size + 1) (w.alloc (.cells #[.int .i64 id, .string key, .string name, .slice a len cap] 69)) w'') := fun w' hb => boxed hb (isKey key w' hk)
  have HM : Hid (∀ w', Below (w.heap.size + 1) (w.alloc (.cells #[.int .i64 id, .string key, .string name, .slice a len cap] 69)) w' → Calls Tryd.prog 43 #[.string name] w' fun e w'' => e = .returned (.bool (nameOk name.data.toList)) ∧ Below (w.heap.size + 1) (w.alloc (.cells #[.int .i64 id, .string key, .string name, .slice a len cap] 69)) w'') := fun w' hb => boxed hb (isName name w' hn)
  unfold maxLen at hm hk hn
  clear hr
  have HF : Hid (askOk id key name zs = (between 1 9999 id && (decide (1 ≤ key.size) && decide (key.size ≤ 24) && key.data.toList.all keyc) && (name.toList.isEmpty || nameOk name.data.toList) && decide (len ≤ 3) && numsIn zs)) := by
    rw [← hz]; unfold askOk emp; cases h : name.toList <;> rfl
  generalize key.data.toList.all keyc = kb at HK HF
  generalize nameOk name.data.toList = nb at HM HF
  generalize numsIn zs = zb at HN HF
  generalize between 1 9999 id = ib at HI HF
  clear hz
  go_enter Tryd.func27, Tryd.ntmps27
  go_wp2_with first
    | (go_at_call 44; refine (HK.out _ ?_).mono ?_; (first | exact Below.refl _ _ | assumption); rintro e w1 ⟨rfl, hw1⟩; obtain ⟨c10, c11, c12, c13⟩ := box4 hw1)
    | (go_at_call 45; refine (HI.out _).mono ?_; rintro e w2 ⟨rfl, rfl⟩)
    | (go_at_call 43; refine (HM.out _ ?_).mono ?_; (first | exact Below.refl _ _ | assumption); rintro e w3 ⟨rfl, hw3⟩; obtain ⟨c30, c31, c32, c33⟩ := box4 hw3)
    | (go_at_call 42; refine (HN.out _ ?_).mono ?_; (first | exact Below.refl _ _ | assumption); rintro e w4 ⟨rfl, hw4⟩)
  all_goals
    go_ret
    refine ⟨ret_bool ?_, unbox (by first | exact Below.refl _ _ | assumption)⟩
    rw [HF.out]
    simp_all
    try omega
end Go.Proofs.YtmfibpfnbhhoaaaDoor
