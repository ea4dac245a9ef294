/- The program's entryOk: what the model's l21EntryOk says. -/
import Derived.Test.YtbngjpnbjknliaaGreatDoorJ11
namespace Go.Proofs.YtbngjpnbjknliaaGreatDoor
set_option linter.unusedVariables false
set_option linter.unusedSimpArgs false
open Go.RowKit Go

set_option maxRecDepth 100000 in
set_option maxHeartbeats 4000000 in
theorem entryOk_no (ek ei : Int) (ey en : ByteArray) (a : Option Addr) (len cap : Nat) (nv : Value) (w : World)
    (hno : ∀ w', Below w.heap.size w w' → Calls Tryz.prog 50 #[.agg #[.int .i64 ek, .int .i64 ei, .string ey, .string en, .slice a len cap]] w' fun x w'' => x = .returned nv ∧ Below w'.heap.size w' w'')
    (hok : ∀ w', Below w.heap.size w w' → Calls Tryz.prog 51 #[nv] w' fun x w'' => x = .returned (.bool false) ∧ Below w'.heap.size w' w'') :
    Calls Tryz.prog 33 #[.agg #[.int .i64 ek, .int .i64 ei, .string ey, .string en, .slice a len cap]] w fun x w' => x = .returned (.bool false) ∧ Below w.heap.size w w' := by
  have HNO : Hid (∀ w', Below (w.heap.size + 1) (w.alloc (.cells #[.int .i64 ek, .int .i64 ei, .string ey, .string en, .slice a len cap] 32)) w' → Calls Tryz.prog 50 #[.agg #[.int .i64 ek, .int .i64 ei, .string ey, .string en, .slice a len cap]] w' fun x w'' => x = .returned nv ∧ Below (w.heap.size + 1) (w.alloc (.cells #[.int .i64 ek, .int .i64 ei, .string ey, .string en, .slice a len cap] 32)) w'') := fun w' hb => boxed hb (hno w' (unbox hb))
  have HOK : Hid (∀ w', Below (w.heap.size + 1) (w.alloc (.cells #[.int .i64 ek, .int .i64 ei, .string ey, .string en, .slice a len cap] 32)) w' → Calls Tryz.prog 51 #[nv] w' fun x w'' => x = .returned (.bool false) ∧ Below (w.heap.size + 1) (w.alloc (.cells #[.int .i64 ek, .int .i64 ei, .string ey, .string en, .slice a len cap] 32)) w'') := fun w' hb => boxed hb (hok w' (unbox hb))
  clear hno hok
  go_enter Tryz.func33, Tryz.ntmps33
  go_wp2_with first
    | (go_at_call 50; refine (HNO.out _ ?_).mono ?_; (first | exact Below.refl _ _ | assumption); rintro x w1 ⟨rfl, hw1⟩; obtain ⟨c10, c11, c12, c13, c14⟩ := box5 hw1)
  first | (go_region_with (first | (go_at_call 51; refine (HOK.out _ ?_).mono ?_; (first | exact Below.refl _ _ | assumption | (refine Below.drew ?_; assumption)); rintro x w2 ⟨rfl, hw2⟩))) | fail
  all_goals
    go_wp2
    go_ret
    exact ⟨rfl, unbox hw2⟩

set_option maxRecDepth 100000 in
set_option maxHeartbeats 4000000 in
theorem entryOk_yes_start (ek ei : Int) (ey en : ByteArray) (a : Option Addr) (len cap : Nat) (nv rv : Value) (sb : Bool) (w : World)
    (hno : ∀ w', Below w.heap.size w w' → Calls Tryz.prog 50 #[.agg #[.int .i64 ek, .int .i64 ei, .string ey, .string en, .slice a len cap]] w' fun x w'' => x = .returned (.iface 84 nv) ∧ Below w'.heap.size w' w'')
    (hok : ∀ w', Below w.heap.size w w' → Calls Tryz.prog 51 #[.iface 84 nv] w' fun x w'' => x = .returned (.bool true) ∧ Below w'.heap.size w' w'')
    (hen : ∀ w', Below w.heap.size w w' → Calls Tryz.prog 137 #[nv] w' fun x w'' => x = .returned rv ∧ Below w'.heap.size w' w'')
    (hsa : ∀ w', Below w.heap.size w w' → Calls Tryz.prog 52 #[rv, .agg #[.int .i64 ek, .int .i64 ei, .string ey, .string en, .slice a len cap]] w' fun x w'' => x = .returned (.bool sb) ∧ Below w'.heap.size w' w'') :
    Calls Tryz.prog 33 #[.agg #[.int .i64 ek, .int .i64 ei, .string ey, .string en, .slice a len cap]] w fun x w' => x = .returned (.bool sb) ∧ Below w.heap.size w w' := by
  have HNO : Hid (∀ w', Below (w.heap.size + 1) (w.alloc (.cells #[.int .i64 ek, .int .i64 ei, .string ey, .string en, .slice a len cap] 32)) w' → Calls Tryz.prog 50 #[.agg #[.int .i64 ek, .int .i64 ei, .string ey, .string en, .slice a len cap]] w' fun x w'' => x = .returned (.iface 84 nv) ∧ Below (w.heap.size + 1) (w.alloc (.cells #[.int .i64 ek, .int .i64 ei, .string ey, .string en, .slice a len cap] 32)) w'') := fun w' hb => boxed hb (hno w' (unbox hb))
  have HOK : Hid (∀ w', Below (w.heap.size + 1) (w.alloc (.cells #[.int .i64 ek, .int .i64 ei, .string ey, .string en, .slice a len cap] 32)) w' → Calls Tryz.prog 51 #[.iface 84 nv] w' fun x w'' => x = .returned (.bool true) ∧ Below (w.heap.size + 1) (w.alloc (.cells #[.int .i64 ek, .int .i64 ei, .string ey, .string en, .slice a len cap] 32)) w'') := fun w' hb => boxed hb (hok w' (unbox hb))
  have HEN : Hid (∀ w', Below (w.heap.size + 1) (w.alloc (.cells #[.int .i64 ek, .int .i64 ei, .string ey, .string en, .slice a len cap] 32)) w' → Calls Tryz.prog 137 #[nv] w' fun x w'' => x = .returned rv ∧ Below (w.heap.size + 1) (w.alloc (.cells #[.int .i64 ek, .int .i64 ei, .string ey, .string en, .slice a len cap] 32)) w'') := fun w' hb => boxed hb (hen w' (unbox hb))
  have HSA : Hid (∀ w', Below (w.heap.size + 1) (w.alloc (.cells #[.int .i64 ek, .int .i64 ei, .string ey, .string en, .slice a len cap] 32)) w' → Calls Tryz.prog 52 #[rv, .agg #[.int .i64 ek, .int .i64 ei, .string ey, .string en, .slice a len cap]] w' fun x w'' => x = .returned (.bool sb) ∧ Below (w.heap.size + 1) (w.alloc (.cells #[.int .i64 ek, .int .i64 ei, .string ey, .string en, .slice a len cap] 32)) w'') := fun w' hb => boxed hb (hsa w' (unbox hb))
  clear hno hok hen hsa
  have hm := me_start
  go_enter Tryz.func33, Tryz.ntmps33
  go_wp2_with first
    | (go_at_call 50; refine (HNO.out _ ?_).mono ?_; (first | exact Below.refl _ _ | assumption); rintro x w1 ⟨rfl, hw1⟩; obtain ⟨c10, c11, c12, c13, c14⟩ := box5 hw1)
  first | (go_region_with (first
    | (go_at_call 51; refine (HOK.out _ ?_).mono ?_; (first | exact Below.refl _ _ | assumption | (refine Below.drew ?_; assumption)); rintro x w2 ⟨rfl, hw2⟩; obtain ⟨c20, c21, c22, c23, c24⟩ := box5 hw2)
    | (go_at_call 137; refine (HEN.out _ ?_).mono ?_; (first | exact Below.refl _ _ | assumption | (refine Below.drew ?_; assumption)); rintro x w3 ⟨rfl, hw3⟩; obtain ⟨c30, c31, c32, c33, c34⟩ := box5 hw3)
    | (go_at_call 52; refine (HSA.out _ ?_).mono ?_; (first | exact Below.refl _ _ | assumption | (refine Below.drew ?_; assumption)); rintro x w4 ⟨rfl, hw4⟩)))
  all_goals
    go_wp2
    go_ret
    exact ⟨rfl, unbox hw4⟩
set_option maxRecDepth 100000 in
set_option maxHeartbeats 4000000 in
theorem entryOk_yes_mark (ek ei : Int) (ey en : ByteArray) (a : Option Addr) (len cap : Nat) (nv rv : Value) (sb : Bool) (w : World)
    (hno : ∀ w', Below w.heap.size w w' → Calls Tryz.prog 50 #[.agg #[.int .i64 ek, .int .i64 ei, .string ey, .string en, .slice a len cap]] w' fun x w'' => x = .returned (.iface 86 nv) ∧ Below w'.heap.size w' w'')
    (hok : ∀ w', Below w.heap.size w w' → Calls Tryz.prog 51 #[.iface 86 nv] w' fun x w'' => x = .returned (.bool true) ∧ Below w'.heap.size w' w'')
    (hen : ∀ w', Below w.heap.size w w' → Calls Tryz.prog 138 #[nv] w' fun x w'' => x = .returned rv ∧ Below w'.heap.size w' w'')
    (hsa : ∀ w', Below w.heap.size w w' → Calls Tryz.prog 52 #[rv, .agg #[.int .i64 ek, .int .i64 ei, .string ey, .string en, .slice a len cap]] w' fun x w'' => x = .returned (.bool sb) ∧ Below w'.heap.size w' w'') :
    Calls Tryz.prog 33 #[.agg #[.int .i64 ek, .int .i64 ei, .string ey, .string en, .slice a len cap]] w fun x w' => x = .returned (.bool sb) ∧ Below w.heap.size w w' := by
  have HNO : Hid (∀ w', Below (w.heap.size + 1) (w.alloc (.cells #[.int .i64 ek, .int .i64 ei, .string ey, .string en, .slice a len cap] 32)) w' → Calls Tryz.prog 50 #[.agg #[.int .i64 ek, .int .i64 ei, .string ey, .string en, .slice a len cap]] w' fun x w'' => x = .returned (.iface 86 nv) ∧ Below (w.heap.size + 1) (w.alloc (.cells #[.int .i64 ek, .int .i64 ei, .string ey, .string en, .slice a len cap] 32)) w'') := fun w' hb => boxed hb (hno w' (unbox hb))
  have HOK : Hid (∀ w', Below (w.heap.size + 1) (w.alloc (.cells #[.int .i64 ek, .int .i64 ei, .string ey, .string en, .slice a len cap] 32)) w' → Calls Tryz.prog 51 #[.iface 86 nv] w' fun x w'' => x = .returned (.bool true) ∧ Below (w.heap.size + 1) (w.alloc (.cells #[.int .i64 ek, .int .i64 ei, .string ey, .string en, .slice a len cap] 32)) w'') := fun w' hb => boxed hb (hok w' (unbox hb))
  have HEN : Hid (∀ w', Below (w.heap.size + 1) (w.alloc (.cells #[.int .i64 ek, .int .i64 ei, .string ey, .string en, .slice a len cap] 32)) w' → Calls Tryz.prog 138 #[nv] w' fun x w'' => x = .returned rv ∧ Below (w.heap.size + 1) (w.alloc (.cells #[.int .i64 ek, .int .i64 ei, .string ey, .string en, .slice a len cap] 32)) w'') := fun w' hb => boxed hb (hen w' (unbox hb))
  have HSA : Hid (∀ w', Below (w.heap.size + 1) (w.alloc (.cells #[.int .i64 ek, .int .i64 ei, .string ey, .string en, .slice a len cap] 32)) w' → Calls Tryz.prog 52 #[rv, .agg #[.int .i64 ek, .int .i64 ei, .string ey, .string en, .slice a len cap]] w' fun x w'' => x = .returned (.bool sb) ∧ Below (w.heap.size + 1) (w.alloc (.cells #[.int .i64 ek, .int .i64 ei, .string ey, .string en, .slice a len cap] 32)) w'') := fun w' hb => boxed hb (hsa w' (unbox hb))
  clear hno hok hen hsa
  have hm := me_mark
  go_enter Tryz.func33, Tryz.ntmps33
  go_wp2_with first
    | (go_at_call 50; refine (HNO.out _ ?_).mono ?_; (first | exact Below.refl _ _ | assumption); rintro x w1 ⟨rfl, hw1⟩; obtain ⟨c10, c11, c12, c13, c14⟩ := box5 hw1)
  first | (go_region_with (first
    | (go_at_call 51; refine (HOK.out _ ?_).mono ?_; (first | exact Below.refl _ _ | assumption | (refine Below.drew ?_; assumption)); rintro x w2 ⟨rfl, hw2⟩; obtain ⟨c20, c21, c22, c23, c24⟩ := box5 hw2)
    | (go_at_call 138; refine (HEN.out _ ?_).mono ?_; (first | exact Below.refl _ _ | assumption | (refine Below.drew ?_; assumption)); rintro x w3 ⟨rfl, hw3⟩; obtain ⟨c30, c31, c32, c33, c34⟩ := box5 hw3)
    | (go_at_call 52; refine (HSA.out _ ?_).mono ?_; (first | exact Below.refl _ _ | assumption | (refine Below.drew ?_; assumption)); rintro x w4 ⟨rfl, hw4⟩)))
  all_goals
    go_wp2
    go_ret
    exact ⟨rfl, unbox hw4⟩
set_option maxRecDepth 100000 in
set_option maxHeartbeats 4000000 in
theorem entryOk_yes_ask (ek ei : Int) (ey en : ByteArray) (a : Option Addr) (len cap : Nat) (nv rv : Value) (sb : Bool) (w : World)
    (hno : ∀ w', Below w.heap.size w w' → Calls Tryz.prog 50 #[.agg #[.int .i64 ek, .int .i64 ei, .string ey, .string en, .slice a len cap]] w' fun x w'' => x = .returned (.iface 88 nv) ∧ Below w'.heap.size w' w'')
    (hok : ∀ w', Below w.heap.size w w' → Calls Tryz.prog 51 #[.iface 88 nv] w' fun x w'' => x = .returned (.bool true) ∧ Below w'.heap.size w' w'')
    (hen : ∀ w', Below w.heap.size w w' → Calls Tryz.prog 139 #[nv] w' fun x w'' => x = .returned rv ∧ Below w'.heap.size w' w'')
    (hsa : ∀ w', Below w.heap.size w w' → Calls Tryz.prog 52 #[rv, .agg #[.int .i64 ek, .int .i64 ei, .string ey, .string en, .slice a len cap]] w' fun x w'' => x = .returned (.bool sb) ∧ Below w'.heap.size w' w'') :
    Calls Tryz.prog 33 #[.agg #[.int .i64 ek, .int .i64 ei, .string ey, .string en, .slice a len cap]] w fun x w' => x = .returned (.bool sb) ∧ Below w.heap.size w w' := by
  have HNO : Hid (∀ w', Below (w.heap.size + 1) (w.alloc (.cells #[.int .i64 ek, .int .i64 ei, .string ey, .string en, .slice a len cap] 32)) w' → Calls Tryz.prog 50 #[.agg #[.int .i64 ek, .int .i64 ei, .string ey, .string en, .slice a len cap]] w' fun x w'' => x = .returned (.iface 88 nv) ∧ Below (w.heap.size + 1) (w.alloc (.cells #[.int .i64 ek, .int .i64 ei, .string ey, .string en, .slice a len cap] 32)) w'') := fun w' hb => boxed hb (hno w' (unbox hb))
  have HOK : Hid (∀ w', Below (w.heap.size + 1) (w.alloc (.cells #[.int .i64 ek, .int .i64 ei, .string ey, .string en, .slice a len cap] 32)) w' → Calls Tryz.prog 51 #[.iface 88 nv] w' fun x w'' => x = .returned (.bool true) ∧ Below (w.heap.size + 1) (w.alloc (.cells #[.int .i64 ek, .int .i64 ei, .string ey, .string en, .slice a len cap] 32)) w'') := fun w' hb => boxed hb (hok w' (unbox hb))
  have HEN : Hid (∀ w', Below (w.heap.size + 1) (w.alloc (.cells #[.int .i64 ek, .int .i64 ei, .string ey, .string en, .slice a len cap] 32)) w' → Calls Tryz.prog 139 #[nv] w' fun x w'' => x = .returned rv ∧ Below (w.heap.size + 1) (w.alloc (.cells #[.int .i64 ek, .int .i64 ei, .string ey, .string en, .slice a len cap] 32)) w'') := fun w' hb => boxed hb (hen w' (unbox hb))
  have HSA : Hid (∀ w', Below (w.heap.size + 1) (w.alloc (.cells #[.int .i64 ek, .int .i64 ei, .string ey, .string en, .slice a len cap] 32)) w' → Calls Tryz.prog 52 #[rv, .agg #[.int .i64 ek, .int .i64 ei, .string ey, .string en, .slice a len cap]] w' fun x w'' => x = .returned (.bool sb) ∧ Below (w.heap.size + 1) (w.alloc (.cells #[.int .i64 ek, .int .i64 ei, .string ey, .string en, .slice a len cap] 32)) w'') := fun w' hb => boxed hb (hsa w' (unbox hb))
  clear hno hok hen hsa
  have hm := me_ask
  go_enter Tryz.func33, Tryz.ntmps33
  go_wp2_with first
    | (go_at_call 50; refine (HNO.out _ ?_).mono ?_; (first | exact Below.refl _ _ | assumption); rintro x w1 ⟨rfl, hw1⟩; obtain ⟨c10, c11, c12, c13, c14⟩ := box5 hw1)
  first | (go_region_with (first
    | (go_at_call 51; refine (HOK.out _ ?_).mono ?_; (first | exact Below.refl _ _ | assumption | (refine Below.drew ?_; assumption)); rintro x w2 ⟨rfl, hw2⟩; obtain ⟨c20, c21, c22, c23, c24⟩ := box5 hw2)
    | (go_at_call 139; refine (HEN.out _ ?_).mono ?_; (first | exact Below.refl _ _ | assumption | (refine Below.drew ?_; assumption)); rintro x w3 ⟨rfl, hw3⟩; obtain ⟨c30, c31, c32, c33, c34⟩ := box5 hw3)
    | (go_at_call 52; refine (HSA.out _ ?_).mono ?_; (first | exact Below.refl _ _ | assumption | (refine Below.drew ?_; assumption)); rintro x w4 ⟨rfl, hw4⟩)))
  all_goals
    go_wp2
    go_ret
    exact ⟨rfl, unbox hw4⟩
set_option maxRecDepth 100000 in
set_option maxHeartbeats 4000000 in
theorem entryOk_yes_hap (ek ei : Int) (ey en : ByteArray) (a : Option Addr) (len cap : Nat) (nv : Value) (R : Value → World → Prop) (sb : Bool) (w : World)
    (hno : ∀ w', Below w.heap.size w w' → Calls Tryz.prog 50 #[.agg #[.int .i64 ek, .int .i64 ei, .string ey, .string en, .slice a len cap]] w' fun x w'' => x = .returned (.iface 91 nv) ∧ Below w'.heap.size w' w'')
    (hok : ∀ w', Below w.heap.size w w' → Calls Tryz.prog 51 #[.iface 91 nv] w' fun x w'' => x = .returned (.bool true) ∧ Below w'.heap.size w' w'')
    (hen : ∀ w', Below w.heap.size w w' → Calls Tryz.prog 140 #[nv] w' fun x w'' => ∃ rv, x = .returned rv ∧ R rv w'' ∧ Below w'.heap.size w' w'')
    (hsa : ∀ w' rv, Below w.heap.size w w' → R rv w' → Calls Tryz.prog 52 #[rv, .agg #[.int .i64 ek, .int .i64 ei, .string ey, .string en, .slice a len cap]] w' fun x w'' => x = .returned (.bool sb) ∧ Below w'.heap.size w' w'') :
    Calls Tryz.prog 33 #[.agg #[.int .i64 ek, .int .i64 ei, .string ey, .string en, .slice a len cap]] w fun x w' => x = .returned (.bool sb) ∧ Below w.heap.size w w' := by
  have HNO : Hid (∀ w', Below (w.heap.size + 1) (w.alloc (.cells #[.int .i64 ek, .int .i64 ei, .string ey, .string en, .slice a len cap] 32)) w' → Calls Tryz.prog 50 #[.agg #[.int .i64 ek, .int .i64 ei, .string ey, .string en, .slice a len cap]] w' fun x w'' => x = .returned (.iface 91 nv) ∧ Below (w.heap.size + 1) (w.alloc (.cells #[.int .i64 ek, .int .i64 ei, .string ey, .string en, .slice a len cap] 32)) w'') := fun w' hb => boxed hb (hno w' (unbox hb))
  have HOK : Hid (∀ w', Below (w.heap.size + 1) (w.alloc (.cells #[.int .i64 ek, .int .i64 ei, .string ey, .string en, .slice a len cap] 32)) w' → Calls Tryz.prog 51 #[.iface 91 nv] w' fun x w'' => x = .returned (.bool true) ∧ Below (w.heap.size + 1) (w.alloc (.cells #[.int .i64 ek, .int .i64 ei, .string ey, .string en, .slice a len cap] 32)) w'') := fun w' hb => boxed hb (hok w' (unbox hb))
  have HEN : Hid (∀ w', Below (w.heap.size + 1) (w.alloc (.cells #[.int .i64 ek, .int .i64 ei, .string ey, .string en, .slice a len cap] 32)) w' → Calls Tryz.prog 140 #[nv] w' fun x w'' => ∃ rv, x = .returned rv ∧ R rv w'' ∧ Below (w.heap.size + 1) (w.alloc (.cells #[.int .i64 ek, .int .i64 ei, .string ey, .string en, .slice a len cap] 32)) w'') := fun w' hb => (hen w' (unbox hb)).mono fun _ _ ⟨rv, he, hr, hk⟩ => ⟨rv, he, hr, bcall hb (by have := hb.size; simpa using this) hk⟩
  have HSA : Hid (∀ w' rv, Below (w.heap.size + 1) (w.alloc (.cells #[.int .i64 ek, .int .i64 ei, .string ey, .string en, .slice a len cap] 32)) w' → R rv w' → Calls Tryz.prog 52 #[rv, .agg #[.int .i64 ek, .int .i64 ei, .string ey, .string en, .slice a len cap]] w' fun x w'' => x = .returned (.bool sb) ∧ Below (w.heap.size + 1) (w.alloc (.cells #[.int .i64 ek, .int .i64 ei, .string ey, .string en, .slice a len cap] 32)) w'') := fun w' rv hb hr => boxed hb (hsa w' rv (unbox hb) hr)
  clear hno hok hen hsa
  have hm := me_hap
  go_enter Tryz.func33, Tryz.ntmps33
  go_wp2_with first
    | (go_at_call 50; refine (HNO.out _ ?_).mono ?_; (first | exact Below.refl _ _ | assumption); rintro x w1 ⟨rfl, hw1⟩; obtain ⟨c10, c11, c12, c13, c14⟩ := box5 hw1)
  first | (go_region_with (first
    | (go_at_call 51; refine (HOK.out _ ?_).mono ?_; (first | exact Below.refl _ _ | assumption | (refine Below.drew ?_; assumption)); rintro x w2 ⟨rfl, hw2⟩; obtain ⟨c20, c21, c22, c23, c24⟩ := box5 hw2)
    | (go_at_call 140; refine (HEN.out _ ?_).mono ?_; (first | exact Below.refl _ _ | assumption | (refine Below.drew ?_; assumption)); rintro x w3 ⟨rv, rfl, hR3, hw3⟩; obtain ⟨c30, c31, c32, c33, c34⟩ := box5 hw3)
    | (go_at_call 52; refine (HSA.out _ _ ?_ ?_).mono ?_; (first | exact Below.refl _ _ | assumption | (refine Below.drew ?_; assumption)); assumption; rintro x w4 ⟨rfl, hw4⟩)))
  all_goals
    go_wp2
    go_ret
    exact ⟨rfl, unbox hw4⟩
set_option maxRecDepth 100000 in
set_option maxHeartbeats 4000000 in
theorem entryOk_yes_end (ek ei : Int) (ey en : ByteArray) (a : Option Addr) (len cap : Nat) (nv rv : Value) (sb : Bool) (w : World)
    (hno : ∀ w', Below w.heap.size w w' → Calls Tryz.prog 50 #[.agg #[.int .i64 ek, .int .i64 ei, .string ey, .string en, .slice a len cap]] w' fun x w'' => x = .returned (.iface 94 nv) ∧ Below w'.heap.size w' w'')
    (hok : ∀ w', Below w.heap.size w w' → Calls Tryz.prog 51 #[.iface 94 nv] w' fun x w'' => x = .returned (.bool true) ∧ Below w'.heap.size w' w'')
    (hen : ∀ w', Below w.heap.size w w' → Calls Tryz.prog 141 #[nv] w' fun x w'' => x = .returned rv ∧ Below w'.heap.size w' w'')
    (hsa : ∀ w', Below w.heap.size w w' → Calls Tryz.prog 52 #[rv, .agg #[.int .i64 ek, .int .i64 ei, .string ey, .string en, .slice a len cap]] w' fun x w'' => x = .returned (.bool sb) ∧ Below w'.heap.size w' w'') :
    Calls Tryz.prog 33 #[.agg #[.int .i64 ek, .int .i64 ei, .string ey, .string en, .slice a len cap]] w fun x w' => x = .returned (.bool sb) ∧ Below w.heap.size w w' := by
  have HNO : Hid (∀ w', Below (w.heap.size + 1) (w.alloc (.cells #[.int .i64 ek, .int .i64 ei, .string ey, .string en, .slice a len cap] 32)) w' → Calls Tryz.prog 50 #[.agg #[.int .i64 ek, .int .i64 ei, .string ey, .string en, .slice a len cap]] w' fun x w'' => x = .returned (.iface 94 nv) ∧ Below (w.heap.size + 1) (w.alloc (.cells #[.int .i64 ek, .int .i64 ei, .string ey, .string en, .slice a len cap] 32)) w'') := fun w' hb => boxed hb (hno w' (unbox hb))
  have HOK : Hid (∀ w', Below (w.heap.size + 1) (w.alloc (.cells #[.int .i64 ek, .int .i64 ei, .string ey, .string en, .slice a len cap] 32)) w' → Calls Tryz.prog 51 #[.iface 94 nv] w' fun x w'' => x = .returned (.bool true) ∧ Below (w.heap.size + 1) (w.alloc (.cells #[.int .i64 ek, .int .i64 ei, .string ey, .string en, .slice a len cap] 32)) w'') := fun w' hb => boxed hb (hok w' (unbox hb))
  have HEN : Hid (∀ w', Below (w.heap.size + 1) (w.alloc (.cells #[.int .i64 ek, .int .i64 ei, .string ey, .string en, .slice a len cap] 32)) w' → Calls Tryz.prog 141 #[nv] w' fun x w'' => x = .returned rv ∧ Below (w.heap.size + 1) (w.alloc (.cells #[.int .i64 ek, .int .i64 ei, .string ey, .string en, .slice a len cap] 32)) w'') := fun w' hb => boxed hb (hen w' (unbox hb))
  have HSA : Hid (∀ w', Below (w.heap.size + 1) (w.alloc (.cells #[.int .i64 ek, .int .i64 ei, .string ey, .string en, .slice a len cap] 32)) w' → Calls Tryz.prog 52 #[rv, .agg #[.int .i64 ek, .int .i64 ei, .string ey, .string en, .slice a len cap]] w' fun x w'' => x = .returned (.bool sb) ∧ Below (w.heap.size + 1) (w.alloc (.cells #[.int .i64 ek, .int .i64 ei, .string ey, .string en, .slice a len cap] 32)) w'') := fun w' hb => boxed hb (hsa w' (unbox hb))
  clear hno hok hen hsa
  have hm := me_end
  go_enter Tryz.func33, Tryz.ntmps33
  go_wp2_with first
    | (go_at_call 50; refine (HNO.out _ ?_).mono ?_; (first | exact Below.refl _ _ | assumption); rintro x w1 ⟨rfl, hw1⟩; obtain ⟨c10, c11, c12, c13, c14⟩ := box5 hw1)
  first | (go_region_with (first
    | (go_at_call 51; refine (HOK.out _ ?_).mono ?_; (first | exact Below.refl _ _ | assumption | (refine Below.drew ?_; assumption)); rintro x w2 ⟨rfl, hw2⟩; obtain ⟨c20, c21, c22, c23, c24⟩ := box5 hw2)
    | (go_at_call 141; refine (HEN.out _ ?_).mono ?_; (first | exact Below.refl _ _ | assumption | (refine Below.drew ?_; assumption)); rintro x w3 ⟨rfl, hw3⟩; obtain ⟨c30, c31, c32, c33, c34⟩ := box5 hw3)
    | (go_at_call 52; refine (HSA.out _ ?_).mono ?_; (first | exact Below.refl _ _ | assumption | (refine Below.drew ?_; assumption)); rintro x w4 ⟨rfl, hw4⟩)))
  all_goals
    go_wp2
    go_ret
    exact ⟨rfl, unbox hw4⟩
end Go.Proofs.YtbngjpnbjknliaaGreatDoor

namespace Go.Proofs.YtbngjpnbjknliaaGreatDoor
set_option linter.unusedVariables false
set_option linter.unusedSimpArgs false
open Go.RowKit Go

def eB : ByteArray := ⟨#[]⟩
theorem eB_toList : eB.toList = [] := by rw [ByteArray.toList_eq]; rfl
theorem emp_beq (s : ByteArray) : (([] : List UInt8) == s.toList) = emp s := by
  unfold emp; cases h : s.toList <;> simp
theorem beq_self (s : ByteArray) : (s.toList == s.toList) = true := by simp
theorem numsIn_one (x : Int) : numsIn [x] = numIn x := by simp [numsIn]
theorem numIn_bet {n : Int} : between 1 9999 n = true → 0 < n ∧ 0 ≤ n ∧ n ≤ 9999 := by unfold between; simp; omega
theorem ent_1 (id : Int) (key name : ByteArray) (zs : List Int) : entOk ⟨1, id, key, name, zs⟩ = ((decide (zs.length ≤ 3) && numsIn zs) && sameEnt ⟨1, 0, eB, eB, zs⟩ ⟨1, id, key, name, zs⟩) := by
  simp only [entOk, entBody, sameEnt, eB_toList, emp_beq]
  rw [Bool.eq_iff_iff]; simp; grind
theorem ent_2 (id : Int) (key name : ByteArray) (zs : List Int) : entOk ⟨2, id, key, name, zs⟩ = (nameOk name.data.toList && sameEnt ⟨2, 0, eB, name, []⟩ ⟨2, id, key, name, zs⟩) := by
  simp only [entOk, entBody, sameEnt, eB_toList, emp_beq]
  rw [Bool.eq_iff_iff]; cases zs <;> simp [numsIn] <;> grind
theorem ent_3 (id : Int) (key name : ByteArray) (zs : List Int) : entOk ⟨3, id, key, name, zs⟩ = (askOk id key name zs && sameEnt ⟨3, id, key, name, zs⟩ ⟨3, id, key, name, zs⟩) := by
  simp only [entOk, entBody, sameEnt, askOk, keyOk, between, beq_self]
  rw [Bool.eq_iff_iff]; simp; grind
theorem ent_4 (k h : Int) (hk : (k = 4 ∧ h = 1) ∨ (k = 5 ∧ h = 2)) (id : Int) (key name : ByteArray) (zs : List Int) : entOk ⟨k, id, key, name, zs⟩ = (hapOk h id (zs.getD 0 0) eB && sameEnt ⟨k, id, eB, eB, [zs.getD 0 0]⟩ ⟨k, id, key, name, zs⟩) := by
  simp only [entOk, entBody, sameEnt, hapOk, between, eB_toList, emp_beq]
  rw [Bool.eq_iff_iff]
  rcases hk with ⟨rfl, rfl⟩ | ⟨rfl, rfl⟩ <;> (match zs with
    | [] => simp
    | [x] => simp [numsIn_one]; grind
    | x :: y :: r => simp)
theorem ent_6 (id : Int) (key name : ByteArray) (zs : List Int) : entOk ⟨6, id, key, name, zs⟩ = (hapOk 3 id 0 eB && sameEnt ⟨6, id, eB, eB, []⟩ ⟨6, id, key, name, zs⟩) := by
  simp only [entOk, entBody, sameEnt, hapOk, between, eB_toList, emp_beq]
  rw [Bool.eq_iff_iff]; cases zs <;> simp [numsIn] <;> grind
theorem ent_7 (id : Int) (key name : ByteArray) (zs : List Int) : entOk ⟨7, id, key, name, zs⟩ = (hapOk 4 0 (zs.getD 0 0) name && sameEnt ⟨7, 0, eB, name, [zs.getD 0 0]⟩ ⟨7, id, key, name, zs⟩) := by
  simp only [entOk, entBody, sameEnt, hapOk, between, eB_toList, emp_beq]
  rw [Bool.eq_iff_iff]
  match zs with
    | [] => simp
    | [x] => simp [numsIn_one]; grind
    | x :: y :: r => simp
theorem ent_8 (id : Int) (key name : ByteArray) (zs : List Int) : entOk ⟨8, id, key, name, zs⟩ = (hapOk 5 0 0 eB && sameEnt ⟨8, 0, eB, eB, []⟩ ⟨8, id, key, name, zs⟩) := by
  simp only [entOk, entBody, sameEnt, hapOk, between, eB_toList, emp_beq]
  rw [Bool.eq_iff_iff]; cases zs <;> simp [numsIn] <;> grind
theorem ent_9 (id : Int) (key name : ByteArray) (zs : List Int) : entOk ⟨9, id, key, name, zs⟩ = (endOk id zs && sameEnt ⟨9, id, eB, eB, zs⟩ ⟨9, id, key, name, zs⟩) := by
  simp only [entOk, entBody, sameEnt, endOk, eB_toList, emp_beq]
  rw [Bool.eq_iff_iff]; simp; grind
theorem ent_0 (k id : Int) (key name : ByteArray) (zs : List Int) (h : k < 1 ∨ 9 < k) : entOk ⟨k, id, key, name, zs⟩ = false := by
  simp only [entOk, entBody]
  rw [if_neg (by omega), if_neg (by omega), if_neg (by omega), if_neg (by omega), if_neg (by omega), if_neg (by omega), if_neg (by omega), if_neg (by omega)]
  simp

theorem IsRow.none (w : World) : IsRow .i64 w none 0 0 [] := ⟨rfl, Nat.le_refl _, by unfold maxLen; omega, fun h => by omega, fun n hn => by cases hn⟩
theorem IsRow.one {w : World} {b : Nat} {z : Int} (hb : b < w.heap.size) (hc : w.cell? ⟨b, 0, .none⟩ = some (.int .i64 z)) (hz : (Lit.int .i64 z).wf = true) : IsRow .i64 w (some ⟨b, 0, .none⟩) 1 1 [z] :=
  ⟨rfl, Nat.le_refl _, by unfold maxLen; omega, fun _ => ⟨b, 0, rfl, hb, fun i hi => (by have e : i = 0 := (by omega); subst e; exact hc)⟩, fun n hn => by simp at hn; subst hn; exact hz⟩
theorem first_wf {k : IntKind} {w : World} {a : Option Addr} {len cap : Nat} {zs : List Int} (hr : IsRow .i64 w a len cap zs) : (Lit.int .i64 (zs.getD 0 0)).wf = true := by
  cases zs with
  | nil => rfl
  | cons x r => exact hr.wf x List.mem_cons_self
theorem calls_bool {P : Program} {f : FuncId} {args : Array Value} {w : World} {b c : Bool} (h : Calls P f args w fun x w' => x = .returned (.bool b) ∧ Below w.heap.size w w') (e : c = b) : Calls P f args w fun x w' => x = .returned (.bool c) ∧ Below w.heap.size w w' := by rw [e]; exact h
/-- The value of an entry's record. -/
def entV (kind id : Int) (key name : ByteArray) (a : Option Addr) (len cap : Nat) : Value := .agg #[.int .i64 kind, .int .i64 id, .string key, .string name, .slice a len cap]

theorem entryOk (kind id : Int) (key name : ByteArray) (a : Option Addr) (len cap : Nat) (zs : List Int) (w : World) (hr : IsRow .i64 w a len cap zs) (hk : key.size ≤ maxLen) (hn : name.size ≤ maxLen) :
    Calls Tryz.prog 33 #[.agg #[.int .i64 kind, .int .i64 id, .string key, .string name, .slice a len cap]] w fun x w' => x = .returned (.bool (entOk ⟨kind, id, key, name, zs⟩)) ∧ Below w.heap.size w w' := by
  have h0 : eB.size ≤ maxLen := Nat.zero_le _
  by_cases hkk : kind < 1 ∨ 9 < kind
  · exact calls_bool (entryOk_no kind id key name a len cap .nilIface w (fun w' hb => noteOf_0 kind id key name a len cap w' hkk) (fun w' hb => noteOk_nil w')) (ent_0 kind id key name zs hkk)
  rcases (by omega : kind = 1 ∨ kind = 2 ∨ kind = 3 ∨ kind = 4 ∨ kind = 5 ∨ kind = 6 ∨ kind = 7 ∨ kind = 8 ∨ kind = 9) with rfl | rfl | rfl | rfl | rfl | rfl | rfl | rfl | rfl
  · rw [ent_1]
    cases hb : (decide (zs.length ≤ 3) && numsIn zs)
    · exact calls_bool (entryOk_no 1 id key name a len cap (.iface 84 (.slice a len cap)) w (fun w' _ => noteOf_1 id key name a len cap w') (fun w' h => by rw [← hb]; exact noteOk_start a len cap zs w' (hr.below h))) rfl
    · exact calls_bool (entryOk_yes_start 1 id key name a len cap (.slice a len cap) _ (sameEnt ⟨1, 0, eB, eB, zs⟩ ⟨1, id, key, name, zs⟩) w (fun w' _ => noteOf_1 id key name a len cap w') (fun w' h => by rw [← hb]; exact noteOk_start a len cap zs w' (hr.below h)) (fun w' _ => startEntry a len cap w') (fun w' h => sameEntry ⟨1, 0, eB, eB, zs⟩ ⟨1, id, key, name, zs⟩ a a len cap len cap w' (hr.below h) (hr.below h))) rfl
  · rw [ent_2]
    cases hb : nameOk name.data.toList
    · exact calls_bool (entryOk_no 2 id key name a len cap (.iface 86 (.string name)) w (fun w' _ => noteOf_2 id key name a len cap w') (fun w' h => by rw [← hb]; exact noteOk_mark name w' hn)) rfl
    · exact calls_bool (entryOk_yes_mark 2 id key name a len cap (.string name) _ (sameEnt ⟨2, 0, eB, name, []⟩ ⟨2, id, key, name, zs⟩) w (fun w' _ => noteOf_2 id key name a len cap w') (fun w' h => by rw [← hb]; exact noteOk_mark name w' hn) (fun w' _ => markEntry name w') (fun w' h => sameEntry ⟨2, 0, eB, name, []⟩ ⟨2, id, key, name, zs⟩ _ a _ _ len cap w' (IsRow.none _) (hr.below h))) rfl
  · rw [ent_3]
    cases hb : askOk id key name zs
    · exact calls_bool (entryOk_no 3 id key name a len cap _ w (fun w' _ => noteOf_3 id key name a len cap w') (fun w' h => by rw [← hb]; exact noteOk_ask id key name a len cap zs w' (hr.below h) hk hn)) rfl
    · exact calls_bool (entryOk_yes_ask 3 id key name a len cap _ _ (sameEnt ⟨3, id, key, name, zs⟩ ⟨3, id, key, name, zs⟩) w (fun w' _ => noteOf_3 id key name a len cap w') (fun w' h => by rw [← hb]; exact noteOk_ask id key name a len cap zs w' (hr.below h) hk hn) (fun w' _ => askEntry id key name a len cap w') (fun w' h => sameEntry ⟨3, id, key, name, zs⟩ ⟨3, id, key, name, zs⟩ a a len cap len cap w' (hr.below h) (hr.below h))) rfl
  · rw [ent_4 4 1 (.inl ⟨rfl, rfl⟩)]
    cases hb : hapOk 1 id (zs.getD 0 0) eB
    · exact calls_bool (entryOk_no 4 id key name a len cap _ w (fun w' h => noteOf_4 id key name a len cap zs w' (hr.below h)) (fun w' h => by rw [← hb]; exact noteOk_hap 1 id (zs.getD 0 0) eB (by omega) h0 w')) rfl
    · exact calls_bool (entryOk_yes_hap 4 id key name a len cap _ (fun rv w => ∃ b, rv = entV 4 id eB eB (some ⟨b, 0, none⟩) 1 1 ∧ IsRow .i64 w (some ⟨b, 0, none⟩) 1 1 [zs.getD 0 0]) (sameEnt ⟨4, id, eB, eB, [zs.getD 0 0]⟩ ⟨4, id, key, name, zs⟩) w (fun w' h => noteOf_4 id key name a len cap zs w' (hr.below h)) (fun w' h => by rw [← hb]; exact noteOk_hap 1 id (zs.getD 0 0) eB (by omega) h0 w')
        (fun w' _ => (hapEntry_1 id (zs.getD 0 0) eB w').mono fun _ _ ⟨b, he, h1, h2, h3⟩ => ⟨_, he, ⟨b, rfl, IsRow.one h1 h2 (first_wf (k := .i64) hr)⟩, h3⟩) (fun w' rv h hR => by obtain ⟨b, rfl, hrow⟩ := hR; exact sameEntry ⟨4, id, eB, eB, [zs.getD 0 0]⟩ ⟨4, id, key, name, zs⟩ _ a 1 1 len cap w' hrow (hr.below h))) rfl
  · rw [ent_4 5 2 (.inr ⟨rfl, rfl⟩)]
    cases hb : hapOk 2 id (zs.getD 0 0) eB
    · exact calls_bool (entryOk_no 5 id key name a len cap _ w (fun w' h => noteOf_5 id key name a len cap zs w' (hr.below h)) (fun w' h => by rw [← hb]; exact noteOk_hap 2 id (zs.getD 0 0) eB (by omega) h0 w')) rfl
    · exact calls_bool (entryOk_yes_hap 5 id key name a len cap _ (fun rv w => ∃ b, rv = entV 5 id eB eB (some ⟨b, 0, none⟩) 1 1 ∧ IsRow .i64 w (some ⟨b, 0, none⟩) 1 1 [zs.getD 0 0]) (sameEnt ⟨5, id, eB, eB, [zs.getD 0 0]⟩ ⟨5, id, key, name, zs⟩) w (fun w' h => noteOf_5 id key name a len cap zs w' (hr.below h)) (fun w' h => by rw [← hb]; exact noteOk_hap 2 id (zs.getD 0 0) eB (by omega) h0 w')
        (fun w' _ => (hapEntry_2 id (zs.getD 0 0) eB w').mono fun _ _ ⟨b, he, h1, h2, h3⟩ => ⟨_, he, ⟨b, rfl, IsRow.one h1 h2 (first_wf (k := .i64) hr)⟩, h3⟩) (fun w' rv h hR => by obtain ⟨b, rfl, hrow⟩ := hR; exact sameEntry ⟨5, id, eB, eB, [zs.getD 0 0]⟩ ⟨5, id, key, name, zs⟩ _ a 1 1 len cap w' hrow (hr.below h))) rfl
  · rw [ent_6]
    cases hb : hapOk 3 id 0 eB
    · exact calls_bool (entryOk_no 6 id key name a len cap _ w (fun w' h => noteOf_6 id key name a len cap zs w' (hr.below h)) (fun w' h => by rw [← hb]; exact noteOk_hap 3 id 0 eB (by omega) h0 w')) rfl
    · exact calls_bool (entryOk_yes_hap 6 id key name a len cap _ (fun rv w => rv = entV 6 id eB eB none 0 0) (sameEnt ⟨6, id, eB, eB, []⟩ ⟨6, id, key, name, zs⟩) w (fun w' h => noteOf_6 id key name a len cap zs w' (hr.below h)) (fun w' h => by rw [← hb]; exact noteOk_hap 3 id 0 eB (by omega) h0 w')
        (fun w' _ => (hapEntry_3 id 0 eB w').mono fun _ _ ⟨he, h3⟩ => ⟨_, he, rfl, h3⟩) (fun w' rv h hR => by subst hR; exact sameEntry ⟨6, id, eB, eB, []⟩ ⟨6, id, key, name, zs⟩ _ a 0 0 len cap w' (IsRow.none _) (hr.below h))) rfl
  · rw [ent_7]
    cases hb : hapOk 4 0 (zs.getD 0 0) name
    · exact calls_bool (entryOk_no 7 id key name a len cap _ w (fun w' h => noteOf_7 id key name a len cap zs w' (hr.below h)) (fun w' h => by rw [← hb]; exact noteOk_hap 4 0 (zs.getD 0 0) name (by omega) hn w')) rfl
    · exact calls_bool (entryOk_yes_hap 7 id key name a len cap _ (fun rv w => ∃ b, rv = entV 7 0 eB name (some ⟨b, 0, none⟩) 1 1 ∧ IsRow .i64 w (some ⟨b, 0, none⟩) 1 1 [zs.getD 0 0]) (sameEnt ⟨7, 0, eB, name, [zs.getD 0 0]⟩ ⟨7, id, key, name, zs⟩) w (fun w' h => noteOf_7 id key name a len cap zs w' (hr.below h)) (fun w' h => by rw [← hb]; exact noteOk_hap 4 0 (zs.getD 0 0) name (by omega) hn w')
        (fun w' _ => (hapEntry_4 0 (zs.getD 0 0) name w').mono fun _ _ ⟨b, he, h1, h2, h3⟩ => ⟨_, he, ⟨b, rfl, IsRow.one h1 h2 (first_wf (k := .i64) hr)⟩, h3⟩) (fun w' rv h hR => by obtain ⟨b, rfl, hrow⟩ := hR; exact sameEntry ⟨7, 0, eB, name, [zs.getD 0 0]⟩ ⟨7, id, key, name, zs⟩ _ a 1 1 len cap w' hrow (hr.below h))) rfl
  · rw [ent_8]
    exact calls_bool (entryOk_yes_hap 8 id key name a len cap _ (fun rv w => rv = entV 8 0 eB eB none 0 0) (sameEnt ⟨8, 0, eB, eB, []⟩ ⟨8, id, key, name, zs⟩) w (fun w' h => noteOf_8 id key name a len cap zs w' (hr.below h)) (fun w' h => noteOk_hap 5 0 0 eB (by omega) h0 w')
        (fun w' _ => (hapEntry_5 0 0 eB w').mono fun _ _ ⟨he, h3⟩ => ⟨_, he, rfl, h3⟩) (fun w' rv h hR => by subst hR; exact sameEntry ⟨8, 0, eB, eB, []⟩ ⟨8, id, key, name, zs⟩ _ a 0 0 len cap w' (IsRow.none _) (hr.below h))) rfl
  · rw [ent_9]
    cases hb : endOk id zs
    · exact calls_bool (entryOk_no 9 id key name a len cap _ w (fun w' _ => noteOf_9 id key name a len cap w') (fun w' h => by rw [← hb]; exact noteOk_end id a len cap zs w' (hr.below h))) rfl
    · exact calls_bool (entryOk_yes_end 9 id key name a len cap _ _ (sameEnt ⟨9, id, eB, eB, zs⟩ ⟨9, id, key, name, zs⟩) w (fun w' _ => noteOf_9 id key name a len cap w') (fun w' h => by rw [← hb]; exact noteOk_end id a len cap zs w' (hr.below h)) (fun w' _ => endEntry id a len cap w') (fun w' h => sameEntry ⟨9, id, eB, eB, zs⟩ ⟨9, id, key, name, zs⟩ a a len cap len cap w' (hr.below h) (hr.below h))) rfl
end Go.Proofs.YtbngjpnbjknliaaGreatDoor
