/- The program's entryOk. -/
import Derived.Test.YtmfibpfnbhhoaaaDoorIA4
namespace Go.Proofs.YtmfibpfnbhhoaaaDoor
set_option linter.unusedVariables false
set_option linter.unusedSimpArgs false
open Go.RowKit Go

set_option maxRecDepth 100000 in
set_option maxHeartbeats 4000000 in
theorem entryOk_no (ek ei : Int) (ey en : ByteArray) (a : Option Addr) (len cap : Nat) (nv : Value) (w : World)
    (hno : ∀ w', Below w.heap.size w w' → Calls Tryd.prog 26 #[.agg #[.int .i64 ek, .int .i64 ei, .string ey, .string en, .slice a len cap]] w' fun x w'' => x = .returned nv ∧ Below w'.heap.size w' w'')
    (hok : ∀ w', Below w.heap.size w w' → Calls Tryd.prog 27 #[nv] w' fun x w'' => x = .returned (.bool false) ∧ Below w'.heap.size w' w'') :
    Calls Tryd.prog 14 #[.agg #[.int .i64 ek, .int .i64 ei, .string ey, .string en, .slice a len cap]] w fun x w' => x = .returned (.bool false) ∧ Below w.heap.size w w' := by
  have HNO : Hid (∀ w', Below (w.heap.size + 1) (w.alloc (.cells #[.int .i64 ek, .int .i64 ei, .string ey, .string en, .slice a len cap] 35)) w' → Calls Tryd.prog 26 #[.agg #[.int .i64 ek, .int .i64 ei, .string ey, .string en, .slice a len cap]] w' fun x w'' => x = .returned nv ∧ Below (w.heap.size + 1) (w.alloc (.cells #[.int .i64 ek, .int .i64 ei, .string ey, .string en, .slice a len cap] 35)) w'') := fun w' hb => boxed hb (hno w' (unbox hb))
  have HOK : Hid (∀ w', Below (w.heap.size + 1) (w.alloc (.cells #[.int .i64 ek, .int .i64 ei, .string ey, .string en, .slice a len cap] 35)) w' → Calls Tryd.prog 27 #[nv] w' fun x w'' => x = .returned (.bool false) ∧ Below (w.heap.size + 1) (w.alloc (.cells #[.int .i64 ek, .int .i64 ei, .string ey, .string en, .slice a len cap] 35)) w'') := fun w' hb => boxed hb (hok w' (unbox hb))
  clear hno hok
  go_enter Tryd.func14, Tryd.ntmps14
  go_wp2_with first
    | (go_at_call 26; refine (HNO.out _ ?_).mono ?_; (first | exact Below.refl _ _ | assumption); rintro x w1 ⟨rfl, hw1⟩; obtain ⟨c10, c11, c12, c13, c14⟩ := box5 hw1)
  first | (go_region_with (first | (go_at_call 27; refine (HOK.out _ ?_).mono ?_; (first | exact Below.refl _ _ | assumption | (refine Below.drew ?_; assumption)); rintro x w2 ⟨rfl, hw2⟩))) | fail
  all_goals
    go_wp2
    go_ret
    exact ⟨rfl, unbox hw2⟩

set_option maxRecDepth 100000 in
set_option maxHeartbeats 4000000 in
theorem entryOk_yes_start (ek ei : Int) (ey en : ByteArray) (a : Option Addr) (len cap : Nat) (nv rv : Value) (sb : Bool) (w : World)
    (hno : ∀ w', Below w.heap.size w w' → Calls Tryd.prog 26 #[.agg #[.int .i64 ek, .int .i64 ei, .string ey, .string en, .slice a len cap]] w' fun x w'' => x = .returned (.iface 65 nv) ∧ Below w'.heap.size w' w'')
    (hok : ∀ w', Below w.heap.size w w' → Calls Tryd.prog 27 #[.iface 65 nv] w' fun x w'' => x = .returned (.bool true) ∧ Below w'.heap.size w' w'')
    (hen : ∀ w', Below w.heap.size w w' → Calls Tryd.prog 103 #[nv] w' fun x w'' => x = .returned rv ∧ Below w'.heap.size w' w'')
    (hsa : ∀ w', Below w.heap.size w w' → Calls Tryd.prog 28 #[rv, .agg #[.int .i64 ek, .int .i64 ei, .string ey, .string en, .slice a len cap]] w' fun x w'' => x = .returned (.bool sb) ∧ Below w'.heap.size w' w'') :
    Calls Tryd.prog 14 #[.agg #[.int .i64 ek, .int .i64 ei, .string ey, .string en, .slice a len cap]] w fun x w' => x = .returned (.bool sb) ∧ Below w.heap.size w w' := by
  have HNO : Hid (∀ w', Below (w.heap.size + 1) (w.alloc (.cells #[.int .i64 ek, .int .i64 ei, .string ey, .string en, .slice a len cap] 35)) w' → Calls Tryd.prog 26 #[.agg #[.int .i64 ek, .int .i64 ei, .string ey, .string en, .slice a len cap]] w' fun x w'' => x = .returned (.iface 65 nv) ∧ Below (w.heap.size + 1) (w.alloc (.cells #[.int .i64 ek, .int .i64 ei, .string ey, .string en, .slice a len cap] 35)) w'') := fun w' hb => boxed hb (hno w' (unbox hb))
  have HOK : Hid (∀ w', Below (w.heap.size + 1) (w.alloc (.cells #[.int .i64 ek, .int .i64 ei, .string ey, .string en, .slice a len cap] 35)) w' → Calls Tryd.prog 27 #[.iface 65 nv] w' fun x w'' => x = .returned (.bool true) ∧ Below (w.heap.size + 1) (w.alloc (.cells #[.int .i64 ek, .int .i64 ei, .string ey, .string en, .slice a len cap] 35)) w'') := fun w' hb => boxed hb (hok w' (unbox hb))
  have HEN : Hid (∀ w', Below (w.heap.size + 1) (w.alloc (.cells #[.int .i64 ek, .int .i64 ei, .string ey, .string en, .slice a len cap] 35)) w' → Calls Tryd.prog 103 #[nv] w' fun x w'' => x = .returned rv ∧ Below (w.heap.size + 1) (w.alloc (.cells #[.int .i64 ek, .int .i64 ei, .string ey, .string en, .slice a len cap] 35)) w'') := fun w' hb => boxed hb (hen w' (unbox hb))
  have HSA : Hid (∀ w', Below (w.heap.size + 1) (w.alloc (.cells #[.int .i64 ek, .int .i64 ei, .string ey, .string en, .slice a len cap] 35)) w' → Calls Tryd.prog 28 #[rv, .agg #[.int .i64 ek, .int .i64 ei, .string ey, .string en, .slice a len cap]] w' fun x w'' => x = .returned (.bool sb) ∧ Below (w.heap.size + 1) (w.alloc (.cells #[.int .i64 ek, .int .i64 ei, .string ey, .string en, .slice a len cap] 35)) w'') := fun w' hb => boxed hb (hsa w' (unbox hb))
  clear hno hok hen hsa
  have hm := me_start
  go_enter Tryd.func14, Tryd.ntmps14
  go_wp2_with first
    | (go_at_call 26; refine (HNO.out _ ?_).mono ?_; (first | exact Below.refl _ _ | assumption); rintro x w1 ⟨rfl, hw1⟩; obtain ⟨c10, c11, c12, c13, c14⟩ := box5 hw1)
  first | (go_region_with (first
    | (go_at_call 27; refine (HOK.out _ ?_).mono ?_; (first | exact Below.refl _ _ | assumption | (refine Below.drew ?_; assumption)); rintro x w2 ⟨rfl, hw2⟩; obtain ⟨c20, c21, c22, c23, c24⟩ := box5 hw2)
    | (go_at_call 103; refine (HEN.out _ ?_).mono ?_; (first | exact Below.refl _ _ | assumption | (refine Below.drew ?_; assumption)); rintro x w3 ⟨rfl, hw3⟩; obtain ⟨c30, c31, c32, c33, c34⟩ := box5 hw3)
    | (go_at_call 28; refine (HSA.out _ ?_).mono ?_; (first | exact Below.refl _ _ | assumption | (refine Below.drew ?_; assumption)); rintro x w4 ⟨rfl, hw4⟩)))
  all_goals
    go_wp2
    go_ret
    exact ⟨rfl, unbox hw4⟩
set_option maxRecDepth 100000 in
set_option maxHeartbeats 4000000 in
theorem entryOk_yes_mark (ek ei : Int) (ey en : ByteArray) (a : Option Addr) (len cap : Nat) (nv rv : Value) (sb : Bool) (w : World)
    (hno : ∀ w', Below w.heap.size w w' → Calls Tryd.prog 26 #[.agg #[.int .i64 ek, .int .i64 ei, .string ey, .string en, .slice a len cap]] w' fun x w'' => x = .returned (.iface 67 nv) ∧ Below w'.heap.size w' w'')
    (hok : ∀ w', Below w.heap.size w w' → Calls Tryd.prog 27 #[.iface 67 nv] w' fun x w'' => x = .returned (.bool true) ∧ Below w'.heap.size w' w'')
    (hen : ∀ w', Below w.heap.size w w' → Calls Tryd.prog 104 #[nv] w' fun x w'' => x = .returned rv ∧ Below w'.heap.size w' w'')
    (hsa : ∀ w', Below w.heap.size w w' → Calls Tryd.prog 28 #[rv, .agg #[.int .i64 ek, .int .i64 ei, .string ey, .string en, .slice a len cap]] w' fun x w'' => x = .returned (.bool sb) ∧ Below w'.heap.size w' w'') :
    Calls Tryd.prog 14 #[.agg #[.int .i64 ek, .int .i64 ei, .string ey, .string en, .slice a len cap]] w fun x w' => x = .returned (.bool sb) ∧ Below w.heap.size w w' := by
  have HNO : Hid (∀ w', Below (w.heap.size + 1) (w.alloc (.cells #[.int .i64 ek, .int .i64 ei, .string ey, .string en, .slice a len cap] 35)) w' → Calls Tryd.prog 26 #[.agg #[.int .i64 ek, .int .i64 ei, .string ey, .string en, .slice a len cap]] w' fun x w'' => x = .returned (.iface 67 nv) ∧ Below (w.heap.size + 1) (w.alloc (.cells #[.int .i64 ek, .int .i64 ei, .string ey, .string en, .slice a len cap] 35)) w'') := fun w' hb => boxed hb (hno w' (unbox hb))
  have HOK : Hid (∀ w', Below (w.heap.size + 1) (w.alloc (.cells #[.int .i64 ek, .int .i64 ei, .string ey, .string en, .slice a len cap] 35)) w' → Calls Tryd.prog 27 #[.iface 67 nv] w' fun x w'' => x = .returned (.bool true) ∧ Below (w.heap.size + 1) (w.alloc (.cells #[.int .i64 ek, .int .i64 ei, .string ey, .string en, .slice a len cap] 35)) w'') := fun w' hb => boxed hb (hok w' (unbox hb))
  have HEN : Hid (∀ w', Below (w.heap.size + 1) (w.alloc (.cells #[.int .i64 ek, .int .i64 ei, .string ey, .string en, .slice a len cap] 35)) w' → Calls Tryd.prog 104 #[nv] w' fun x w'' => x = .returned rv ∧ Below (w.heap.size + 1) (w.alloc (.cells #[.int .i64 ek, .int .i64 ei, .string ey, .string en, .slice a len cap] 35)) w'') := fun w' hb => boxed hb (hen w' (unbox hb))
  have HSA : Hid (∀ w', Below (w.heap.size + 1) (w.alloc (.cells #[.int .i64 ek, .int .i64 ei, .string ey, .string en, .slice a len cap] 35)) w' → Calls Tryd.prog 28 #[rv, .agg #[.int .i64 ek, .int .i64 ei, .string ey, .string en, .slice a len cap]] w' fun x w'' => x = .returned (.bool sb) ∧ Below (w.heap.size + 1) (w.alloc (.cells #[.int .i64 ek, .int .i64 ei, .string ey, .string en, .slice a len cap] 35)) w'') := fun w' hb => boxed hb (hsa w' (unbox hb))
  clear hno hok hen hsa
  have hm := me_mark
  go_enter Tryd.func14, Tryd.ntmps14
  go_wp2_with first
    | (go_at_call 26; refine (HNO.out _ ?_).mono ?_; (first | exact Below.refl _ _ | assumption); rintro x w1 ⟨rfl, hw1⟩; obtain ⟨c10, c11, c12, c13, c14⟩ := box5 hw1)
  first | (go_region_with (first
    | (go_at_call 27; refine (HOK.out _ ?_).mono ?_; (first | exact Below.refl _ _ | assumption | (refine Below.drew ?_; assumption)); rintro x w2 ⟨rfl, hw2⟩; obtain ⟨c20, c21, c22, c23, c24⟩ := box5 hw2)
    | (go_at_call 104; refine (HEN.out _ ?_).mono ?_; (first | exact Below.refl _ _ | assumption | (refine Below.drew ?_; assumption)); rintro x w3 ⟨rfl, hw3⟩; obtain ⟨c30, c31, c32, c33, c34⟩ := box5 hw3)
    | (go_at_call 28; refine (HSA.out _ ?_).mono ?_; (first | exact Below.refl _ _ | assumption | (refine Below.drew ?_; assumption)); rintro x w4 ⟨rfl, hw4⟩)))
  all_goals
    go_wp2
    go_ret
    exact ⟨rfl, unbox hw4⟩
set_option maxRecDepth 100000 in
set_option maxHeartbeats 4000000 in
theorem entryOk_yes_ask (ek ei : Int) (ey en : ByteArray) (a : Option Addr) (len cap : Nat) (nv rv : Value) (sb : Bool) (w : World)
    (hno : ∀ w', Below w.heap.size w w' → Calls Tryd.prog 26 #[.agg #[.int .i64 ek, .int .i64 ei, .string ey, .string en, .slice a len cap]] w' fun x w'' => x = .returned (.iface 69 nv) ∧ Below w'.heap.size w' w'')
    (hok : ∀ w', Below w.heap.size w w' → Calls Tryd.prog 27 #[.iface 69 nv] w' fun x w'' => x = .returned (.bool true) ∧ Below w'.heap.size w' w'')
    (hen : ∀ w', Below w.heap.size w w' → Calls Tryd.prog 105 #[nv] w' fun x w'' => x = .returned rv ∧ Below w'.heap.size w' w'')
    (hsa : ∀ w', Below w.heap.size w w' → Calls Tryd.prog 28 #[rv, .agg #[.int .i64 ek, .int .i64 ei, .string ey, .string en, .slice a len cap]] w' fun x w'' => x = .returned (.bool sb) ∧ Below w'.heap.size w' w'') :
    Calls Tryd.prog 14 #[.agg #[.int .i64 ek, .int .i64 ei, .string ey, .string en, .slice a len cap]] w fun x w' => x = .returned (.bool sb) ∧ Below w.heap.size w w' := by
  have HNO : Hid (∀ w', Below (w.heap.size + 1) (w.alloc (.cells #[.int .i64 ek, .int .i64 ei, .string ey, .string en, .slice a len cap] 35)) w' → Calls Tryd.prog 26 #[.agg #[.int .i64 ek, .int .i64 ei, .string ey, .string en, .slice a len cap]] w' fun x w'' => x = .returned (.iface 69 nv) ∧ Below (w.heap.size + 1) (w.alloc (.cells #[.int .i64 ek, .int .i64 ei, .string ey, .string en, .slice a len cap] 35)) w'') := fun w' hb => boxed hb (hno w' (unbox hb))
  have HOK : Hid (∀ w', Below (w.heap.size + 1) (w.alloc (.cells #[.int .i64 ek, .int .i64 ei, .string ey, .string en, .slice a len cap] 35)) w' → Calls Tryd.prog 27 #[.iface 69 nv] w' fun x w'' => x = .returned (.bool true) ∧ Below (w.heap.size + 1) (w.alloc (.cells #[.int .i64 ek, .int .i64 ei, .string ey, .string en, .slice a len cap] 35)) w'') := fun w' hb => boxed hb (hok w' (unbox hb))
  have HEN : Hid (∀ w', Below (w.heap.size + 1) (w.alloc (.cells #[.int .i64 ek, .int .i64 ei, .string ey, .string en, .slice a len cap] 35)) w' → Calls Tryd.prog 105 #[nv] w' fun x w'' => x = .returned rv ∧ Below (w.heap.size + 1) (w.alloc (.cells #[.int .i64 ek, .int .i64 ei, .string ey, .string en, .slice a len cap] 35)) w'') := fun w' hb => boxed hb (hen w' (unbox hb))
  have HSA : Hid (∀ w', Below (w.heap.size + 1) (w.alloc (.cells #[.int .i64 ek, .int .i64 ei, .string ey, .string en, .slice a len cap] 35)) w' → Calls Tryd.prog 28 #[rv, .agg #[.int .i64 ek, .int .i64 ei, .string ey, .string en, .slice a len cap]] w' fun x w'' => x = .returned (.bool sb) ∧ Below (w.heap.size + 1) (w.alloc (.cells #[.int .i64 ek, .int .i64 ei, .string ey, .string en, .slice a len cap] 35)) w'') := fun w' hb => boxed hb (hsa w' (unbox hb))
  clear hno hok hen hsa
  have hm := me_ask
  go_enter Tryd.func14, Tryd.ntmps14
  go_wp2_with first
    | (go_at_call 26; refine (HNO.out _ ?_).mono ?_; (first | exact Below.refl _ _ | assumption); rintro x w1 ⟨rfl, hw1⟩; obtain ⟨c10, c11, c12, c13, c14⟩ := box5 hw1)
  first | (go_region_with (first
    | (go_at_call 27; refine (HOK.out _ ?_).mono ?_; (first | exact Below.refl _ _ | assumption | (refine Below.drew ?_; assumption)); rintro x w2 ⟨rfl, hw2⟩; obtain ⟨c20, c21, c22, c23, c24⟩ := box5 hw2)
    | (go_at_call 105; refine (HEN.out _ ?_).mono ?_; (first | exact Below.refl _ _ | assumption | (refine Below.drew ?_; assumption)); rintro x w3 ⟨rfl, hw3⟩; obtain ⟨c30, c31, c32, c33, c34⟩ := box5 hw3)
    | (go_at_call 28; refine (HSA.out _ ?_).mono ?_; (first | exact Below.refl _ _ | assumption | (refine Below.drew ?_; assumption)); rintro x w4 ⟨rfl, hw4⟩)))
  all_goals
    go_wp2
    go_ret
    exact ⟨rfl, unbox hw4⟩
set_option maxRecDepth 100000 in
set_option maxHeartbeats 4000000 in
theorem entryOk_yes_hap (ek ei : Int) (ey en : ByteArray) (a : Option Addr) (len cap : Nat) (nv : Value) (R : Value → World → Prop) (sb : Bool) (w : World)
    (hno : ∀ w', Below w.heap.size w w' → Calls Tryd.prog 26 #[.agg #[.int .i64 ek, .int .i64 ei, .string ey, .string en, .slice a len cap]] w' fun x w'' => x = .returned (.iface 72 nv) ∧ Below w'.heap.size w' w'')
    (hok : ∀ w', Below w.heap.size w w' → Calls Tryd.prog 27 #[.iface 72 nv] w' fun x w'' => x = .returned (.bool true) ∧ Below w'.heap.size w' w'')
    (hen : ∀ w', Below w.heap.size w w' → Calls Tryd.prog 106 #[nv] w' fun x w'' => ∃ rv, x = .returned rv ∧ R rv w'' ∧ Below w'.heap.size w' w'')
    (hsa : ∀ w' rv, Below w.heap.size w w' → R rv w' → Calls Tryd.prog 28 #[rv, .agg #[.int .i64 ek, .int .i64 ei, .string ey, .string en, .slice a len cap]] w' fun x w'' => x = .returned (.bool sb) ∧ Below w'.heap.size w' w'') :
    Calls Tryd.prog 14 #[.agg #[.int .i64 ek, .int .i64 ei, .string ey, .string en, .slice a len cap]] w fun x w' => x = .returned (.bool sb) ∧ Below w.heap.size w w' := by
  have HNO : Hid (∀ w', Below (w.heap.size + 1) (w.alloc (.cells #[.int .i64 ek, .int .i64 ei, .string ey, .string en, .slice a len cap] 35)) w' → Calls Tryd.prog 26 #[.agg #[.int .i64 ek, .int .i64 ei, .string ey, .string en, .slice a len cap]] w' fun x w'' => x = .returned (.iface 72 nv) ∧ Below (w.heap.size + 1) (w.alloc (.cells #[.int .i64 ek, .int .i64 ei, .string ey, .string en, .slice a len cap] 35)) w'') := fun w' hb => boxed hb (hno w' (unbox hb))
  have HOK : Hid (∀ w', Below (w.heap.size + 1) (w.alloc (.cells #[.int .i64 ek, .int .i64 ei, .string ey, .string en, .slice a len cap] 35)) w' → Calls Tryd.prog 27 #[.iface 72 nv] w' fun x w'' => x = .returned (.bool true) ∧ Below (w.heap.size + 1) (w.alloc (.cells #[.int .i64 ek, .int .i64 ei, .string ey, .string en, .slice a len cap] 35)) w'') := fun w' hb => boxed hb (hok w' (unbox hb))
  have HEN : Hid (∀ w', Below (w.heap.size + 1) (w.alloc (.cells #[.int .i64 ek, .int .i64 ei, .string ey, .string en, .slice a len cap] 35)) w' → Calls Tryd.prog 106 #[nv] w' fun x w'' => ∃ rv, x = .returned rv ∧ R rv w'' ∧ Below (w.heap.size + 1) (w.alloc (.cells #[.int .i64 ek, .int .i64 ei, .string ey, .string en, .slice a len cap] 35)) w'') := fun w' hb => (hen w' (unbox hb)).mono fun _ _ ⟨rv, he, hr, hk⟩ => ⟨rv, he, hr, bcall hb (by have := hb.size; simpa using this) hk⟩
  have HSA : Hid (∀ w' rv, Below (w.heap.size + 1) (w.alloc (.cells #[.int .i64 ek, .int .i64 ei, .string ey, .string en, .slice a len cap] 35)) w' → R rv w' → Calls Tryd.prog 28 #[rv, .agg #[.int .i64 ek, .int .i64 ei, .string ey, .string en, .slice a len cap]] w' fun x w'' => x = .returned (.bool sb) ∧ Below (w.heap.size + 1) (w.alloc (.cells #[.int .i64 ek, .int .i64 ei, .string ey, .string en, .slice a len cap] 35)) w'') := fun w' rv hb hr => boxed hb (hsa w' rv (unbox hb) hr)
  clear hno hok hen hsa
  have hm := me_hap
  go_enter Tryd.func14, Tryd.ntmps14
  go_wp2_with first
    | (go_at_call 26; refine (HNO.out _ ?_).mono ?_; (first | exact Below.refl _ _ | assumption); rintro x w1 ⟨rfl, hw1⟩; obtain ⟨c10, c11, c12, c13, c14⟩ := box5 hw1)
  first | (go_region_with (first
    | (go_at_call 27; refine (HOK.out _ ?_).mono ?_; (first | exact Below.refl _ _ | assumption | (refine Below.drew ?_; assumption)); rintro x w2 ⟨rfl, hw2⟩; obtain ⟨c20, c21, c22, c23, c24⟩ := box5 hw2)
    | (go_at_call 106; refine (HEN.out _ ?_).mono ?_; (first | exact Below.refl _ _ | assumption | (refine Below.drew ?_; assumption)); rintro x w3 ⟨rv, rfl, hR3, hw3⟩; obtain ⟨c30, c31, c32, c33, c34⟩ := box5 hw3)
    | (go_at_call 28; refine (HSA.out _ _ ?_ ?_).mono ?_; (first | exact Below.refl _ _ | assumption | (refine Below.drew ?_; assumption)); assumption; rintro x w4 ⟨rfl, hw4⟩)))
  all_goals
    go_wp2
    go_ret
    exact ⟨rfl, unbox hw4⟩
set_option maxRecDepth 100000 in
set_option maxHeartbeats 4000000 in
theorem entryOk_yes_end (ek ei : Int) (ey en : ByteArray) (a : Option Addr) (len cap : Nat) (nv rv : Value) (sb : Bool) (w : World)
    (hno : ∀ w', Below w.heap.size w w' → Calls Tryd.prog 26 #[.agg #[.int .i64 ek, .int .i64 ei, .string ey, .string en, .slice a len cap]] w' fun x w'' => x = .returned (.iface 75 nv) ∧ Below w'.heap.size w' w'')
    (hok : ∀ w', Below w.heap.size w w' → Calls Tryd.prog 27 #[.iface 75 nv] w' fun x w'' => x = .returned (.bool true) ∧ Below w'.heap.size w' w'')
    (hen : ∀ w', Below w.heap.size w w' → Calls Tryd.prog 107 #[nv] w' fun x w'' => x = .returned rv ∧ Below w'.heap.size w' w'')
    (hsa : ∀ w', Below w.heap.size w w' → Calls Tryd.prog 28 #[rv, .agg #[.int .i64 ek, .int .i64 ei, .string ey, .string en, .slice a len cap]] w' fun x w'' => x = .returned (.bool sb) ∧ Below w'.heap.size w' w'') :
    Calls Tryd.prog 14 #[.agg #[.int .i64 ek, .int .i64 ei, .string ey, .string en, .slice a len cap]] w fun x w' => x = .returned (.bool sb) ∧ Below w.heap.size w w' := by
  have HNO : Hid (∀ w', Below (w.heap.size + 1) (w.alloc (.cells #[.int .i64 ek, .int .i64 ei, .string ey, .string en, .slice a len cap] 35)) w' → Calls Tryd.prog 26 #[.agg #[.int .i64 ek, .int .i64 ei, .string ey, .string en, .slice a len cap]] w' fun x w'' => x = .returned (.iface 75 nv) ∧ Below (w.heap.size + 1) (w.alloc (.cells #[.int .i64 ek, .int .i64 ei, .string ey, .string en, .slice a len cap] 35)) w'') := fun w' hb => boxed hb (hno w' (unbox hb))
  have HOK : Hid (∀ w', Below (w.heap.size + 1) (w.alloc (.cells #[.int .i64 ek, .int .i64 ei, .string ey, .string en, .slice a len cap] 35)) w' → Calls Tryd.prog 27 #[.iface 75 nv] w' fun x w'' => x = .returned (.bool true) ∧ Below (w.heap.size + 1) (w.alloc (.cells #[.int .i64 ek, .int .i64 ei, .string ey, .string en, .slice a len cap] 35)) w'') := fun w' hb => boxed hb (hok w' (unbox hb))
  have HEN : Hid (∀ w', Below (w.heap.size + 1) (w.alloc (.cells #[.int .i64 ek, .int .i64 ei, .string ey, .string en, .slice a len cap] 35)) w' → Calls Tryd.prog 107 #[nv] w' fun x w'' => x = .returned rv ∧ Below (w.heap.size + 1) (w.alloc (.cells #[.int .i64 ek, .int .i64 ei, .string ey, .string en, .slice a len cap] 35)) w'') := fun w' hb => boxed hb (hen w' (unbox hb))
  have HSA : Hid (∀ w', Below (w.heap.size + 1) (w.alloc (.cells #[.int .i64 ek, .int .i64 ei, .string ey, .string en, .slice a len cap] 35)) w' → Calls Tryd.prog 28 #[rv, .agg #[.int .i64 ek, .int .i64 ei, .string ey, .string en, .slice a len cap]] w' fun x w'' => x = .returned (.bool sb) ∧ Below (w.heap.size + 1) (w.alloc (.cells #[.int .i64 ek, .int .i64 ei, .string ey, .string en, .slice a len cap] 35)) w'') := fun w' hb => boxed hb (hsa w' (unbox hb))
  clear hno hok hen hsa
  have hm := me_end
  go_enter Tryd.func14, Tryd.ntmps14
  go_wp2_with first
    | (go_at_call 26; refine (HNO.out _ ?_).mono ?_; (first | exact Below.refl _ _ | assumption); rintro x w1 ⟨rfl, hw1⟩; obtain ⟨c10, c11, c12, c13, c14⟩ := box5 hw1)
  first | (go_region_with (first
    | (go_at_call 27; refine (HOK.out _ ?_).mono ?_; (first | exact Below.refl _ _ | assumption | (refine Below.drew ?_; assumption)); rintro x w2 ⟨rfl, hw2⟩; obtain ⟨c20, c21, c22, c23, c24⟩ := box5 hw2)
    | (go_at_call 107; refine (HEN.out _ ?_).mono ?_; (first | exact Below.refl _ _ | assumption | (refine Below.drew ?_; assumption)); rintro x w3 ⟨rfl, hw3⟩; obtain ⟨c30, c31, c32, c33, c34⟩ := box5 hw3)
    | (go_at_call 28; refine (HSA.out _ ?_).mono ?_; (first | exact Below.refl _ _ | assumption | (refine Below.drew ?_; assumption)); rintro x w4 ⟨rfl, hw4⟩)))
  all_goals
    go_wp2
    go_ret
    exact ⟨rfl, unbox hw4⟩
end Go.Proofs.YtmfibpfnbhhoaaaDoor
