/- The program's notes of entries: noteOf, and each note's entry. -/
import Derived.Test.YtmfibpfnbhhoaaaDoorIA1
import Derived.Test.YtmfibpfnbhhoaaaDoorHE1
import Derived.BigQuiet
namespace Go.Proofs.YtmfibpfnbhhoaaaDoor
set_option linter.unusedVariables false
set_option linter.unusedSimpArgs false
open Go.RowKit Go


set_option maxHeartbeats 1000000 in
theorem noteOf_1 (id : Int) (key name : ByteArray) (a : Option Addr) (len cap : Nat) (w : World) :
    Calls Tryd.prog 26 #[.agg #[.int .i64 1, .int .i64 id, .string key, .string name, .slice a len cap]] w fun e w' => e = .returned (.iface 65 (.slice a len cap)) ∧ Below w.heap.size w w' := by
  go_enter Tryd.func26, Tryd.ntmps26
  go_wp2
  go_ret
  exact ⟨rfl, (Below.refl _ _).alloc (Nat.le_refl _) _⟩
set_option maxHeartbeats 1000000 in
theorem noteOf_2 (id : Int) (key name : ByteArray) (a : Option Addr) (len cap : Nat) (w : World) :
    Calls Tryd.prog 26 #[.agg #[.int .i64 2, .int .i64 id, .string key, .string name, .slice a len cap]] w fun e w' => e = .returned (.iface 67 (.string name)) ∧ Below w.heap.size w w' := by
  go_enter Tryd.func26, Tryd.ntmps26
  go_wp2
  go_ret
  exact ⟨rfl, (Below.refl _ _).alloc (Nat.le_refl _) _⟩
set_option maxHeartbeats 1000000 in
theorem noteOf_3 (id : Int) (key name : ByteArray) (a : Option Addr) (len cap : Nat) (w : World) :
    Calls Tryd.prog 26 #[.agg #[.int .i64 3, .int .i64 id, .string key, .string name, .slice a len cap]] w fun e w' => e = .returned (.iface 69 (.agg #[.int .i64 id, .string key, .string name, .slice a len cap])) ∧ Below w.heap.size w w' := by
  go_enter Tryd.func26, Tryd.ntmps26
  go_wp2
  go_ret
  exact ⟨rfl, (Below.refl _ _).alloc (Nat.le_refl _) _⟩
set_option maxHeartbeats 1000000 in
theorem noteOf_4 (id : Int) (key name : ByteArray) (a : Option Addr) (len cap : Nat) (zs : List Int) (w : World) (hr : IsRow .i64 w a len cap zs) :
    Calls Tryd.prog 26 #[.agg #[.int .i64 4, .int .i64 id, .string key, .string name, .slice a len cap]] w fun e w' => e = .returned (.iface 72 (.agg #[.int .i64 1, .int .i64 id, .string ⟨#[]⟩, .int .i64 (zs.getD 0 0)])) ∧ Below w.heap.size w w' := by
  have HF : Hid (∀ o n, Calls Tryd.prog 41 #[.slice a len cap] ((w.alloc o).drewN n) fun e w'' => e = .returned (.int .i64 (zs.getD 0 0)) ∧ w'' = (w.alloc o).drewN n) := fun o n => firstOf a len cap zs _ (hr.below (below_drewN ((Below.refl _ _).alloc (Nat.le_refl _) _) n))
  clear hr
  generalize zs.getD 0 0 = z at HF
  go_enter Tryd.func26, Tryd.ntmps26
  go_wp2
  go_quiet ((go_at_call 41; exact Calls.quiet_of_same (HF.out _ _)))
  go_wp2
  go_ret
  exact ⟨rfl, below_drewN ((Below.refl _ _).alloc (Nat.le_refl _) _) _⟩
set_option maxHeartbeats 1000000 in
theorem noteOf_5 (id : Int) (key name : ByteArray) (a : Option Addr) (len cap : Nat) (zs : List Int) (w : World) (hr : IsRow .i64 w a len cap zs) :
    Calls Tryd.prog 26 #[.agg #[.int .i64 5, .int .i64 id, .string key, .string name, .slice a len cap]] w fun e w' => e = .returned (.iface 72 (.agg #[.int .i64 2, .int .i64 id, .string ⟨#[]⟩, .int .i64 (zs.getD 0 0)])) ∧ Below w.heap.size w w' := by
  have HF : Hid (∀ o n, Calls Tryd.prog 41 #[.slice a len cap] ((w.alloc o).drewN n) fun e w'' => e = .returned (.int .i64 (zs.getD 0 0)) ∧ w'' = (w.alloc o).drewN n) := fun o n => firstOf a len cap zs _ (hr.below (below_drewN ((Below.refl _ _).alloc (Nat.le_refl _) _) n))
  clear hr
  generalize zs.getD 0 0 = z at HF
  go_enter Tryd.func26, Tryd.ntmps26
  go_wp2
  go_quiet ((go_at_call 41; exact Calls.quiet_of_same (HF.out _ _)))
  go_wp2
  go_ret
  exact ⟨rfl, below_drewN ((Below.refl _ _).alloc (Nat.le_refl _) _) _⟩
set_option maxHeartbeats 1000000 in
theorem noteOf_6 (id : Int) (key name : ByteArray) (a : Option Addr) (len cap : Nat) (zs : List Int) (w : World) (hr : IsRow .i64 w a len cap zs) :
    Calls Tryd.prog 26 #[.agg #[.int .i64 6, .int .i64 id, .string key, .string name, .slice a len cap]] w fun e w' => e = .returned (.iface 72 (.agg #[.int .i64 3, .int .i64 id, .string ⟨#[]⟩, .int .i64 0])) ∧ Below w.heap.size w w' := by
  clear hr
  go_enter Tryd.func26, Tryd.ntmps26
  go_wp2
  go_ret
  exact ⟨rfl, (Below.refl _ _).alloc (Nat.le_refl _) _⟩
set_option maxHeartbeats 1000000 in
theorem noteOf_7 (id : Int) (key name : ByteArray) (a : Option Addr) (len cap : Nat) (zs : List Int) (w : World) (hr : IsRow .i64 w a len cap zs) :
    Calls Tryd.prog 26 #[.agg #[.int .i64 7, .int .i64 id, .string key, .string name, .slice a len cap]] w fun e w' => e = .returned (.iface 72 (.agg #[.int .i64 4, .int .i64 0, .string name, .int .i64 (zs.getD 0 0)])) ∧ Below w.heap.size w w' := by
  have HF : Hid (∀ o n, Calls Tryd.prog 41 #[.slice a len cap] ((w.alloc o).drewN n) fun e w'' => e = .returned (.int .i64 (zs.getD 0 0)) ∧ w'' = (w.alloc o).drewN n) := fun o n => firstOf a len cap zs _ (hr.below (below_drewN ((Below.refl _ _).alloc (Nat.le_refl _) _) n))
  clear hr
  generalize zs.getD 0 0 = z at HF
  go_enter Tryd.func26, Tryd.ntmps26
  go_wp2
  go_quiet ((go_at_call 41; exact Calls.quiet_of_same (HF.out _ _)))
  go_wp2
  go_ret
  exact ⟨rfl, below_drewN ((Below.refl _ _).alloc (Nat.le_refl _) _) _⟩
set_option maxHeartbeats 1000000 in
theorem noteOf_8 (id : Int) (key name : ByteArray) (a : Option Addr) (len cap : Nat) (zs : List Int) (w : World) (hr : IsRow .i64 w a len cap zs) :
    Calls Tryd.prog 26 #[.agg #[.int .i64 8, .int .i64 id, .string key, .string name, .slice a len cap]] w fun e w' => e = .returned (.iface 72 (.agg #[.int .i64 5, .int .i64 0, .string ⟨#[]⟩, .int .i64 0])) ∧ Below w.heap.size w w' := by
  clear hr
  go_enter Tryd.func26, Tryd.ntmps26
  go_wp2
  go_ret
  exact ⟨rfl, (Below.refl _ _).alloc (Nat.le_refl _) _⟩
set_option maxHeartbeats 1000000 in
theorem noteOf_9 (id : Int) (key name : ByteArray) (a : Option Addr) (len cap : Nat) (w : World) :
    Calls Tryd.prog 26 #[.agg #[.int .i64 9, .int .i64 id, .string key, .string name, .slice a len cap]] w fun e w' => e = .returned (.iface 75 (.agg #[.int .i64 id, .slice a len cap])) ∧ Below w.heap.size w w' := by
  go_enter Tryd.func26, Tryd.ntmps26
  go_wp2
  go_ret
  exact ⟨rfl, (Below.refl _ _).alloc (Nat.le_refl _) _⟩
set_option maxHeartbeats 1000000 in
theorem noteOf_0 (kind id : Int) (key name : ByteArray) (a : Option Addr) (len cap : Nat) (w : World) (h : kind < 1 ∨ 9 < kind) :
    Calls Tryd.prog 26 #[.agg #[.int .i64 kind, .int .i64 id, .string key, .string name, .slice a len cap]] w fun e w' => e = .returned .nilIface ∧ Below w.heap.size w w' := by
  have h1 : (kind == 1) = false := by simp; omega
  have h2 : (kind == 2) = false := by simp; omega
  have h3 : (kind == 3) = false := by simp; omega
  have h4 : (kind == 4) = false := by simp; omega
  have h5 : (kind == 5) = false := by simp; omega
  have h6 : (kind == 6) = false := by simp; omega
  have h7 : (kind == 7) = false := by simp; omega
  have h8 : (kind == 8) = false := by simp; omega
  have h9 : (kind == 9) = false := by simp; omega
  clear h
  go_enter Tryd.func26, Tryd.ntmps26
  go_wp2
  go_ret
  exact ⟨rfl, (Below.refl _ _).alloc (Nat.le_refl _) _⟩

/-- The entries of notes. -/
theorem startEntry (a : Option Addr) (len cap : Nat) (w : World) :
    Calls Tryd.prog 103 #[.slice a len cap] w fun e w' => e = .returned (.agg #[.int .i64 1, .int .i64 0, .string ⟨#[]⟩, .string ⟨#[]⟩, .slice a len cap]) ∧ Below w.heap.size w w' := by
  go_enter Tryd.func103, Tryd.ntmps103
  go_wp2
  exact bodyPost_ret (v := .agg #[.int .i64 1, .int .i64 0, .string ⟨#[]⟩, .string ⟨#[]⟩, .slice a len cap]) (by simp [results, Tryd.results103, go_sem]) rfl ⟨rfl, (Below.refl _ _).alloc (Nat.le_refl _) _⟩
theorem markEntry (name : ByteArray) (w : World) :
    Calls Tryd.prog 104 #[.string name] w fun e w' => e = .returned (.agg #[.int .i64 2, .int .i64 0, .string ⟨#[]⟩, .string name, .slice none 0 0]) ∧ Below w.heap.size w w' := by
  go_enter Tryd.func104, Tryd.ntmps104
  go_wp2
  exact bodyPost_ret (v := .agg #[.int .i64 2, .int .i64 0, .string ⟨#[]⟩, .string name, .slice none 0 0]) (by simp [results, Tryd.results104, go_sem]) rfl ⟨rfl, (Below.refl _ _).alloc (Nat.le_refl _) _⟩
theorem askEntry (id : Int) (key name : ByteArray) (a : Option Addr) (len cap : Nat) (w : World) :
    Calls Tryd.prog 105 #[.agg #[.int .i64 id, .string key, .string name, .slice a len cap]] w fun e w' => e = .returned (.agg #[.int .i64 3, .int .i64 id, .string key, .string name, .slice a len cap]) ∧ Below w.heap.size w w' := by
  go_enter Tryd.func105, Tryd.ntmps105
  go_wp2
  exact bodyPost_ret (v := .agg #[.int .i64 3, .int .i64 id, .string key, .string name, .slice a len cap]) (by simp [results, Tryd.results105, go_sem]) rfl ⟨rfl, ((Below.refl _ _).alloc (Nat.le_refl _) _).alloc (by simp) _⟩
theorem endEntry (id : Int) (a : Option Addr) (len cap : Nat) (w : World) :
    Calls Tryd.prog 107 #[.agg #[.int .i64 id, .slice a len cap]] w fun e w' => e = .returned (.agg #[.int .i64 9, .int .i64 id, .string ⟨#[]⟩, .string ⟨#[]⟩, .slice a len cap]) ∧ Below w.heap.size w w' := by
  go_enter Tryd.func107, Tryd.ntmps107
  go_wp2
  exact bodyPost_ret (v := .agg #[.int .i64 9, .int .i64 id, .string ⟨#[]⟩, .string ⟨#[]⟩, .slice a len cap]) (by simp [results, Tryd.results107, go_sem]) rfl ⟨rfl, ((Below.refl _ _).alloc (Nat.le_refl _) _).alloc (by simp) _⟩
theorem hapEntry_1 (id num : Int) (name : ByteArray) (w : World) :
    Calls Tryd.prog 106 #[.agg #[.int .i64 1, .int .i64 id, .string name, .int .i64 num]] w fun e w' => ∃ b, e = .returned (.agg #[.int .i64 4, .int .i64 id, .string ⟨#[]⟩, .string ⟨#[]⟩, .slice (some ⟨b, 0, none⟩) 1 1]) ∧ b < w'.heap.size ∧ w'.cell? ⟨b, 0, none⟩ = some (.int .i64 num) ∧ Below w.heap.size w w' := by
  go_enter Tryd.func106, Tryd.ntmps106
  go_wp2
  exact bodyPost_ret (v := .agg #[.int .i64 4, .int .i64 id, .string ⟨#[]⟩, .string ⟨#[]⟩, .slice (some ⟨w.heap.size + 2, 0, none⟩) 1 1]) (by simp [results, Tryd.results106, go_sem]) rfl ⟨w.heap.size + 2, rfl, by simp, by simp [go_sem], (((Below.refl _ _).alloc (Nat.le_refl _) _).alloc (by simp) _).alloc (by simp; omega) _⟩
theorem hapEntry_2 (id num : Int) (name : ByteArray) (w : World) :
    Calls Tryd.prog 106 #[.agg #[.int .i64 2, .int .i64 id, .string name, .int .i64 num]] w fun e w' => ∃ b, e = .returned (.agg #[.int .i64 5, .int .i64 id, .string ⟨#[]⟩, .string ⟨#[]⟩, .slice (some ⟨b, 0, none⟩) 1 1]) ∧ b < w'.heap.size ∧ w'.cell? ⟨b, 0, none⟩ = some (.int .i64 num) ∧ Below w.heap.size w w' := by
  go_enter Tryd.func106, Tryd.ntmps106
  go_wp2
  exact bodyPost_ret (v := .agg #[.int .i64 5, .int .i64 id, .string ⟨#[]⟩, .string ⟨#[]⟩, .slice (some ⟨w.heap.size + 2, 0, none⟩) 1 1]) (by simp [results, Tryd.results106, go_sem]) rfl ⟨w.heap.size + 2, rfl, by simp, by simp [go_sem], (((Below.refl _ _).alloc (Nat.le_refl _) _).alloc (by simp) _).alloc (by simp; omega) _⟩
theorem hapEntry_3 (id num : Int) (name : ByteArray) (w : World) :
    Calls Tryd.prog 106 #[.agg #[.int .i64 3, .int .i64 id, .string name, .int .i64 num]] w fun e w' => e = .returned (.agg #[.int .i64 6, .int .i64 id, .string ⟨#[]⟩, .string ⟨#[]⟩, .slice none 0 0]) ∧ Below w.heap.size w w' := by
  go_enter Tryd.func106, Tryd.ntmps106
  go_wp2
  exact bodyPost_ret (v := .agg #[.int .i64 6, .int .i64 id, .string ⟨#[]⟩, .string ⟨#[]⟩, .slice none 0 0]) (by simp [results, Tryd.results106, go_sem]) rfl ⟨rfl, ((Below.refl _ _).alloc (Nat.le_refl _) _).alloc (by simp) _⟩
theorem hapEntry_4 (id num : Int) (name : ByteArray) (w : World) :
    Calls Tryd.prog 106 #[.agg #[.int .i64 4, .int .i64 id, .string name, .int .i64 num]] w fun e w' => ∃ b, e = .returned (.agg #[.int .i64 7, .int .i64 0, .string ⟨#[]⟩, .string name, .slice (some ⟨b, 0, none⟩) 1 1]) ∧ b < w'.heap.size ∧ w'.cell? ⟨b, 0, none⟩ = some (.int .i64 num) ∧ Below w.heap.size w w' := by
  go_enter Tryd.func106, Tryd.ntmps106
  go_wp2
  exact bodyPost_ret (v := .agg #[.int .i64 7, .int .i64 0, .string ⟨#[]⟩, .string name, .slice (some ⟨w.heap.size + 2, 0, none⟩) 1 1]) (by simp [results, Tryd.results106, go_sem]) rfl ⟨w.heap.size + 2, rfl, by simp, by simp [go_sem], (((Below.refl _ _).alloc (Nat.le_refl _) _).alloc (by simp) _).alloc (by simp; omega) _⟩
theorem hapEntry_5 (id num : Int) (name : ByteArray) (w : World) :
    Calls Tryd.prog 106 #[.agg #[.int .i64 5, .int .i64 id, .string name, .int .i64 num]] w fun e w' => e = .returned (.agg #[.int .i64 8, .int .i64 0, .string ⟨#[]⟩, .string ⟨#[]⟩, .slice none 0 0]) ∧ Below w.heap.size w w' := by
  go_enter Tryd.func106, Tryd.ntmps106
  go_wp2
  exact bodyPost_ret (v := .agg #[.int .i64 8, .int .i64 0, .string ⟨#[]⟩, .string ⟨#[]⟩, .slice none 0 0]) (by simp [results, Tryd.results106, go_sem]) rfl ⟨rfl, ((Below.refl _ _).alloc (Nat.le_refl _) _).alloc (by simp) _⟩
end Go.Proofs.YtmfibpfnbhhoaaaDoor
