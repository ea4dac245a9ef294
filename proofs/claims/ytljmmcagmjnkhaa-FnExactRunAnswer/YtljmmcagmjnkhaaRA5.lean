/- The program's RunAnswer: what it answers. -/
import Derived.Test.YtljmmcagmjnkhaaRA4
namespace Go.Proofs.Ytljmmcagmjnkhaa
open Go.RowKit Go

/-- What modulo answers. -/
def mdl (n : Int) : Int := (n.tmod 9973 + 9973) % 9973
theorem mdl_eq (n : Int) : mdl n = n % 9973 := by
  unfold mdl
  have e : n.tmod 9973 = n % 9973 ∨ n.tmod 9973 = n % 9973 - 9973 := by
    rw [Int.tmod_eq_emod]; split <;> simp <;> omega
  rcases e with e | e <;> rw [e] <;> omega
theorem mdl_bd (n : Int) : 0 ≤ mdl n ∧ mdl n < 9973 := by
  unfold mdl; omega

set_option maxHeartbeats 400000 in
theorem mixed_w (h n : Int) (h0 : 0 ≤ h) (h1 : h < 9973) (n0 : 0 ≤ n) (n1 : n < 9973) (w : World) :
    Calls Try.prog 11 #[.int .i64 h, .int .i64 n] w fun e w' => e = .returned (.int .i64 ((31 * h + n) % 9973)) ∧ w' = w := by
  go_enter Try.func11, Try.ntmps11
  go_wp2
  go_ret
  exact ⟨rfl, rfl⟩

set_option maxHeartbeats 400000 in
theorem modulo_w (n : Int) (w : World) :
    Calls Try.prog 12 #[.int .i64 n, .int .i64 9973] w fun e w' => e = .returned (.int .i64 (mdl n)) ∧ w' = w := by
  have h2 : -9973 < n.tmod 9973 := Int.lt_tmod_of_pos n (by omega)
  have h3 : n.tmod 9973 < 9973 := Int.tmod_lt_of_pos n (by omega)
  go_enter Try.func12, Try.ntmps12
  go_wp2
  go_ret
  exact ⟨rfl, rfl⟩

/-- The sum behind j of the two texts. -/
def hAt (key name : ByteArray) (j : Nat) : Int := if j = 0 then 7 else if j = 1 then hbs 7 key.data.toList else hbs (hbs 7 key.data.toList) name.data.toList
theorem hAt_bd (key name : ByteArray) (j : Nat) : 0 ≤ hAt key name j ∧ hAt key name j < 9973 := by
  have h1 := hbs_bd 7 key.data.toList (by omega) (by omega)
  have h2 := hbs_bd _ name.data.toList h1.1 h1.2
  unfold hAt; split
  · omega
  · split <;> assumption

set_option maxHeartbeats 400000 in
theorem implAnswer (id : Int) (key name : ByteArray) (a : Option Addr) (len cap : Nat) (zs : List Int) (w : World) (hk : key.size ≤ maxLen) (hn : name.size ≤ maxLen) (hr : IsRow .i64 w a len cap zs) :
    Calls Try.prog 7 #[.agg #[.int .i64 id, .string key, .string name, .slice a len cap]] w fun e w' => e = .returned (.int .i64 (ans key.data.toList name.data.toList zs)) ∧ Below w.heap.size w w' := by
  unfold maxLen at hk hn
  have HR : Hid (IsRow .i64 w a len cap zs) := hr
  go_enter Try.func7, Try.ntmps7
  go_wp2
  go_loop [3, 15] (fun h i => ∃ j : Nat, j ≤ 2 ∧ i = .int .i64 j ∧ h = .int .i64 (hAt key name j)) (fun _ i => 2 - (intOf i).toNat)
  case atStart => exact ⟨0, Nat.zero_le _, rfl, rfl⟩
  case round =>
    obtain ⟨j, hj, rfl, rfl⟩ := hrel
    have hd := hAt_bd key name j
    rcases (by omega : j = 0 ∨ j = 1 ∨ j = 2) with rfl | rfl | rfl
    · clear hd
      go_wp2
      have hd := hAt_bd key name 0
      go_loop [3, 21] (fun h i => ∃ k : Nat, k ≤ key.size ∧ i = .int .i64 k ∧ h = .int .i64 (hbs (hAt key name 0) (key.data.toList.take k))) (fun _ i => key.size - (intOf i).toNat)
      case atStart => exact ⟨0, Nat.zero_le _, rfl, rfl⟩
      case round =>
        obtain ⟨k, hk', rfl, rfl⟩ := hrel
        have hd2 := hbs_bd (hAt key name 0) (key.data.toList.take k) hd.1 hd.2
        by_cases hlt : k < key.size
        · have HS : Hid (hbs (hAt key name 0) (key.data.toList.take (k + 1)) = hb (hbs (hAt key name 0) (key.data.toList.take k)) key[k]) := by rw [take_snoc key k hlt]; exact hbs_snoc _ _ _
          have hu := key[k].toNat_lt
          have HM : Hid (∀ w, Calls Try.prog 11 #[.int .i64 (hbs (hAt key name 0) (key.data.toList.take k)), .int .i64 (key[k].toNat : Int)] w fun e w' => e = .returned (.int .i64 (hb (hbs (hAt key name 0) (key.data.toList.take k)) key[k])) ∧ w' = w) := fun w => mixed_w _ _ hd2.1 hd2.2 (by omega) (by omega) w
          go_wp2_with (go_at_call 11; refine (HM.out _).mono ?_; rintro e w1 ⟨rfl, rfl⟩)
          go_round
          case rel => exact ⟨k + 1, by omega, by go_num, by rw [HS.out]⟩
          case measure => simp [intOf]; omega
        · have hke : key.data.toList.take k = key.data.toList := List.take_of_length_le (by simp; omega)
          rw [hke] at hd2
          rw [hke]
          go_wp2
          go_round
          case rel => exact ⟨1, by omega, by go_num, by simp [hAt]⟩
          case measure => simp [intOf]
    · clear hd
      go_wp2
      have hd := hAt_bd key name 1
      go_loop [3, 21] (fun h i => ∃ k : Nat, k ≤ name.size ∧ i = .int .i64 k ∧ h = .int .i64 (hbs (hAt key name 1) (name.data.toList.take k))) (fun _ i => name.size - (intOf i).toNat)
      case atStart => exact ⟨0, Nat.zero_le _, rfl, rfl⟩
      case round =>
        obtain ⟨k, hk', rfl, rfl⟩ := hrel
        have hd2 := hbs_bd (hAt key name 1) (name.data.toList.take k) hd.1 hd.2
        by_cases hlt : k < name.size
        · have HS : Hid (hbs (hAt key name 1) (name.data.toList.take (k + 1)) = hb (hbs (hAt key name 1) (name.data.toList.take k)) name[k]) := by rw [take_snoc name k hlt]; exact hbs_snoc _ _ _
          have hu := name[k].toNat_lt
          have HM : Hid (∀ w, Calls Try.prog 11 #[.int .i64 (hbs (hAt key name 1) (name.data.toList.take k)), .int .i64 (name[k].toNat : Int)] w fun e w' => e = .returned (.int .i64 (hb (hbs (hAt key name 1) (name.data.toList.take k)) name[k])) ∧ w' = w) := fun w => mixed_w _ _ hd2.1 hd2.2 (by omega) (by omega) w
          go_wp2_with (go_at_call 11; refine (HM.out _).mono ?_; rintro e w1 ⟨rfl, rfl⟩)
          go_round
          case rel => exact ⟨k + 1, by omega, by go_num, by rw [HS.out]⟩
          case measure => simp [intOf]; omega
        · have hke : name.data.toList.take k = name.data.toList := List.take_of_length_le (by simp; omega)
          rw [hke] at hd2
          rw [hke]
          go_wp2
          go_round
          case rel => exact ⟨2, by omega, by go_num, by simp [hAt]⟩
          case measure => simp [intOf]
    · go_wp2
      have hlen : zs.length = len := hr.1
      have hmx : len ≤ 9223372036854775807 := by have := hr.len.2; unfold maxLen at this; omega
      clear hr
      go_loop [3, 35] (fun h i => ∃ k : Nat, k ≤ len ∧ i = .int .i64 k ∧ h = .int .i64 (his (hAt key name 2) (zs.take k))) (fun _ i => len - (intOf i).toNat)
      case atStart => exact ⟨0, Nat.zero_le _, rfl, rfl⟩
      case round =>
        obtain ⟨k3, hk3, rfl, rfl⟩ := hrel
        have hd3 := his_bd (hAt key name 2) (zs.take k3) hd.1 hd.2
        by_cases hlt3 : k3 < len
        · have HS : Hid (his (hAt key name 2) (zs.take (k3 + 1)) = hi (his (hAt key name 2) (zs.take k3)) (zs.getD k3 0)) := by rw [takeI_snoc zs k3 (by omega)]; exact his_snoc _ _ _
          obtain ⟨b, off, rfl, h1, h2, hc⟩ := IsRow.at HR.out hlt3
          have HO : Hid (∀ w, Calls Try.prog 12 #[.int .i64 (zs.getD k3 0), .int .i64 9973] w fun e w' => e = .returned (.int .i64 (mdl (zs.getD k3 0))) ∧ w' = w) := fun w => modulo_w _ w
          have HM : Hid (∀ w, Calls Try.prog 11 #[.int .i64 (his (hAt key name 2) (zs.take k3)), .int .i64 (mdl (zs.getD k3 0))] w fun e w' => e = .returned (.int .i64 (hi (his (hAt key name 2) (zs.take k3)) (zs.getD k3 0))) ∧ w' = w) := fun w => by
            have := mixed_w (his (hAt key name 2) (zs.take k3)) (mdl (zs.getD k3 0)) hd3.1 hd3.2 (mdl_bd _).1 (mdl_bd _).2 w
            rw [mdl_eq] at this ⊢
            exact this
          generalize zs.getD k3 0 = z at HS HO HM hc
          go_wp2_with first | (go_at_call 12; refine (HO.out _).mono ?_; rintro e w1 ⟨rfl, rfl⟩) | (go_at_call 11; refine (HM.out _).mono ?_; rintro e w1 ⟨rfl, rfl⟩)
          go_round
          case rel => exact ⟨k3 + 1, by omega, by go_num, by rw [HS.out]⟩
          case measure => simp [intOf]; omega
        · have hke3 : zs.take k3 = zs := List.take_of_length_le (by omega)
          rw [hke3] at hd3
          rw [hke3]
          go_wp2
          go_ret
          exact ⟨rfl, ((Below.refl _ _).alloc (Nat.le_refl _) _).alloc (by simp) _⟩
end Go.Proofs.Ytljmmcagmjnkhaa
