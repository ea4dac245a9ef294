/- RunAnswer of the model: what it answers. -/
import Derived.Test.YtljmmcagmjnkhaaVoc
import Derived.WalkKit
import Derived.WalkSpells
import Derived.WalkLawsBesides
namespace Go.Proofs.Ytljmmcagmjnkhaa
open Go.RowKit

/-- The slice reads, in w, as the numbers zs (of kind k). -/
def IsRow (k : IntKind) (w : World) (a : Option Addr) (len cap : Nat) (zs : List Int) : Prop :=
  zs.length = len ∧ len ≤ cap ∧ cap ≤ maxLen ∧ (0 < len → ∃ b off, a = some ⟨b, off, none⟩ ∧ b < w.heap.size ∧ ∀ i, i < len → w.cell? ⟨b, off + i, none⟩ = some (.int k (zs.getD i 0))) ∧ ∀ n ∈ zs, (Lit.int k n).wf = true
theorem IsRow.len {k : IntKind} {w : World} {a : Option Addr} {len cap : Nat} {zs : List Int} (h : IsRow k w a len cap zs) : zs.length = len ∧ len ≤ maxLen := ⟨h.1, Nat.le_trans h.2.1 h.2.2.1⟩
theorem IsRow.wf {k : IntKind} {w : World} {a : Option Addr} {len cap : Nat} {zs : List Int} (h : IsRow k w a len cap zs) : ∀ n ∈ zs, (Lit.int k n).wf = true := h.2.2.2.2
theorem IsRow.at {k : IntKind} {w : World} {a : Option Addr} {len cap : Nat} {zs : List Int} (h : IsRow k w a len cap zs) {i : Nat} (hi : i < len) : ∃ b off, a = some ⟨b, off, none⟩ ∧ len ≤ cap ∧ b < w.heap.size ∧ w.cell? ⟨b, off + i, none⟩ = some (.int k (zs.getD i 0)) := by
  obtain ⟨b, off, rfl, hb, hc⟩ := h.2.2.2.1 (by omega)
  exact ⟨b, off, rfl, h.2.1, hb, hc i hi⟩
theorem IsRow.below {k : IntKind} {w w' : World} {a : Option Addr} {len cap : Nat} {zs : List Int} (h : IsRow k w a len cap zs) (hb : Below w.heap.size w w') : IsRow k w' a len cap zs := by
  obtain ⟨h1, h2, h3, h4, h5⟩ := h
  refine ⟨h1, h2, h3, fun h => ?_, h5⟩
  obtain ⟨b, off, rfl, hb1, hc⟩ := h4 h
  exact ⟨b, off, rfl, Nat.lt_of_lt_of_le hb1 hb.size, fun i hi => (hb.cell (p := ⟨b, off + i, none⟩) hb1).trans (hc i hi)⟩
theorem IsRow.alloc {k : IntKind} {w : World} {a : Option Addr} {len cap : Nat} {zs : List Int} (h : IsRow k w a len cap zs) (o : Obj) : IsRow k (w.alloc o) a len cap zs := h.below ((Below.refl _ _).alloc (Nat.le_refl _) _)
theorem IsRow.setElse {k : IntKind} {w : World} {B : Nat} {len cap : Nat} {zs : List Int} (h : IsRow k w (some ⟨B, 0, none⟩) len cap zs) {p : Addr} (hp : p.block ≠ B) (u : Value) : IsRow k (w.setCell p u) (some ⟨B, 0, none⟩) len cap zs := by
  obtain ⟨h1, h2, h3, h4, h5⟩ := h
  refine ⟨h1, h2, h3, fun h => ?_, h5⟩
  obtain ⟨b, off, e, hb1, hc⟩ := h4 h
  cases e
  refine ⟨B, 0, rfl, by simpa using hb1, fun i hi => ?_⟩
  rw [← hc i hi]
  exact World.cell?_of_block (w := w) (a := ⟨B, 0 + i, none⟩) (Below.heap_setCell w p u B (fun e => hp e.symm))

theorem getD_at (zs : List Int) (k : Nat) (h : k < zs.length) : zs.getD k 0 = zs[k] := by simp [h]
def hb (h : Int) (c : UInt8) : Int := (31 * h + c.toNat) % 9973
def hbs (h : Int) (l : List UInt8) : Int := l.foldl hb h

theorem hb_bd (h : Int) (c : UInt8) : 0 ≤ hb h c ∧ hb h c < 9973 := by unfold hb; omega
theorem hbs_bd (h : Int) (l : List UInt8) (h0 : 0 ≤ h) (h1 : h < 9973) : 0 ≤ hbs h l ∧ hbs h l < 9973 := by
  induction l generalizing h with
  | nil => exact ⟨h0, h1⟩
  | cons c l ih => exact ih _ (hb_bd h c).1 (hb_bd h c).2
theorem hbs_snoc (h : Int) (l : List UInt8) (c : UInt8) : hbs h (l ++ [c]) = hb (hbs h l) c := by simp [hbs]



def hi (h : Int) (n : Int) : Int := (31 * h + n % 9973) % 9973
def his (h : Int) (l : List Int) : Int := l.foldl hi h
theorem hi_bd (h n : Int) : 0 ≤ hi h n ∧ hi h n < 9973 := by unfold hi; omega
theorem his_bd (h : Int) (l : List Int) (h0 : 0 ≤ h) (h1 : h < 9973) : 0 ≤ his h l ∧ his h l < 9973 := by
  induction l generalizing h with
  | nil => exact ⟨h0, h1⟩
  | cons c l ih => exact ih _ (hi_bd h c).1 (hi_bd h c).2
theorem his_snoc (h : Int) (l : List Int) (c : Int) : his h (l ++ [c]) = hi (his h l) c := by simp [his]
theorem takeI_snoc (s : List Int) (k : Nat) (h : k < s.length) : s.take (k + 1) = s.take k ++ [s.getD k 0] := by
  rw [List.take_succ_eq_append_getElem h]; simp [h]
theorem hi_eq (h n : Int) (h0 : 0 ≤ h) (h1 : h < 9973) : (31 * h + n.tmod 9973 + 9973).tmod 9973 = hi h n := by
  unfold hi
  have : -9973 < n.tmod 9973 := Int.lt_tmod_of_pos n (by omega)
  rw [Int.tmod_eq_emod_of_nonneg (by omega)]
  have e : n.tmod 9973 = n % 9973 ∨ n.tmod 9973 = n % 9973 - 9973 := by
    rw [Int.tmod_eq_emod]; split <;> simp <;> omega
  rcases e with e | e <;> rw [e] <;> omega
def ans (key name : List UInt8) (args : List Int) : Int := his (hbs (hbs 7 key) name) args % 7 - 2


theorem wrap64_byte' (c : UInt8) : wrap64 (c.toNat : Int) = c.toNat := by
  have := c.toNat_lt; unfold wrap64; omega
theorem hb_walk (h : Int) (c : UInt8) (h0 : 0 ≤ h) (h1 : h < 9973) : (wrap64 (31 * h + wrap64 (c.toNat : Int))).tmod 9973 = hb h c := by
  have := c.toNat_lt
  rw [wrap64_byte', wrap64_id _ (by omega) (by omega), Int.tmod_eq_emod_of_nonneg (by omega)]; rfl

theorem hi_walk (h n : Int) (h0 : 0 ≤ h) (h1 : h < 9973) : Value.int IntKind.i64 ((wrap64 (wrap64 (31 * h + n.tmod 9973) + 9973)).tmod 9973) = .int .i64 (hi h n) := by
  have h2 : -9973 < n.tmod 9973 := Int.lt_tmod_of_pos n (by omega)
  have h3 : n.tmod 9973 < 9973 := Int.tmod_lt_of_pos n (by omega)
  rw [wrap64_id (31 * h + n.tmod 9973) (by omega) (by omega), wrap64_id _ (by omega) (by omega), hi_eq h n h0 h1]

set_option maxHeartbeats 400000 in
theorem specAnswer (id : Int) (key name : ByteArray) (a : Option Addr) (len cap : Nat) (zs : List Int) (w : World) (hk : key.size ≤ maxLen) (hn : name.size ≤ maxLen) (hr : IsRow .i64 w a len cap zs) :
    Calls Try.prog 5 #[.agg #[.int .i64 id, .string key, .string name, .slice a len cap]] w fun e w' => e = .returned (.int .i64 (ans key.data.toList name.data.toList zs)) ∧ Below w.heap.size w w' := by
  unfold maxLen at hk hn
  have HR : Hid (IsRow .i64 w a len cap zs) := hr
  go_enter Try.func5, Try.ntmps5
  go_wp2
  go_loop [3, 4] (fun h i => ∃ k : Nat, k ≤ key.size ∧ i = .int .i64 k ∧ h = .int .i64 (hbs 7 (key.data.toList.take k))) (fun _ i => key.size - (intOf i).toNat)
  case atStart => exact ⟨0, Nat.zero_le _, rfl, rfl⟩
  case round =>
    obtain ⟨k, hk, rfl, rfl⟩ := hrel
    have hd := hbs_bd 7 (key.data.toList.take k) (by omega) (by omega)
    by_cases hlt : k < key.size
    · have HS : Hid (hbs 7 (key.data.toList.take (k + 1)) = hb (hbs 7 (key.data.toList.take k)) key[k]) := by rw [take_snoc key k hlt]; exact hbs_snoc _ _ _
      go_wp2
      go_round
      case rel => exact ⟨k + 1, by omega, by go_num, by rw [HS.out, hb_walk _ _ hd.1 hd.2]⟩
      case measure => simp [intOf]; omega
    · have hke : key.data.toList.take k = key.data.toList := List.take_of_length_le (by simp; omega)
      rw [hke] at hd
      rw [hke]
      go_wp2
      go_loop [3, 5] (fun h i => ∃ k : Nat, k ≤ name.size ∧ i = .int .i64 k ∧ h = .int .i64 (hbs (hbs 7 key.data.toList) (name.data.toList.take k))) (fun _ i => name.size - (intOf i).toNat)
      case atStart => exact ⟨0, Nat.zero_le _, rfl, rfl⟩
      case round =>
        obtain ⟨k2, hk2, rfl, rfl⟩ := hrel
        have hd2 := hbs_bd (hbs 7 key.data.toList) (name.data.toList.take k2) hd.1 hd.2
        by_cases hlt2 : k2 < name.size
        · have HS : Hid (hbs (hbs 7 key.data.toList) (name.data.toList.take (k2 + 1)) = hb (hbs (hbs 7 key.data.toList) (name.data.toList.take k2)) name[k2]) := by rw [take_snoc name k2 hlt2]; exact hbs_snoc _ _ _
          go_wp2
          go_round
          case rel => exact ⟨k2 + 1, by omega, by go_num, by rw [HS.out, hb_walk _ _ hd2.1 hd2.2]⟩
          case measure => simp [intOf]; omega
        · have hke2 : name.data.toList.take k2 = name.data.toList := List.take_of_length_le (by simp; omega)
          rw [hke2] at hd2
          rw [hke2]
          go_wp2
          have hlen : zs.length = len := hr.1
          have hmx : len ≤ 9223372036854775807 := by have := hr.len.2; unfold maxLen at this; omega
          clear hr
          go_loop [3, 6] (fun h i => ∃ k : Nat, k ≤ len ∧ i = .int .i64 k ∧ h = .int .i64 (his (hbs (hbs 7 key.data.toList) name.data.toList) (zs.take k))) (fun _ i => len - (intOf i).toNat)
          case atStart => exact ⟨0, Nat.zero_le _, rfl, rfl⟩
          case round =>
            obtain ⟨k3, hk3, rfl, rfl⟩ := hrel
            have hd3 := his_bd (hbs (hbs 7 key.data.toList) name.data.toList) (zs.take k3) hd2.1 hd2.2
            by_cases hlt3 : k3 < len
            · have HS : Hid (his (hbs (hbs 7 key.data.toList) name.data.toList) (zs.take (k3 + 1)) = hi (his (hbs (hbs 7 key.data.toList) name.data.toList) (zs.take k3)) (zs.getD k3 0)) := by rw [takeI_snoc zs k3 (by omega)]; exact his_snoc _ _ _
              obtain ⟨b, off, rfl, h1, h2, hc⟩ := IsRow.at HR.out hlt3
              go_wp2
              go_round
              case rel => exact ⟨k3 + 1, by omega, by go_num, by rw [HS.out, getD_at zs k3 (by omega)]; exact hi_walk _ _ hd3.1 hd3.2⟩
              case measure => simp [intOf]; omega
            · have hke3 : zs.take k3 = zs := List.take_of_length_le (by omega)
              rw [hke3] at hd3
              rw [hke3]
              go_wp2
              go_ret
              exact ⟨rfl, (Below.refl _ _).alloc (Nat.le_refl _) _⟩
end Go.Proofs.Ytljmmcagmjnkhaa
