/- The law of RunAnswer: what the program answers is what the model answers, and what was handed in reads as it did. -/
import Derived.Test.YtljmmcagmjnkhaaRA4
namespace Go.Proofs.Ytljmmcagmjnkhaa
open Go.RowKit Go

set_option maxHeartbeats 800000 in
theorem lawAnswer (id : Int) (key name : ByteArray) (a : Option Addr) (len cap : Nat) (zs : List Int) (w : World) (hk : key.size ≤ maxLen) (hn : name.size ≤ maxLen) (hr : IsRow .i64 w a len cap zs)
    (hi : ∀ b w, IsRow .i64 w (some ⟨b, 0, none⟩) len len zs → Calls Try.prog 7 #[.agg #[.int .i64 id, .string key, .string name, .slice (some ⟨b, 0, none⟩) len len]] w fun e w' => e = .returned (.int .i64 (ans key.data.toList name.data.toList zs)) ∧ Below w.heap.size w w') :
    Calls Try.prog 3 #[.agg #[.int .i64 id, .string key, .string name, .slice a len cap]] w fun e w' => e = .returned (.bool true) ∧ Below w.heap.size w w' := by
  have HSZ : Hid (∀ w, Calls Try.prog 4 #[.agg #[.int .i64 id, .string key, .string name, .slice a len cap], .int .i64 1048576] w fun e w' => (∃ r : Int, e = .returned (.int .i64 r) ∧ -1 ≤ r ∧ r ≤ 1048576 ∧ (0 ≤ r → key.size + name.size + len ≤ 1048576)) ∧ Below w.heap.size w w') :=
    fun w => szRunAsk id key name a len cap 1048576 (by omega) hk hn (by have := hr.len.2; unfold maxLen at this; omega) w
  have HTO : Hid (∀ w, IsRow .i64 w a len cap zs → len ≤ 1048576 → Calls Try.prog 6 #[.agg #[.int .i64 id, .string key, .string name, .slice a len cap]] w fun e w' => (∃ b, e = .returned (.agg #[.int .i64 id, .string key, .string name, .slice (some ⟨b, 0, none⟩) len len]) ∧ IsRow .i64 w' (some ⟨b, 0, none⟩) len len zs) ∧ Below w.heap.size w w') :=
    fun w h1 h2 => toRunAsk id key name a len cap zs w h1 h2
  have HS : Hid (∀ b w, IsRow .i64 w (some ⟨b, 0, none⟩) len len zs → Calls Try.prog 5 #[.agg #[.int .i64 id, .string key, .string name, .slice (some ⟨b, 0, none⟩) len len]] w fun e w' => e = .returned (.int .i64 (ans key.data.toList name.data.toList zs)) ∧ Below w.heap.size w w') :=
    fun b w h => specAnswer id key name _ len len zs w hk hn h
  have HI : Hid (∀ b w, IsRow .i64 w (some ⟨b, 0, none⟩) len len zs → Calls Try.prog 7 #[.agg #[.int .i64 id, .string key, .string name, .slice (some ⟨b, 0, none⟩) len len]] w fun e w' => e = .returned (.int .i64 (ans key.data.toList name.data.toList zs)) ∧ Below w.heap.size w w') := hi
  clear hi
  have HQ : Hid (∀ b b2 w, IsRow .i64 w (some ⟨b, 0, none⟩) len len zs → IsRow .i64 w (some ⟨b2, 0, none⟩) len len zs → Calls Try.prog 8 #[.agg #[.int .i64 id, .string key, .string name, .slice (some ⟨b, 0, none⟩) len len], .agg #[.int .i64 id, .string key, .string name, .slice (some ⟨b2, 0, none⟩) len len]] w fun e w' => e = .returned (.bool true) ∧ Below w.heap.size w w') :=
    fun b b2 w h1 h2 => eqRunAsk id key name _ _ len len len zs w h1 h2
  have HR : Hid (IsRow .i64 w a len cap zs) := hr
  clear hr hk hn
  generalize ans key.data.toList name.data.toList zs = v at HS HI
  go_enter Try.func3, Try.ntmps3
  go_wp2_with fail
  refine (HSZ.out _).mono ?_
  rintro e w1 ⟨⟨r, rfl, hr1, hr2, hr3⟩, hb1⟩
  have hA : Below w.heap.size w (w.alloc (.cells #[.int .i64 id, .string key, .string name, .slice a len cap] 24)) := (Below.refl _ _).alloc (Nat.le_refl _) _
  have HA : Hid _ := hA
  clear hA
  by_cases h0 : r < 0
  · go_wp2_with fail
    go_ret
    exact ⟨rfl, bcall HA.out (by simp) hb1⟩
  · have hlen : len ≤ 1048576 := by have := hr3 (by omega); omega
    clear hr3
    obtain ⟨hcx, hfx⟩ := bcell hb1
    go_wp2_with fail
    refine (HTO.out _ (by exact (IsRow.alloc HR.out _).below hb1) hlen).mono ?_
    rintro e w2 ⟨⟨b2, rfl, hn2⟩, hb2⟩
    replace hb2 := bcall hb1 hb1.size hb2
    clear hcx hfx
    obtain ⟨hcx, hfx⟩ := bcell hb2
    go_wp2_with fail
    refine (HS.out _ _ hn2).mono ?_
    rintro e w3 ⟨rfl, hb3⟩
    replace hb3 := bcall hb2 hb2.size hb3
    clear hcx hfx hn2
    obtain ⟨hcx, hfx⟩ := bcell hb3
    go_wp2_with fail
    refine (HTO.out _ (by exact (IsRow.alloc HR.out _).below hb3) hlen).mono ?_
    rintro e w4 ⟨⟨b4, rfl, hn4⟩, hb4⟩
    replace hb4 := bcall hb3 hb3.size hb4
    clear hcx hfx
    obtain ⟨hcx, hfx⟩ := bcell hb4
    go_wp2_with fail
    have hlt : w.heap.size < w4.heap.size := by have := hb4.size; simp at this; omega
    have hne : w.heap.size ≠ w4.heap.size := by omega
    refine (HI.out _ _ (by exact hn4.alloc _)).mono ?_
    rintro e w5 ⟨rfl, hb5⟩
    obtain ⟨hcx5, hfx5⟩ := bcell hb5
    go_wp2_with fail
    have hlt5 : w4.heap.size < w5.heap.size := by have := hb5.size; simp at this; omega
    have hlt6 : w.heap.size < w5.heap.size := by omega
    have HR5 : Hid (IsRow .i64 w5.drew a len cap zs) := ((((IsRow.alloc HR.out _).below hb4).alloc _).below hb5).below (Below.refl _ _).drew
    have HN5 : Hid (IsRow .i64 w5.drew (some ⟨b4, 0, none⟩) len len zs) := ((hn4.alloc _).below hb5).below (Below.refl _ _).drew
    have k0 : w5.cell? ⟨w4.heap.size, 0, none⟩ = some (.int .i64 id) := by rw [hcx5 _ _ (by simp)]; simp [go_sem]
    have k1 : w5.cell? ⟨w4.heap.size, 1, none⟩ = some (.string key) := by rw [hcx5 _ _ (by simp)]; simp [go_sem]
    have k2 : w5.cell? ⟨w4.heap.size, 2, none⟩ = some (.string name) := by rw [hcx5 _ _ (by simp)]; simp [go_sem]
    have k3 : w5.cell? ⟨w4.heap.size, 3, none⟩ = some (.slice (some ⟨b4, 0, none⟩) len len) := by rw [hcx5 _ _ (by simp)]; simp [go_sem]
    have hA4 : Below (w.heap.size + 1) (w.alloc (.cells #[.int .i64 id, .string key, .string name, .slice a len cap] 24)) w5 := by
      have := bcall (hb4.alloc hb4.size _) (by simp at hb5 ⊢; have := hb4.size; simp at this; omega) hb5
      simpa using this
    have j0 : w5.cell? ⟨w.heap.size, 0, none⟩ = some (.int .i64 id) := by rw [hA4.cell (by simp)]; simp [go_sem]
    have j1 : w5.cell? ⟨w.heap.size, 1, none⟩ = some (.string key) := by rw [hA4.cell (by simp)]; simp [go_sem]
    have j2 : w5.cell? ⟨w.heap.size, 2, none⟩ = some (.string name) := by rw [hA4.cell (by simp)]; simp [go_sem]
    have j3 : w5.cell? ⟨w.heap.size, 3, none⟩ = some (.slice a len cap) := by rw [hA4.cell (by simp)]; simp [go_sem]
    clear hcx hfx hcx5 hfx5
    go_region_with (first
      | (go_at_call 6; refine (HTO.out _ HR5.out hlen).mono ?_; rintro e w6 ⟨⟨b6, rfl, hn6⟩, hb6⟩; have i0 := (hb6.cell (p := ⟨w4.heap.size, 0, none⟩) hlt5).trans k0; have i1 := (hb6.cell (p := ⟨w4.heap.size, 1, none⟩) hlt5).trans k1; have i2 := (hb6.cell (p := ⟨w4.heap.size, 2, none⟩) hlt5).trans k2; have i3 := (hb6.cell (p := ⟨w4.heap.size, 3, none⟩) hlt5).trans k3)
      | (go_at_call 8; refine (HQ.out _ _ _ (by exact (IsRow.below HN5.out hb6)) hn6).mono ?_; rintro e w7 ⟨rfl, hb7⟩))
    all_goals
      go_wp2_with fail
      go_ret
      exact ⟨rfl, bcall (bcall ((bcall HA.out (by simp) hb4).alloc (by omega) _) (by simp; omega) hb5).drew (by simp; omega) (bcall hb6 hb6.size hb7)⟩
end Go.Proofs.Ytljmmcagmjnkhaa
