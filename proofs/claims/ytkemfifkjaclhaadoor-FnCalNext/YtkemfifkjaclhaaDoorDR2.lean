/- The reader of drawn inputs: its opening; a drawn tick. -/
import Derived.Test.YtkemfifkjaclhaaDoorDR1
namespace Go.Proofs.YtkemfifkjaclhaaDoor
set_option linter.unusedVariables false
set_option linter.unusedSimpArgs false
open Go.RowKit Go
namespace Dr

theorem Keeps.cell {R : Nat} {w w' : World} (h : Keeps R w w') {b o : Nat} (hb : b < w.heap.size) (hne : b ≠ R) : w'.cell? ⟨b, o, none⟩ = w.cell? ⟨b, o, none⟩ := World.cell?_of_block (a := ⟨b, o, none⟩) (h.block b hb hne)
theorem Keeps.holds {R : Nat} {w w' : World} (h : Keeps R w w') {b : Nat} {t : TypeId} {cur : Array Value} (hh : Holds w b t cur) (hne : b ≠ R) : Holds w' b t cur := by
  have := h.block b hh.lt hne
  unfold Holds at hh ⊢
  rw [this]; exact hh
theorem Rd.lt {w : World} {R : Nat} {a : Option Addr} {len cap : Nat} {bs : List Int} {p : Int} (h : Rd w R a len cap bs p) : R < w.heap.size := h.own.lt
theorem Rd.below {w w' : World} {R : Nat} {a : Option Addr} {len cap : Nat} {bs : List Int} {p : Int} (h : Rd w R a len cap bs p) (hb : Below w.heap.size w w') : Rd w' R a len cap bs p :=
  ⟨h.own.below hb, h.row.below hb, h.low, h.few, h.far⟩
theorem Rd.alloc {w : World} {R : Nat} {a : Option Addr} {len cap : Nat} {bs : List Int} {p : Int} (h : Rd w R a len cap bs p) (o : Obj) : Rd (w.alloc o) R a len cap bs p := h.below ((Below.refl _ _).alloc (Nat.le_refl _) _)
theorem Rd.set {w : World} {R : Nat} {a : Option Addr} {len cap : Nat} {bs : List Int} {p : Int} (h : Rd w R a len cap bs p) {b o : Nat} (hb : R < b) (v : Value) : Rd (w.setCell ⟨b, o, none⟩ v) R a len cap bs p := by
  have hk : ∀ k, k ≠ b → (w.setCell ⟨b, o, none⟩ v).heap[k]? = w.heap[k]? := fun k hk => Below.heap_setCell w ⟨b, o, none⟩ v k hk
  refine ⟨?_, ?_, h.low, h.few, h.far⟩
  · have := h.own
    unfold Holds at this ⊢
    rw [hk R (by omega)]; exact this
  · obtain ⟨h1, h2, h3, h4, h5⟩ := h.row
    refine ⟨h1, h2, h3, fun hl => ?_, h5⟩
    obtain ⟨b', off, rfl, hb1, hc⟩ := h4 hl
    refine ⟨b', off, rfl, by simpa using hb1, fun i hi => ?_⟩
    rw [← hc i hi]
    exact World.cell?_of_block (a := ⟨b', off + i, none⟩) (hk b' (by have := h.low hl b' off rfl; omega))

theorem row_cut {w : World} {a : Option Addr} {len cap : Nat} {bs : List Int} (h : IsRow .u8 w a len cap bs) (n : Nat) (hn : n ≤ len) : IsRow .u8 w a n cap (bs.take n) := by
  obtain ⟨h1, h2, h3, h4, h5⟩ := h
  refine ⟨by simp; omega, by omega, h3, fun hl => ?_, fun x hx => h5 x (List.mem_of_mem_take hx)⟩
  obtain ⟨b, off, rfl, hb1, hc⟩ := h4 (by omega)
  refine ⟨b, off, rfl, hb1, fun i hi => ?_⟩
  have := hc i (by omega)
  rw [this, getD_at bs i (by omega), getD_at _ i (by simp; omega), List.getElem_take]

set_option maxHeartbeats 1000000 in
theorem l1Open (a : Option Addr) (len cap : Nat) (bs : List Int) (w : World) (h : IsRow .u8 w a len cap bs) :
    Calls Tryd.prog 16 #[.slice a len cap] w fun e w' => e = .returned (.pointer (some ⟨w.heap.size, 0, none⟩)) ∧ (∃ len' bs', Rd w' w.heap.size a len' cap bs' 0) ∧ Below w.heap.size w w' := by
  have HR : Hid (IsRow .u8 w a len cap bs) := h
  have HA : Hid (0 < len → ∀ b off, a = some ⟨b, off, none⟩ → b < w.heap.size) := fun hl b off e => by
    obtain ⟨b', off', e', _, h2, _⟩ := IsRow.at h (i := 0) hl
    rw [e] at e'
    simp only [Option.some.injEq, Addr.mk.injEq, and_true] at e'
    omega
  have hcap : len ≤ cap := h.2.1
  have hmx : cap ≤ 9223372036854775807 := by have := h.2.2.1; unfold maxLen at this; exact this
  clear h
  by_cases hl : 2000 < len
  · obtain ⟨b, off, rfl, h1, h2, hc⟩ := IsRow.at HR.out (i := 0) (by omega)
    clear hc
    have hd : decide ((2000 : Int) < (len : Int)) = true := decide_eq_true (by omega)
    go_enter Tryd.func16, Tryd.ntmps16
    go_wp2_with fail
    go_ret
    refine ⟨rfl, ⟨2000, bs.take 2000, ?_, ?_, fun hl => HA.out (by omega), Nat.le_refl _, by omega⟩, (Below.refl _ _).alloc (Nat.le_refl _) _⟩
    · exact heap_alloc_new _ _
    · exact (row_cut HR.out 2000 (by omega)).alloc _
  · have hd : decide ((2000 : Int) < (len : Int)) = false := decide_eq_false (by omega)
    go_enter Tryd.func16, Tryd.ntmps16
    go_wp2_with fail
    go_ret
    refine ⟨rfl, ⟨len, bs, ?_, ?_, HA.out, by omega, by omega⟩, (Below.refl _ _).alloc (Nat.le_refl _) _⟩
    · exact heap_alloc_new _ _
    · exact HR.out.alloc _

/-- What l43Tick may draw. -/
def tickL (x y z : Int) : List Int := [x, y, z, -1, -2, 100000, 100001, 1099511627776, -1099511627776]
set_option maxRecDepth 4000 in
set_option maxHeartbeats 2000000 in
theorem l43Tick (R : Nat) (a : Option Addr) (len cap : Nat) (bs : List Int) (p : Int) (w : World) (h : Rd w R a len cap bs p) (hp : p ≤ 999999990) :
    Calls Tryd.prog 18 #[.pointer (some ⟨R, 0, none⟩)] w fun e w' => (∃ t : Int, e = .returned (.int .i64 t) ∧ -1099511627776 ≤ t ∧ t ≤ 1099511627776) ∧ Rd w' R a len cap bs (p + 4) ∧ Keeps R w w' := by
  have HP : Hid (∀ (p n : Int) (w : World), Rd w R a len cap bs p → p ≤ 999999999 → n ≤ 1000000000 → Calls Tryd.prog 25 #[.pointer (some ⟨R, 0, none⟩), .int .i64 n] w fun e w' => (∃ v : Int, e = .returned (.int .i64 v) ∧ Picked n v) ∧ Rd w' R a len cap bs (p + 1) ∧ Keeps R w w') := fun p n w h1 h2 h3 => pick R a len cap bs p n w h1 h2 h3
  have hlt := h.lt
  have H0 : Hid _ := h
  clear h
  go_enter Tryd.func18, Tryd.ntmps18
  go_wp2_with fail
  refine (HP.out p 60 _ H0.out (by omega) (by omega)).mono ?_
  rintro e w1 ⟨⟨x, rfl, hx1, hx2, _⟩, hr1, hk1⟩
  have hx2 := hx2 (by omega)
  have H1 : Hid _ := hr1
  have K1 : Hid _ := hk1
  clear hr1 hk1
  go_wp2_with fail
  refine (HP.out (p + 1) 200 _ H1.out (by omega) (by omega)).mono ?_
  rintro e w2 ⟨⟨y, rfl, hy1, hy2, _⟩, hr2, hk2⟩
  have hy2 := hy2 (by omega)
  have H2 : Hid _ := hr2
  have K2 : Hid _ := K1.out.trans hk2
  clear hr2 hk2
  go_wp2_with fail
  refine (HP.out (p + 1 + 1) 60 _ H2.out (by omega) (by omega)).mono ?_
  rintro e w3 ⟨⟨z, rfl, hz1, hz2, _⟩, hr3, hk3⟩
  have hz2 := hz2 (by omega)
  have H3 : Hid _ := hr3
  have K3 : Hid (Keeps R w w3) := K2.out.trans hk3
  clear hr3 hk3
  go_wp2_with fail
  refine (HP.out (p + 1 + 1 + 1) 9 _ (H3.out.alloc _) (by omega) (by omega)).mono ?_
  rintro e w4 ⟨⟨v, rfl, hv1, hv2, _⟩, hr4, hk4⟩
  have hv2 := hv2 (by omega)
  have hlt3 := H3.out.lt
  obtain ⟨k, rfl⟩ : ∃ k : Nat, v = (k : Int) := ⟨v.toNat, by omega⟩
  have hcell : w4.cell? ⟨w3.heap.size, k, none⟩ = some (.int .i64 ((tickL x y z).getD k 0)) := by
    rw [hk4.cell (by simp) (by omega), World.cell?_alloc_new]
    rcases (by omega : k = 0 ∨ k = 1 ∨ k = 2 ∨ k = 3 ∨ k = 4 ∨ k = 5 ∨ k = 6 ∨ k = 7 ∨ k = 8) with rfl | rfl | rfl | rfl | rfl | rfl | rfl | rfl | rfl <;> rfl
  have hbd : -1099511627776 ≤ (tickL x y z).getD k 0 ∧ (tickL x y z).getD k 0 ≤ 1099511627776 := by
    rcases (by omega : k = 0 ∨ k = 1 ∨ k = 2 ∨ k = 3 ∨ k = 4 ∨ k = 5 ∨ k = 6 ∨ k = 7 ∨ k = 8) with rfl | rfl | rfl | rfl | rfl | rfl | rfl | rfl | rfl <;> simp [tickL] <;> omega
  have H4 : Hid _ := hr4
  have K4 : Hid (Keeps R w w4) := (K3.out.trans (Keeps.of_below ((Below.refl _ _).alloc (Nat.le_refl _) _))).trans hk4
  clear hr4 hk4
  generalize (tickL x y z).getD k 0 = t at hcell hbd
  go_wp2_with fail
  go_ret
  exact ⟨⟨t, rfl, hbd.1, hbd.2⟩, by have := H4.out; rw [show p + 1 + 1 + 1 + 1 = p + 4 by omega] at this; exact this, K4.out⟩
end Dr
end Go.Proofs.YtkemfifkjaclhaaDoor
