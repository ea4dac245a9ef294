/- Rules as they lie in memory. -/
import Derived.Test.YtkemfifkjaclhaaDoorB1
namespace Go.Proofs.YtkemfifkjaclhaaDoor
set_option linter.unusedVariables false
set_option linter.unusedSimpArgs false
open Go.RowKit Go

/-- A rule of a calendar. -/
structure Rul where
  ev : Int
  at_ : Int
  fr : Int
  to_ : Int
  but : List Int

/-- The cells of a rule. -/
def RulIs (w : World) (vs : List Value) (e : Rul) : Prop :=
  ∃ a l c, vs = [.int .i64 e.ev, .int .i64 e.at_, .int .i64 e.fr, .int .i64 e.to_, .slice a l c] ∧ IsRow .i64 w a l c e.but ∧ (Lit.int .i64 e.ev).wf = true ∧ (Lit.int .i64 e.at_).wf = true ∧ (Lit.int .i64 e.fr).wf = true ∧ (Lit.int .i64 e.to_).wf = true
theorem RulIs.lasts : Lasts RulIs := by
  rintro w w' vs e hb ⟨a, l, c, rfl, h, h2⟩
  exact ⟨a, l, c, rfl, h.below hb, h2⟩
def IsRuls (w : World) (a : Option Addr) (len cap : Nat) (rs : List Rul) : Prop := IsRecs 5 RulIs w a len cap rs
theorem IsRuls.below {w w' : World} {a : Option Addr} {len cap : Nat} {rs : List Rul} (h : IsRuls w a len cap rs) (hb : Below w.heap.size w w') : IsRuls w' a len cap rs := IsRecs.below RulIs.lasts h hb
theorem IsRuls.alloc {w : World} {a : Option Addr} {len cap : Nat} {rs : List Rul} (h : IsRuls w a len cap rs) (o : Obj) : IsRuls (w.alloc o) a len cap rs := IsRecs.alloc RulIs.lasts h o
/-- One rule, by its place: its five cells. -/
theorem IsRuls.at {w : World} {a : Option Addr} {len cap : Nat} {rs : List Rul} (h : IsRuls w a len cap rs) {i : Nat} (hi : i < rs.length) :
    ∃ b off, a = some ⟨b, off, none⟩ ∧ len ≤ cap ∧ b < w.heap.size ∧ ∃ a' l c, w.cell? ⟨b, off + i * 5, none⟩ = some (.int .i64 rs[i].ev) ∧ w.cell? ⟨b, off + i * 5 + 1, none⟩ = some (.int .i64 rs[i].at_) ∧ w.cell? ⟨b, off + i * 5 + 2, none⟩ = some (.int .i64 rs[i].fr) ∧ w.cell? ⟨b, off + i * 5 + 3, none⟩ = some (.int .i64 rs[i].to_) ∧ w.cell? ⟨b, off + i * 5 + 4, none⟩ = some (.slice a' l c) ∧ IsRow .i64 w a' l c rs[i].but ∧ (Lit.int .i64 rs[i].ev).wf = true ∧ (Lit.int .i64 rs[i].at_).wf = true ∧ (Lit.int .i64 rs[i].fr).wf = true ∧ (Lit.int .i64 rs[i].to_).wf = true := by
  obtain ⟨b, off, rfl, h1, h2, vs, hv, hc, a', l, c, rfl, h3⟩ := IsRecs.at h hi
  exact ⟨b, off, rfl, h1, h2, a', l, c, hc 0 (by simp), hc 1 (by simp), hc 2 (by simp), hc 3 (by simp), hc 4 (by simp), h3⟩

theorem info_CalRule : (Tryd.prog.info? 43).map (fun i => (i.zero, i.size, i.bytes)) = some (some (.agg #[.int .i64 0, .int .i64 0, .int .i64 0, .int .i64 0, .slice none 0 0]), 5, 56) := by kernel_rfl
end Go.Proofs.YtkemfifkjaclhaaDoor
