/- Plans as they lie in memory. -/
import Derived.Test.YtnieaeakaajleaaDoorCR0
namespace Go.Proofs.YtnieaeakaajleaaDoor
set_option linter.unusedVariables false
set_option linter.unusedSimpArgs false
open Go.RowKit Go

/-- What became of a time. -/
structure Tld where
  tk : Int
  wh : Int
def TldIs (w : World) (vs : List Value) (e : Tld) : Prop :=
  vs = [.int .i64 e.tk, .int .i64 e.wh] ∧ (Lit.int .i64 e.tk).wf = true ∧ (Lit.int .i64 e.wh).wf = true
theorem TldIs.lasts : Lasts TldIs := fun _ _ _ _ _ h => h
def IsTlds (w : World) (a : Option Addr) (len cap : Nat) (ts : List Tld) : Prop := IsRecs 2 TldIs w a len cap ts
theorem IsTlds.below {w w' : World} {a : Option Addr} {len cap : Nat} {ts : List Tld} (h : IsTlds w a len cap ts) (hb : Below w.heap.size w w') : IsTlds w' a len cap ts := IsRecs.below TldIs.lasts h hb
theorem IsTlds.alloc {w : World} {a : Option Addr} {len cap : Nat} {ts : List Tld} (h : IsTlds w a len cap ts) (o : Obj) : IsTlds (w.alloc o) a len cap ts := IsRecs.alloc TldIs.lasts h o
theorem IsTlds.at {w : World} {a : Option Addr} {len cap : Nat} {ts : List Tld} (h : IsTlds w a len cap ts) {i : Nat} (hi : i < ts.length) :
    ∃ b off, a = some ⟨b, off, none⟩ ∧ len ≤ cap ∧ b < w.heap.size ∧ w.cell? ⟨b, off + i * 2, none⟩ = some (.int .i64 ts[i].tk) ∧ w.cell? ⟨b, off + i * 2 + 1, none⟩ = some (.int .i64 ts[i].wh) ∧ (Lit.int .i64 ts[i].tk).wf = true ∧ (Lit.int .i64 ts[i].wh).wf = true := by
  obtain ⟨b, off, rfl, h1, h2, vs, hv, hc, rfl, h3⟩ := IsRecs.at h hi
  exact ⟨b, off, rfl, h1, h2, hc 0 (by simp), hc 1 (by simp), h3⟩

theorem info_PlanTold : (Tryd.prog.info? 62).map (fun i => (i.zero, i.size, i.bytes)) = some (some (.agg #[.int .i64 0, .int .i64 0]), 2, 16) := by kernel_rfl

/-- A plan. -/
structure Pla where
  rs : List Rul
  pol : Int
  win : Int
  last : Int
  goes : List Int
  waits : List Int
  told : List Tld
/-- What a plan's four lists read as. -/
def IsPla (w : World) (ra : Option Addr) (rl rc : Nat) (ga : Option Addr) (gl gc : Nat) (wa : Option Addr) (wl wc : Nat) (ta : Option Addr) (tl tc : Nat) (p : Pla) : Prop :=
  IsRuls w ra rl rc p.rs ∧ IsRow .i64 w ga gl gc p.goes ∧ IsRow .i64 w wa wl wc p.waits ∧ IsTlds w ta tl tc p.told
theorem IsPla.below {w w' : World} {ra : Option Addr} {rl rc : Nat} {ga : Option Addr} {gl gc : Nat} {wa : Option Addr} {wl wc : Nat} {ta : Option Addr} {tl tc : Nat} {p : Pla} (h : IsPla w ra rl rc ga gl gc wa wl wc ta tl tc p) (hb : Below w.heap.size w w') : IsPla w' ra rl rc ga gl gc wa wl wc ta tl tc p :=
  ⟨h.1.below hb, h.2.1.below hb, h.2.2.1.below hb, h.2.2.2.below hb⟩
theorem IsPla.alloc {w : World} {ra : Option Addr} {rl rc : Nat} {ga : Option Addr} {gl gc : Nat} {wa : Option Addr} {wl wc : Nat} {ta : Option Addr} {tl tc : Nat} {p : Pla} (h : IsPla w ra rl rc ga gl gc wa wl wc ta tl tc p) (o : Obj) : IsPla (w.alloc o) ra rl rc ga gl gc wa wl wc ta tl tc p := h.below ((Below.refl _ _).alloc (Nat.le_refl _) _)
/-- A record in a block of its own: its cells behind what was called. -/
theorem boxAt {w w' : World} {cs : Array Value} {t : TypeId} (hb : Below (w.heap.size + 1) (w.alloc (.cells cs t)) w') {i : Nat} {v : Value} (h : cs[i]? = some v) : w'.cell? ⟨w.heap.size, i, none⟩ = some v :=
  (hb.cell (p := ⟨w.heap.size, i, none⟩) (Nat.lt_succ_self _)).trans (by rw [World.cell?_alloc_new]; exact h)
theorem below_box {w w' : World} {o : Obj} (hb : Below (w.alloc o).heap.size (w.alloc o) w') : Below (w.heap.size + 1) (w.alloc o) w' := by simpa using hb
/-- Two records in blocks of their own. -/
theorem boxAt2 {w W : World} {cs cs2 : Array Value} {t t2 : TypeId} (h : Below (w.heap.size + 1 + 1) ((w.alloc (.cells cs t)).alloc (.cells cs2 t2)) W) :
    (∀ i v, cs[i]? = some v → W.cell? ⟨w.heap.size, i, none⟩ = some v) ∧ (∀ i v, cs2[i]? = some v → W.cell? ⟨w.heap.size + 1, i, none⟩ = some v) ∧ Below w.heap.size w W := by
  refine ⟨fun i v e => ?_, fun i v e => ?_, (((Below.refl _ _).alloc (Nat.le_refl _) _).alloc (by simp) _).trans (h.mono (by omega))⟩
  · rw [h.cell (p := ⟨w.heap.size, i, none⟩) (by simp only; omega), World.cell?_alloc_lt _ _ _ (by simp), World.cell?_alloc_new]; exact e
  · rw [h.cell (p := ⟨w.heap.size + 1, i, none⟩) (by simp only; omega), show w.heap.size + 1 = (w.alloc (.cells cs t)).heap.size by simp, World.cell?_alloc_new]; exact e
/-- Small enough. -/
def plaSmall (p : Pla) : Prop := p.rs.length ≤ 1048576 ∧ (∀ i (h : i < p.rs.length), p.rs[i].but.length ≤ 1048576) ∧ p.goes.length ≤ 1048576 ∧ p.waits.length ≤ 1048576 ∧ p.told.length ≤ 1048576
end Go.Proofs.YtnieaeakaajleaaDoor
