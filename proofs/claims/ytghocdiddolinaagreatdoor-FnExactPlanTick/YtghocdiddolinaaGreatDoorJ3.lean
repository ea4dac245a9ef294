/- Plans that are handed in, read. -/
import Derived.Test.YtghocdiddolinaaGreatDoorProg
import Derived.WalkKit
import Derived.LaidEql
import Derived.Stop.Asserts
import Derived.RowKitTokens
import Derived.Test.YtghocdiddolinaaGreatDoorRows
import Derived.Lay
import Derived.LaidHandle
import Derived.LaidMore
import Derived.LaidOnce
import Derived.Test.YtghocdiddolinaaGreatDoorJ2
namespace Go.Proofs.YtghocdiddolinaaGreatDoor
set_option linter.unusedVariables false
set_option linter.unusedSimpArgs false
open Go.RowKit Go.Extern.Stop Go.Stop Go.Extern Go

/-- The library's variable for the type of errors stands as its text lays it. -/
def ErrT (w : World) : Prop := w.cell? ⟨0, 0, none⟩ = some (.iface 150 (.agg #[.pointer (some ⟨1, 124, none⟩)]))
theorem ErrT.below {w w' : World} (h : ErrT w) (hb : Below w.heap.size w w') : ErrT w' := by
  unfold ErrT at *
  rw [hb.cell (World.block_lt_of_cell? _ _ h)]; exact h

theorem as_nil (t : Value) (w : World) :
    Calls Tryz.prog 86 #[.nilIface, t] w fun e w' => e = .returned (.bool false) ∧ w' = w := by
  go_enter Tryz.func86, Tryz.ntmps86
  go_wp2
  go_ret
  exact ⟨rfl, rfl⟩

theorem as_valueOfP (t : Addr) (w : World) : (ReflectliteValue.unpack (.iface 126 (.pointer (some t)))).run Tryz.prog w
    = .ok (.agg #[.pointer (some ⟨1, 126, none⟩), .pointer (some ⟨w.heap.size, 0, none⟩), .int .u64 150]) (w.alloc (.cells #[.pointer (some t)] 126)) := by kernel_rfl
theorem as_typeP (a : Addr) (w : World) : (ReflectliteValue.methodAny (ReflectliteValue.valueError "reflectlite.Value.Type" 0) (fun t _ _ _ => ReflectliteType.toType t) #[.agg #[.pointer (some ⟨1, 126, none⟩), .pointer (some a), .int .u64 150]]).run Tryz.prog w
    = .ok (.iface 150 (.agg #[.pointer (some ⟨1, 126, none⟩)])) w := by kernel_rfl
theorem as_methodKind (h : Value) (w : World) : (Go.method 294 150 (.agg #[h]) "Kind").run Tryz.prog w = .ok (124, h) w := by kernel_rfl
theorem as_kindP (w : World) : ((ReflectliteType.abiMethod fun t => (fun a : Nat => Value.int IntKind.u8 (a : Int)) <$> Rtype.kind t) #[.pointer (some ⟨1, 126, none⟩)]).run Tryz.prog w = .ok (.int .u8 22) w := by kernel_rfl
theorem as_kindE (w : World) : ((ReflectliteType.abiMethod fun t => (fun a : Nat => Value.int IntKind.u8 (a : Int)) <$> Rtype.kind t) #[.pointer (some ⟨1, 121, none⟩)]).run Tryz.prog w = .ok (.int .u8 25) w := by kernel_rfl
theorem as_rlm (z : Sem Value) (f : TypeId → Addr → Nat → Nat → Sem Value) (v : Value) :
    ReflectliteValue.method z f #[v] = (do match ← ReflectliteValue.parts v with | none => z | some (t, a, fl) => f t a fl (fl % 32)) := rfl
theorem as_partsP (a : Addr) (w : World) : (ReflectliteValue.parts (.agg #[.pointer (some ⟨1, 126, none⟩), .pointer (some a), .int .u64 150])).run Tryz.prog w = .ok (some (126, a, 150)) w := by kernel_rfl
theorem as_isNilP (a p : Addr) (W : World) (ha : W.cell? a = some (.pointer (some p))) :
    (ReflectliteValue.method (ReflectliteValue.valueError "reflectlite.Value.IsNil" 0) ReflectliteValue.isNil #[.agg #[.pointer (some ⟨1, 126, none⟩), .pointer (some a), .int .u64 150]]).run Tryz.prog W = .ok (.bool false) W := by
  rw [as_rlm]
  simp only [Sem.run_bind, as_partsP, Result.andThen]
  simp [ReflectliteValue.isNil, loadVar, isAgg, underlying, Tryz.underlying126, ha, Result.andThen]
theorem as_methodElem (h : Value) (w : World) : (Go.method 294 150 (.agg #[h]) "Elem").run Tryz.prog w = .ok (140, .agg #[h]) w := by kernel_rfl
theorem as_methodImplements (h : Value) (w : World) : (Go.method 294 150 (.agg #[h]) "Implements").run Tryz.prog w = .ok (141, .agg #[h]) w := by kernel_rfl
theorem as_methodAssignableTo (h : Value) (w : World) : (Go.method 294 150 (.agg #[h]) "AssignableTo").run Tryz.prog w = .ok (138, .agg #[h]) w := by kernel_rfl
theorem as_elemP (w : World) : (ReflectliteType.method ReflectliteType.elem #[.agg #[.pointer (some ⟨1, 126, none⟩)]]).run Tryz.prog w = .ok (.iface 150 (.agg #[.pointer (some ⟨1, 121, none⟩)])) w := by kernel_rfl
theorem as_implementsE (w : World) : (ReflectliteType.relation "Implements" ReflectliteType.implements_ #[.agg #[.pointer (some ⟨1, 121, none⟩)], .iface 150 (.agg #[.pointer (some ⟨1, 124, none⟩)])]).run Tryz.prog w = .ok (.bool true) w := by kernel_rfl
theorem as_typeOfE (v : Value) (w : World) : (ReflectliteType.typeOf #[.iface 121 v]).run Tryz.prog w = .ok (.iface 150 (.agg #[.pointer (some ⟨1, 121, none⟩)])) w := by kernel_rfl
theorem as_assignableE (w : World) : (ReflectliteType.relation "AssignableTo" ReflectliteType.assignableTo #[.agg #[.pointer (some ⟨1, 121, none⟩)], .iface 150 (.agg #[.pointer (some ⟨1, 121, none⟩)])]).run Tryz.prog w = .ok (.bool true) w := by kernel_rfl
theorem as_valueOfE (n : Value) (w : World) : (ReflectliteValue.unpack (.iface 121 (.agg #[n]))).run Tryz.prog w
    = .ok (.agg #[.pointer (some ⟨1, 121, none⟩), .pointer (some ⟨w.heap.size, 0, none⟩), .int .u64 153]) (w.alloc (.cells #[n] 121)) := by kernel_rfl
theorem as_elemOfP (w : World) : (Rtype.elem? 126).run Tryz.prog w = .ok (some 121) w := by kernel_rfl
theorem as_mkE (p : Addr) (w : World) : (ReflectliteValue.mk 121 p ReflectliteValue.flagAddr).run Tryz.prog w = .ok (.agg #[.pointer (some ⟨1, 121, none⟩), .pointer (some p), .int .u64 409]) w := by kernel_rfl
theorem as_elemVP (a p : Addr) (W : World) (ha : W.cell? a = some (.pointer (some p))) :
    (ReflectliteValue.method (ReflectliteValue.valueError "reflectlite.Value.Elem" 0) ReflectliteValue.elem #[.agg #[.pointer (some ⟨1, 126, none⟩), .pointer (some a), .int .u64 150]]).run Tryz.prog W
      = .ok (.agg #[.pointer (some ⟨1, 121, none⟩), .pointer (some p), .int .u64 409]) W := by
  rw [as_rlm]
  simp only [Sem.run_bind, as_partsP, Result.andThen]
  simp [ReflectliteValue.elem, loadVar, isAgg, underlying, Tryz.underlying126, ha, Result.andThen, as_elemOfP, as_mkE]
theorem as_rls (v x : Value) : ReflectliteValue.set #[v, x] = (do
    let (some (dst, a, fl), some (src, b, _)) := (← ReflectliteValue.parts v, ← ReflectliteValue.parts x)
      | unsupported (.noEntry "extern/(internal/reflectlite.Value).Set.zeroValue")
    if fl / ReflectliteValue.flagAddr % 2 == 0 then unsupported (.noEntry "extern/(internal/reflectlite.Value).Set.unaddressable")
    let val ← loadVar src b
    if ← Rtype.directlyAssignable dst src then storeVar dst a val
    else if ← Rtype.implements dst src then
      if (← Rtype.kind src) == 20 then
        match val with
        | .nilIface => unsupported (.noEntry "extern/reflectlite: a nil value of one interface type handed on as a value of another")
        | _ => storeVar dst a val
      else storeVar dst a (.iface src val)
    else panicString ("reflectlite.Set: value of type " ++ (← Rtype.spelt src) ++ " is not assignable to type " ++ (← Rtype.spelt dst))
    pure (.tuple #[])) := rfl
theorem as_partsEa (a : Addr) (w : World) : (ReflectliteValue.parts (.agg #[.pointer (some ⟨1, 121, none⟩), .pointer (some a), .int .u64 409])).run Tryz.prog w = .ok (some (121, a, 409)) w := by kernel_rfl
theorem as_partsE (a : Addr) (w : World) : (ReflectliteValue.parts (.agg #[.pointer (some ⟨1, 121, none⟩), .pointer (some a), .int .u64 153])).run Tryz.prog w = .ok (some (121, a, 153)) w := by kernel_rfl
theorem as_directE (w : World) : (Rtype.directlyAssignable 121 121).run Tryz.prog w = .ok true w := by kernel_rfl
theorem as_sizeE (w : World) : (sizeOf 121).run Tryz.prog w = .ok 1 w := by kernel_rfl
end Go.Proofs.YtghocdiddolinaaGreatDoor

namespace Go.Proofs.YtghocdiddolinaaGreatDoor
set_option linter.unusedVariables false
set_option linter.unusedSimpArgs false
open Go.RowKit Go

theorem et_global : Tryz.prog.globalNamed "errors.errorType" = some 0 := by kernel_rfl
theorem et_rt : (Tryz.prog.cutTypes.find? (·.1 == "internal/reflectlite.rtype")).map (·.2) = some 150 := by kernel_rfl
theorem et_oneRow : ((List.range 194).filter fun t => Tryz.prog.rowNamed t [101, 114, 114, 111, 114]) = [124] := by kernel_rfl
theorem et_size : Tryz.prog.types.size = 194 := by kernel_rfl

theorem errT_of_handles {W : World} (h : handlesMet Tryz.prog [("errors.errorType", Rows.laid_errors_errorType)] W) : ErrT W := by
  obtain ⟨name, u, ty, e1, e2, e3, e4, e5⟩ := h _ (List.mem_singleton.2 rfl)
  have en : name = [101, 114, 114, 111, 114] := (Option.some.inj e1).symm
  subst en
  obtain rfl := Option.some.inj (et_rt.symm.trans e2)
  have hm : ty ∈ (List.range 194).filter fun t => Tryz.prog.rowNamed t [101, 114, 114, 111, 114] := List.mem_filter.2 ⟨List.mem_range.2 (by rw [← et_size]; exact e3), e4⟩
  rw [et_oneRow] at hm
  obtain rfl := List.mem_singleton.1 hm
  have hh : typeHandle Tryz.prog 124 = .pointer (some ⟨1, 124, none⟩) := by kernel_rfl
  rw [hh] at e5
  exact (by simpa using World.var?_cell et_global e5 0 : W.cell? ⟨0, 0, none⟩ = _)
end Go.Proofs.YtghocdiddolinaaGreatDoor

namespace Go.Proofs.YtghocdiddolinaaGreatDoor
set_option linter.unusedVariables false
set_option linter.unusedSimpArgs false
open Go.RowKit Go

theorem errT_of_laid {W : World} (h : laidMetH Tryz.prog [("errors.errorType", Rows.laid_errors_errorType)] W) : ErrT W := by
  have h' : laidMet Tryz.prog [] W ∧ handlesMet Tryz.prog [("errors.errorType", Rows.laid_errors_errorType)] W := h
  exact errT_of_handles h'.2

theorem door_met1 (os : Os) (args : Array Value) : laidMetH Tryz.prog [("errors.errorType", Rows.laid_errors_errorType)] ((World.doorLaid Tryz.prog 40 os).forCall (fun _ _ => 0) ⟨#[], args, []⟩).memory :=
  laidMetH_of_parts3 (fuel := 8) (laidMet_of_run' 8 (by kernel_rfl) (by kernel_rfl)) (by kernel_rfl) (by kernel_rfl)
end Go.Proofs.YtghocdiddolinaaGreatDoor

namespace Go.Proofs.YtghocdiddolinaaGreatDoor
set_option linter.unusedVariables false
set_option linter.unusedSimpArgs false
open Go.RowKit Go

/-- What became of a time. -/
structure Tld where
  tk : Int
  wh : Int
def TldIs (w : World) (vs : List Value) (e : Tld) : Prop :=
  vs = [.int .i64 e.tk, .int .i64 e.wh] ∧ (Lit.int .i64 e.tk).wf = true ∧ (Lit.int .i64 e.wh).wf = true
theorem TldIs.lasts : Lasts TldIs := fun _ _ _ _ _ h => h
def IsTlds (w : World) (a : Option Addr) (len cap : Nat) (ts : List Tld) : Prop := IsRecs 2 TldIs w a len cap ts
theorem IsTlds.below {w w' : World} {a : Option Addr} {len cap : Nat} {ts : List Tld} (h : IsTlds w a len cap ts) (hb : Below w.heap.size w w') : IsTlds w' a len cap ts := IsRecs.below TldIs.lasts h hb
theorem IsTlds.alloc {w : World} {a : Option Addr} {len cap : Nat} {ts : List Tld} (h : IsTlds w a len cap ts) (o : Obj) : IsTlds (w.alloc o) a len cap ts := IsRecs.alloc TldIs.lasts h o
theorem IsTlds.at {w : World} {a : Option Addr} {len cap : Nat} {ts : List Tld} (h : IsTlds w a len cap ts) {i : Nat} (hi : i < ts.length) :
    ∃ b off, a = some ⟨b, off, none⟩ ∧ len ≤ cap ∧ b < w.heap.size ∧ w.cell? ⟨b, off + i * 2, none⟩ = some (.int .i64 ts[i].tk) ∧ w.cell? ⟨b, off + i * 2 + 1, none⟩ = some (.int .i64 ts[i].wh) ∧ (Lit.int .i64 ts[i].tk).wf = true ∧ (Lit.int .i64 ts[i].wh).wf = true := by
  obtain ⟨b, off, rfl, h1, h2, vs, hv, hc, rfl, h3⟩ := IsRecs.at h hi
  exact ⟨b, off, rfl, h1, h2, hc 0 (by simp), hc 1 (by simp), h3⟩

theorem info_PlanTold : (Tryz.prog.info? 61).map (fun i => (i.zero, i.size, i.bytes)) = some (some (.agg #[.int .i64 0, .int .i64 0]), 2, 16) := by kernel_rfl

/-- A plan. -/
structure Pla where
  rs : List Rul
  pol : Int
  win : Int
  last : Int
  goes : List Int
  waits : List Int
  told : List Tld
/-- What a plan's four lists read as. -/
def IsPla (w : World) (ra : Option Addr) (rl rc : Nat) (ga : Option Addr) (gl gc : Nat) (wa : Option Addr) (wl wc : Nat) (ta : Option Addr) (tl tc : Nat) (p : Pla) : Prop :=
  IsRuls w ra rl rc p.rs ∧ IsRow .i64 w ga gl gc p.goes ∧ IsRow .i64 w wa wl wc p.waits ∧ IsTlds w ta tl tc p.told
theorem IsPla.below {w w' : World} {ra : Option Addr} {rl rc : Nat} {ga : Option Addr} {gl gc : Nat} {wa : Option Addr} {wl wc : Nat} {ta : Option Addr} {tl tc : Nat} {p : Pla} (h : IsPla w ra rl rc ga gl gc wa wl wc ta tl tc p) (hb : Below w.heap.size w w') : IsPla w' ra rl rc ga gl gc wa wl wc ta tl tc p :=
  ⟨h.1.below hb, h.2.1.below hb, h.2.2.1.below hb, h.2.2.2.below hb⟩
theorem IsPla.alloc {w : World} {ra : Option Addr} {rl rc : Nat} {ga : Option Addr} {gl gc : Nat} {wa : Option Addr} {wl wc : Nat} {ta : Option Addr} {tl tc : Nat} {p : Pla} (h : IsPla w ra rl rc ga gl gc wa wl wc ta tl tc p) (o : Obj) : IsPla (w.alloc o) ra rl rc ga gl gc wa wl wc ta tl tc p := h.below ((Below.refl _ _).alloc (Nat.le_refl _) _)
/-- A record in a block of its own: its cells behind what was called. -/
theorem boxAt {w w' : World} {cs : Array Value} {t : TypeId} (hb : Below (w.heap.size + 1) (w.alloc (.cells cs t)) w') {i : Nat} {v : Value} (h : cs[i]? = some v) : w'.cell? ⟨w.heap.size, i, none⟩ = some v :=
  (hb.cell (p := ⟨w.heap.size, i, none⟩) (Nat.lt_succ_self _)).trans (by rw [World.cell?_alloc_new]; exact h)
theorem below_box {w w' : World} {o : Obj} (hb : Below (w.alloc o).heap.size (w.alloc o) w') : Below (w.heap.size + 1) (w.alloc o) w' := by simpa using hb
/-- Two records in blocks of their own. -/
theorem boxAt2 {w W : World} {cs cs2 : Array Value} {t t2 : TypeId} (h : Below (w.heap.size + 1 + 1) ((w.alloc (.cells cs t)).alloc (.cells cs2 t2)) W) :
    (∀ i v, cs[i]? = some v → W.cell? ⟨w.heap.size, i, none⟩ = some v) ∧ (∀ i v, cs2[i]? = some v → W.cell? ⟨w.heap.size + 1, i, none⟩ = some v) ∧ Below w.heap.size w W := by
  refine ⟨fun i v e => ?_, fun i v e => ?_, (((Below.refl _ _).alloc (Nat.le_refl _) _).alloc (by simp) _).trans (h.mono (by omega))⟩
  · rw [h.cell (p := ⟨w.heap.size, i, none⟩) (by simp only; omega), World.cell?_alloc_lt _ _ _ (by simp), World.cell?_alloc_new]; exact e
  · rw [h.cell (p := ⟨w.heap.size + 1, i, none⟩) (by simp only; omega), show w.heap.size + 1 = (w.alloc (.cells cs t)).heap.size by simp, World.cell?_alloc_new]; exact e
/-- Small enough. -/
def plaSmall (p : Pla) : Prop := p.rs.length ≤ 1048576 ∧ (∀ i (h : i < p.rs.length), p.rs[i].but.length ≤ 1048576) ∧ p.goes.length ≤ 1048576 ∧ p.waits.length ≤ 1048576 ∧ p.told.length ≤ 1048576
end Go.Proofs.YtghocdiddolinaaGreatDoor

namespace Go.Proofs.YtghocdiddolinaaGreatDoor
set_option linter.unusedVariables false
set_option linter.unusedSimpArgs false
open Go.ChangeShapes Go.WideShapes Go.ChangeAt Go.RowKit Go.Joins Go Go.Deep
open Go.ChangeMaps (open_string shut_string)

theorem trod_struct2' {H : Type} {enc : TypeId × Value → H} {P : Program} {w : World} {base : Nat} {spare : Nat → Bool} {held : Bool} {t : TypeId} {f0 f1 : Field} {fuel : Nat} {cs : List Value} {x : DataW H × List MemPlace} (ht : P.underlying t = some (.struct #[f0, f1])) (hone : oneCellFields P #[f0, f1] = true) (hC : P.cellsOf t = 2) (h : DataW.trod enc P w base spare held fuel t cs = some x) :
    ∃ c0 c1 y0 y1 n, cs = [c0, c1] ∧ DataW.trod enc P w base spare held n f0.type [c0] = some y0 ∧ DataW.trod enc P w base spare held n f1.type [c1] = some y1 := by
  obtain ⟨xs, n, _, rfl, hl, hlen, hf⟩ := DataW.trod_struct ht h
  rw [hC] at hl
  obtain ⟨o0, k0⟩ := hone_of hone 0 f0 rfl
  obtain ⟨o1, k1⟩ := hone_of hone 1 f1 rfl
  match xs, hlen, cs, hl with
  | [y0, y1], _, [c0, c1], _ =>
    exact ⟨c0, c1, y0, y1, n, rfl, by simpa [o0, k0] using hf 0 f0 rfl, by simpa [o1, k1] using hf 1 f1 rfl⟩
theorem trod_struct7 {H : Type} {enc : TypeId × Value → H} {P : Program} {w : World} {base : Nat} {spare : Nat → Bool} {held : Bool} {t : TypeId} {f0 f1 f2 f3 f4 f5 f6 : Field} {fuel : Nat} {cs : List Value} {x : DataW H × List MemPlace} (ht : P.underlying t = some (.struct #[f0, f1, f2, f3, f4, f5, f6])) (hone : oneCellFields P #[f0, f1, f2, f3, f4, f5, f6] = true) (hC : P.cellsOf t = 7) (h : DataW.trod enc P w base spare held fuel t cs = some x) :
    ∃ c0 c1 c2 c3 c4 c5 c6 y0 y1 y2 y3 y4 y5 y6 n, cs = [c0, c1, c2, c3, c4, c5, c6] ∧ DataW.trod enc P w base spare held n f0.type [c0] = some y0 ∧ DataW.trod enc P w base spare held n f1.type [c1] = some y1 ∧ DataW.trod enc P w base spare held n f2.type [c2] = some y2 ∧ DataW.trod enc P w base spare held n f3.type [c3] = some y3 ∧ DataW.trod enc P w base spare held n f4.type [c4] = some y4 ∧ DataW.trod enc P w base spare held n f5.type [c5] = some y5 ∧ DataW.trod enc P w base spare held n f6.type [c6] = some y6 := by
  obtain ⟨xs, n, _, rfl, hl, hlen, hf⟩ := DataW.trod_struct ht h
  rw [hC] at hl
  obtain ⟨o0, k0⟩ := hone_of hone 0 f0 rfl
  obtain ⟨o1, k1⟩ := hone_of hone 1 f1 rfl
  obtain ⟨o2, k2⟩ := hone_of hone 2 f2 rfl
  obtain ⟨o3, k3⟩ := hone_of hone 3 f3 rfl
  obtain ⟨o4, k4⟩ := hone_of hone 4 f4 rfl
  obtain ⟨o5, k5⟩ := hone_of hone 5 f5 rfl
  obtain ⟨o6, k6⟩ := hone_of hone 6 f6 rfl
  match xs, hlen, cs, hl with
  | [y0, y1, y2, y3, y4, y5, y6], _, [c0, c1, c2, c3, c4, c5, c6], _ =>
    exact ⟨c0, c1, c2, c3, c4, c5, c6, y0, y1, y2, y3, y4, y5, y6, n, rfl, by simpa [o0, k0] using hf 0 f0 rfl, by simpa [o1, k1] using hf 1 f1 rfl, by simpa [o2, k2] using hf 2 f2 rfl, by simpa [o3, k3] using hf 3 f3 rfl, by simpa [o4, k4] using hf 4 f4 rfl, by simpa [o5, k5] using hf 5 f5 rfl, by simpa [o6, k6] using hf 6 f6 rfl⟩

theorem isTlds_of {H : Type} {enc : TypeId × Value → H} {W : World} {base : Nat} {spare : Nat → Bool} {held : Bool} {n : Nat} {a : Option Addr} {l c : Nat} {y : DataW H × List MemPlace} (hf : DataW.trod enc Tryz.prog W base spare held n 24 [.slice a l c] = some y) : ∃ ts, IsTlds W a l c ts := by
  refine isRecs_of (e := 77) Tryz.underlying24 (by kernel_rfl) (by omega) (fun n cs x hx => ?_) hf
  obtain ⟨c0, c1, y0, y1, m, rfl, h0, h1⟩ := trod_struct2' Tryz.underlying77 (by kernel_rfl) (by kernel_rfl) hx
  obtain ⟨tk, e0, _, w0⟩ := DataW.trod_int Tryz.underlying3 h0
  obtain ⟨wh, e1, _, w1⟩ := DataW.trod_int Tryz.underlying3 h1
  simp only [List.cons.injEq, and_true] at e0 e1
  subst e0 e1
  exact ⟨⟨tk, wh⟩, rfl, w0, w1⟩

theorem array7 {cs : Array Value} (h : cs.size = 7) : ∃ c0 c1 c2 c3 c4 c5 c6, cs = #[c0, c1, c2, c3, c4, c5, c6] := by
  rcases cs with ⟨_ | ⟨c0, _ | ⟨c1, _ | ⟨c2, _ | ⟨c3, _ | ⟨c4, _ | ⟨c5, _ | ⟨c6, _ | ⟨c7, t⟩⟩⟩⟩⟩⟩⟩⟩⟩
  case cons.cons.cons.cons.cons.cons.cons.nil => exact ⟨c0, c1, c2, c3, c4, c5, c6, rfl⟩
  all_goals (simp only [List.size_toArray, List.length_cons, List.length_nil] at h; omega)

set_option maxRecDepth 100000 in
theorem isPla_of {H : Type} {enc : TypeId × Value → H} {W : World} {r : Reach} {b0 base : Nat} {spare : Nat → Bool} {held : Bool} {v : Value} {d : DataW H} {q : List MemPlace} (hv : Value.okWide Tryz.prog W r b0 26 v) (h : DataW.Trod enc Tryz.prog W base spare held 26 v d q) :
    ∃ ra rl rc ga gl gc wa wl wk ta tl tc, ∃ p : Pla, v = .agg #[.slice ra rl rc, .int .i64 p.pol, .int .i64 p.win, .int .i64 p.last, .slice ga gl gc, .slice wa wl wk, .slice ta tl tc] ∧ IsPla W ra rl rc ga gl gc wa wl wk ta tl tc p := by
  obtain ⟨cs, rfl, hsz⟩ := okWide_struct Tryz.underlying26 hv
  have hC : Tryz.prog.cellsOf 26 = 7 := by kernel_rfl
  obtain ⟨c0, c1, c2, c3, c4, c5, c6, rfl⟩ := array7 (hsz.trans hC)
  obtain ⟨fuel, hf⟩ := h
  obtain ⟨d0, d1, d2, d3, d4, d5, d6, y0, y1, y2, y3, y4, y5, y6, n, hx, h0, h1, h2, h3, h4, h5, h6⟩ := trod_struct7 Tryz.underlying26 (by kernel_rfl) hC hf
  have hx' : [c0, c1, c2, c3, c4, c5, c6] = [d0, d1, d2, d3, d4, d5, d6] := by simpa [Value.cells] using hx
  simp only [List.cons.injEq, and_true] at hx'
  obtain ⟨rfl, rfl, rfl, rfl, rfl, rfl, rfl⟩ := hx'
  obtain ⟨ra, rl, rc, e0⟩ := slice_form Tryz.underlying22 h0
  obtain ⟨pol, e1, _, _⟩ := DataW.trod_int Tryz.underlying3 h1
  obtain ⟨win, e2, _, _⟩ := DataW.trod_int Tryz.underlying3 h2
  obtain ⟨last, e3, _, _⟩ := DataW.trod_int Tryz.underlying3 h3
  obtain ⟨ga, gl, gc, e4⟩ := slice_form Tryz.underlying23 h4
  obtain ⟨wa, wl, wk, e5⟩ := slice_form Tryz.underlying23 h5
  obtain ⟨ta, tl, tc, e6⟩ := slice_form Tryz.underlying24 h6
  simp only [List.cons.injEq, and_true] at e0 e1 e2 e3 e4 e5 e6
  subst e0 e1 e2 e3 e4 e5 e6
  obtain ⟨rs, hrs⟩ := isRuls_of h0
  obtain ⟨goes, hg⟩ := isRow_of h4
  obtain ⟨waits, hw⟩ := isRow_of h5
  obtain ⟨told, ht⟩ := isTlds_of h6
  exact ⟨ra, rl, rc, ga, gl, gc, wa, wl, wk, ta, tl, tc, ⟨rs, pol, win, last, goes, waits, told⟩, rfl, hrs, hg, hw, ht⟩
end Go.Proofs.YtghocdiddolinaaGreatDoor
