/- append onto a slice of strings or of numbers that the call itself gathers. -/
import Derived.Test.YtnieaeakaajleaaGreatDoorProg
import Derived.WalkKit
import Derived.LaidEql
import Derived.Stop.Asserts
import Derived.RowKitTokens
import Derived.Test.YtnieaeakaajleaaGreatDoorRows
import Derived.Lay
import Derived.LaidHandle
import Derived.LaidMore
import Derived.LaidOnce
import Derived.Test.YtnieaeakaajleaaGreatDoorJ1
import Derived.Lib.ItoaNum
import Derived.Lib.ItoaLen
import Derived.Laws.IdiomStrings
namespace Go.Proofs.YtnieaeakaajleaaGreatDoor
set_option linter.unusedVariables false
set_option linter.unusedSimpArgs false
open Go.RowKit Go.Extern.Stop Go.Stop Go.Extern Go

/-- The library's variable for the type of errors stands as its text lays it. -/
def ErrT (w : World) : Prop := w.cell? ⟨0, 0, none⟩ = some (.iface 177 (.agg #[.pointer (some ⟨5, 112, none⟩)]))
theorem ErrT.below {w w' : World} (h : ErrT w) (hb : Below w.heap.size w w') : ErrT w' := by
  unfold ErrT at *
  rw [hb.cell (World.block_lt_of_cell? _ _ h)]; exact h

theorem as_nil (t : Value) (w : World) :
    Calls Tryz.prog 100 #[.nilIface, t] w fun e w' => e = .returned (.bool false) ∧ w' = w := by
  go_enter Tryz.func100, Tryz.ntmps100
  go_wp2
  go_ret
  exact ⟨rfl, rfl⟩

theorem as_valueOfP (t : Addr) (w : World) : (ReflectliteValue.unpack (.iface 144 (.pointer (some t)))).run Tryz.prog w
    = .ok (.agg #[.pointer (some ⟨5, 144, none⟩), .pointer (some ⟨w.heap.size, 0, none⟩), .int .u64 150]) (w.alloc (.cells #[.pointer (some t)] 144)) := by kernel_rfl
theorem as_typeP (a : Addr) (w : World) : (ReflectliteValue.methodAny (ReflectliteValue.valueError "reflectlite.Value.Type" 0) (fun t _ _ _ => ReflectliteType.toType t) #[.agg #[.pointer (some ⟨5, 144, none⟩), .pointer (some a), .int .u64 150]]).run Tryz.prog w
    = .ok (.iface 177 (.agg #[.pointer (some ⟨5, 144, none⟩)])) w := by kernel_rfl
theorem as_methodKind (h : Value) (w : World) : (Go.method 328 177 (.agg #[h]) "Kind").run Tryz.prog w = .ok (155, h) w := by kernel_rfl
theorem as_kindP (w : World) : ((ReflectliteType.abiMethod fun t => (fun a : Nat => Value.int IntKind.u8 (a : Int)) <$> Rtype.kind t) #[.pointer (some ⟨5, 144, none⟩)]).run Tryz.prog w = .ok (.int .u8 22) w := by kernel_rfl
theorem as_kindE (w : World) : ((ReflectliteType.abiMethod fun t => (fun a : Nat => Value.int IntKind.u8 (a : Int)) <$> Rtype.kind t) #[.pointer (some ⟨5, 141, none⟩)]).run Tryz.prog w = .ok (.int .u8 25) w := by kernel_rfl
theorem as_rlm (z : Sem Value) (f : TypeId → Addr → Nat → Nat → Sem Value) (v : Value) :
    ReflectliteValue.method z f #[v] = (do match ← ReflectliteValue.parts v with | none => z | some (t, a, fl) => f t a fl (fl % 32)) := rfl
theorem as_partsP (a : Addr) (w : World) : (ReflectliteValue.parts (.agg #[.pointer (some ⟨5, 144, none⟩), .pointer (some a), .int .u64 150])).run Tryz.prog w = .ok (some (144, a, 150)) w := by kernel_rfl
theorem as_isNilP (a p : Addr) (W : World) (ha : W.cell? a = some (.pointer (some p))) :
    (ReflectliteValue.method (ReflectliteValue.valueError "reflectlite.Value.IsNil" 0) ReflectliteValue.isNil #[.agg #[.pointer (some ⟨5, 144, none⟩), .pointer (some a), .int .u64 150]]).run Tryz.prog W = .ok (.bool false) W := by
  rw [as_rlm]
  simp only [Sem.run_bind, as_partsP, Result.andThen]
  simp [ReflectliteValue.isNil, loadVar, isAgg, underlying, Tryz.underlying144, ha, Result.andThen]
theorem as_methodElem (h : Value) (w : World) : (Go.method 328 177 (.agg #[h]) "Elem").run Tryz.prog w = .ok (172, .agg #[h]) w := by kernel_rfl
theorem as_methodImplements (h : Value) (w : World) : (Go.method 328 177 (.agg #[h]) "Implements").run Tryz.prog w = .ok (173, .agg #[h]) w := by kernel_rfl
theorem as_methodAssignableTo (h : Value) (w : World) : (Go.method 328 177 (.agg #[h]) "AssignableTo").run Tryz.prog w = .ok (170, .agg #[h]) w := by kernel_rfl
theorem as_elemP (w : World) : (ReflectliteType.method ReflectliteType.elem #[.agg #[.pointer (some ⟨5, 144, none⟩)]]).run Tryz.prog w = .ok (.iface 177 (.agg #[.pointer (some ⟨5, 141, none⟩)])) w := by kernel_rfl
theorem as_implementsE (w : World) : (ReflectliteType.relation "Implements" ReflectliteType.implements_ #[.agg #[.pointer (some ⟨5, 141, none⟩)], .iface 177 (.agg #[.pointer (some ⟨5, 112, none⟩)])]).run Tryz.prog w = .ok (.bool true) w := by kernel_rfl
theorem as_typeOfE (v : Value) (w : World) : (ReflectliteType.typeOf #[.iface 141 v]).run Tryz.prog w = .ok (.iface 177 (.agg #[.pointer (some ⟨5, 141, none⟩)])) w := by kernel_rfl
theorem as_assignableE (w : World) : (ReflectliteType.relation "AssignableTo" ReflectliteType.assignableTo #[.agg #[.pointer (some ⟨5, 141, none⟩)], .iface 177 (.agg #[.pointer (some ⟨5, 141, none⟩)])]).run Tryz.prog w = .ok (.bool true) w := by kernel_rfl
theorem as_valueOfE (n : Value) (w : World) : (ReflectliteValue.unpack (.iface 141 (.agg #[n]))).run Tryz.prog w
    = .ok (.agg #[.pointer (some ⟨5, 141, none⟩), .pointer (some ⟨w.heap.size, 0, none⟩), .int .u64 153]) (w.alloc (.cells #[n] 141)) := by kernel_rfl
theorem as_elemOfP (w : World) : (Rtype.elem? 144).run Tryz.prog w = .ok (some 141) w := by kernel_rfl
theorem as_mkE (p : Addr) (w : World) : (ReflectliteValue.mk 141 p ReflectliteValue.flagAddr).run Tryz.prog w = .ok (.agg #[.pointer (some ⟨5, 141, none⟩), .pointer (some p), .int .u64 409]) w := by kernel_rfl
theorem as_elemVP (a p : Addr) (W : World) (ha : W.cell? a = some (.pointer (some p))) :
    (ReflectliteValue.method (ReflectliteValue.valueError "reflectlite.Value.Elem" 0) ReflectliteValue.elem #[.agg #[.pointer (some ⟨5, 144, none⟩), .pointer (some a), .int .u64 150]]).run Tryz.prog W
      = .ok (.agg #[.pointer (some ⟨5, 141, none⟩), .pointer (some p), .int .u64 409]) W := by
  rw [as_rlm]
  simp only [Sem.run_bind, as_partsP, Result.andThen]
  simp [ReflectliteValue.elem, loadVar, isAgg, underlying, Tryz.underlying144, ha, Result.andThen, as_elemOfP, as_mkE]
theorem as_rls (v x : Value) : ReflectliteValue.set #[v, x] = (do
    let (some (dst, a, fl), some (src, b, _)) := (← ReflectliteValue.parts v, ← ReflectliteValue.parts x)
      | unsupported (.noEntry "extern/(internal/reflectlite.Value).Set.zeroValue")
    if fl / ReflectliteValue.flagAddr % 2 == 0 then unsupported (.noEntry "extern/(internal/reflectlite.Value).Set.unaddressable")
    let val ← loadVar src b
    if ← Rtype.directlyAssignable dst src then storeVar dst a val
    else if ← Rtype.implements dst src then
      if (← Rtype.kind src) == 20 then
        match val with
        | .nilIface => unsupported (.noEntry "extern/reflectlite: a nil value of one interface type handed on as a value of another")
        | _ => storeVar dst a val
      else storeVar dst a (.iface src val)
    else panicString ("reflectlite.Set: value of type " ++ (← Rtype.spelt src) ++ " is not assignable to type " ++ (← Rtype.spelt dst))
    pure (.tuple #[])) := rfl
theorem as_partsEa (a : Addr) (w : World) : (ReflectliteValue.parts (.agg #[.pointer (some ⟨5, 141, none⟩), .pointer (some a), .int .u64 409])).run Tryz.prog w = .ok (some (141, a, 409)) w := by kernel_rfl
theorem as_partsE (a : Addr) (w : World) : (ReflectliteValue.parts (.agg #[.pointer (some ⟨5, 141, none⟩), .pointer (some a), .int .u64 153])).run Tryz.prog w = .ok (some (141, a, 153)) w := by kernel_rfl
theorem as_directE (w : World) : (Rtype.directlyAssignable 141 141).run Tryz.prog w = .ok true w := by kernel_rfl
theorem as_sizeE (w : World) : (sizeOf 141).run Tryz.prog w = .ok 1 w := by kernel_rfl
end Go.Proofs.YtnieaeakaajleaaGreatDoor

namespace Go.Proofs.YtnieaeakaajleaaGreatDoor
set_option linter.unusedVariables false
set_option linter.unusedSimpArgs false
open Go.RowKit Go

theorem et_global : Tryz.prog.globalNamed "errors.errorType" = some 0 := by kernel_rfl
theorem et_rt : (Tryz.prog.cutTypes.find? (·.1 == "internal/reflectlite.rtype")).map (·.2) = some 177 := by kernel_rfl
theorem et_oneRow : ((List.range 228).filter fun t => Tryz.prog.rowNamed t [101, 114, 114, 111, 114]) = [112] := by kernel_rfl
theorem et_size : Tryz.prog.types.size = 228 := by kernel_rfl

theorem errT_of_handles {W : World} (h : handlesMet Tryz.prog [("errors.errorType", Rows.laid_errors_errorType)] W) : ErrT W := by
  obtain ⟨name, u, ty, e1, e2, e3, e4, e5⟩ := h _ (List.mem_singleton.2 rfl)
  have en : name = [101, 114, 114, 111, 114] := (Option.some.inj e1).symm
  subst en
  obtain rfl := Option.some.inj (et_rt.symm.trans e2)
  have hm : ty ∈ (List.range 228).filter fun t => Tryz.prog.rowNamed t [101, 114, 114, 111, 114] := List.mem_filter.2 ⟨List.mem_range.2 (by rw [← et_size]; exact e3), e4⟩
  rw [et_oneRow] at hm
  obtain rfl := List.mem_singleton.1 hm
  have hh : typeHandle Tryz.prog 112 = .pointer (some ⟨5, 112, none⟩) := by kernel_rfl
  rw [hh] at e5
  exact (by simpa using World.var?_cell et_global e5 0 : W.cell? ⟨0, 0, none⟩ = _)
end Go.Proofs.YtnieaeakaajleaaGreatDoor

namespace Go.Proofs.YtnieaeakaajleaaGreatDoor
set_option linter.unusedVariables false
set_option linter.unusedSimpArgs false
open Go.RowKit Go

theorem errT_of_laid {W : World} (h : laidMetH Tryz.prog [("errors.errorType", Rows.laid_errors_errorType)] W) : ErrT W := by
  have h' : laidMet Tryz.prog [] W ∧ handlesMet Tryz.prog [("errors.errorType", Rows.laid_errors_errorType)] W := h
  exact errT_of_handles h'.2

theorem door_met1 (os : Os) (args : Array Value) : laidMetH Tryz.prog [("errors.errorType", Rows.laid_errors_errorType)] ((World.doorLaid Tryz.prog 40 os).forCall (fun _ _ => 0) ⟨#[], args, []⟩).memory :=
  laidMetH_of_parts3 (fuel := 8) (laidMet_of_run' 8 (by kernel_rfl) (by kernel_rfl)) (by kernel_rfl) (by kernel_rfl)
end Go.Proofs.YtnieaeakaajleaaGreatDoor

namespace Go.Proofs.YtnieaeakaajleaaGreatDoor
set_option linter.unusedVariables false
set_option linter.unusedSimpArgs false
open Go.RowKit Go

/-- A figure. -/
def digC (u : Nat) : UInt8 := UInt8.ofNat (48 + u)
/-- Decimals, as a string. -/
def decB (u : Nat) : ByteArray := ⟨(Lib.decDigits u).toArray⟩
theorem decB_small {u : Nat} (h : u < 10) : decB u = ⟨#[digC u]⟩ := by unfold decB; rw [Lib.decDigits, dif_pos h]; rfl
theorem decB_more {u : Nat} (h : ¬ u < 10) : decB u = decB (u / 10) ++ ⟨#[digC (u % 10)]⟩ := by
  unfold decB; rw [Lib.decDigits, dif_neg h]; ext1; simp [digC]

theorem decB_size (u : Nat) (h : u ≤ 9223372036854775807) : (decB u).size ≤ 21 := by
  have := Lib.itoa_length_le (u : Int) (by omega) (by omega)
  unfold Lib.itoa at this
  rw [if_neg (by omega)] at this
  simpa [decB, ByteArray.size] using this

/-- string(b) of one byte that lies there. -/
theorem cv_one (w : World) (b : Nat) (c : UInt8) (n : Int) (hn : n = (c.toNat : Int)) (h : w.cell? ⟨b, 0, none⟩ = some (.int .u8 n)) :
    (convert 102 9 (.slice (some ⟨b, 0, none⟩) 1 1)).run Tryz.prog w = .ok (.string ⟨#[c]⟩) w := by
  have := run_convert_bytes_back (P := Tryz.prog) w 102 9 5 ⟨b, 0, none⟩ 1 [c] Tryz.underlying102 Tryz.underlying5 Tryz.underlying9 (fun j hj => by
    have : j = 0 := by simp at hj; omega
    subst this
    rw [Addr.add]; simpa [hn] using h)
  simpa using this
theorem byte_of (u : Nat) (h : u < 10) : ((digC u).toNat : Int) = 48 + (u : Int) := by
  simp [digC]; omega

/-- A number's decimals, as a string. -/
def itoB (n : Int) : ByteArray := ⟨(Lib.itoa n).toArray⟩
theorem itoB_nat (u : Nat) : itoB (u : Int) = decB u := by
  unfold itoB decB Lib.itoa; rw [if_neg (by omega)]; simp
theorem itoB_neg (u : Nat) (h : 1 ≤ u) : itoB (-(u : Int)) = ⟨#[45]⟩ ++ decB u := by
  unfold itoB decB Lib.itoa; rw [if_pos (by omega)]; ext1; simp
theorem itoB_size (n : Int) (h0 : -9223372036854775808 ≤ n) (h1 : n ≤ 9223372036854775807) : (itoB n).size ≤ 21 := by
  have := Lib.itoa_length_le n h0 h1
  simpa [itoB, ByteArray.size] using this

end Go.Proofs.YtnieaeakaajleaaGreatDoor

namespace Go.Proofs.YtnieaeakaajleaaGreatDoor
set_option linter.unusedVariables false
set_option linter.unusedSimpArgs false
open Go.RowKit

/-- The slice v, of n elements of 'size' cells, gathers xs: it is empty without room, or owns a row among the blocks from F on. -/
def Acc (w : World) (F : Nat) (e : TypeId) (size : Nat) (v : Value) (n : Nat) (xs : List Value) : Prop :=
  (n = 0 ∧ xs = [] ∧ ∃ a, v = .slice a 0 0 ∧ ∀ x, a = some x → x.spot = none ∧ x.block < w.heap.size) ∨ w.ownsRow F e size v n xs

theorem Acc.nil (w : World) (F : Nat) (e : TypeId) (size : Nat) : Acc w F e size (.slice none 0 0) 0 [] := .inl ⟨rfl, rfl, none, rfl, fun _ h => by cases h⟩
theorem Acc.empty {w : World} (F : Nat) (e : TypeId) (size : Nat) {b off : Nat} (h : b < w.heap.size) : Acc w F e size (.slice (some ⟨b, off, none⟩) 0 0) 0 [] := .inl ⟨rfl, rfl, _, rfl, fun x h' => by cases h'; exact ⟨rfl, h⟩⟩
theorem Acc.below {w w' : World} {F : Nat} {e : TypeId} {size : Nat} {v : Value} {n : Nat} {xs : List Value} (h : Acc w F e size v n xs) (hb : Below w.heap.size w w') : Acc w' F e size v n xs := by
  rcases h with ⟨rfl, rfl, a, rfl, h⟩ | h
  · exact .inl ⟨rfl, rfl, a, rfl, fun x hx => ⟨(h x hx).1, Nat.lt_of_lt_of_le (h x hx).2 hb.size⟩⟩
  · exact .inr (own_below h hb)
theorem Acc.alloc {w : World} {F : Nat} {e : TypeId} {size : Nat} {v : Value} {n : Nat} {xs : List Value} (h : Acc w F e size v n xs) (o : Obj) : Acc (w.alloc o) F e size v n xs := h.below ((Below.refl _ _).alloc (Nat.le_refl _) _)
theorem Acc.row {w : World} {F : Nat} {e : TypeId} {v : Value} {n : Nat} {xs : List Value} (h : Acc w F e 1 v n xs) : Row w v xs := by
  rcases h with ⟨rfl, rfl, a, rfl, h⟩ | h
  · cases a with
    | none => exact Row.nil w
    | some x =>
      obtain ⟨b, off, spot⟩ := x
      obtain ⟨hs, hb⟩ := h _ rfl
      simp only at hs hb
      subst hs
      exact .inr ⟨b, off, 0, rfl, Nat.le_refl _, Nat.zero_le _, hb, fun i x hx => by simp at hx⟩
  · exact Row.owned h

theorem append_empty {P : Program} (w : World) (t ty e : TypeId) (i : TypeInfo) (z : Value) (ht : P.underlying t = some (.slice e)) (hi : P.info? e = some i) (hz : i.zero = some z)
    (b : Option Addr) (a : Addr) (m c : Nat) (news : List Value) (hl : news.length = m * i.size) (hnews : ∀ j v, news[j]? = some v → w.cell? (a.add j) = some v)
    (h0 : 0 < m) (h63 : (m : Int) ≤ 9223372036854775807) (h48 : m * i.bytes ≤ 140737488355328) :
    (Builtin.append_ #[t, t] ty #[.slice b 0 0, .slice (some a) m c]).run P w = (Builtin.append_ #[t, t] ty #[.slice none 0 0, .slice (some a) m c]).run P w := by
  cases b with
  | none => rfl
  | some b =>
    rw [run_append_nil w t ty e i z ht hi hz a m c news hl hnews h0 h63 (by omega)]
    have := run_append_grow w t ty e i z ht hi hz b 0 0 [] (by simp) (by simp) a m c news hl hnews (by omega) (by simpa using h63) (growslice_fits (by omega) (by rw [Nat.zero_add]; exact h48))
    simpa using this

theorem run_acc {P : Program} (w : World) (F : Nat) (t ty e : TypeId) (i : TypeInfo) (z : Value) (size bytes : Nat) (ht : P.underlying t = some (.slice e)) (hi : P.info? e = some i) (hz : i.zero = some z)
    (hsize : i.size = size) (hby : i.bytes = bytes) (hzs : z.cells.size = size) (hsz : 0 < size)
    (v : Value) (n : Nat) (xs : List Value) (hacc : Acc w F e size v n xs)
    (a : Addr) (m c : Nat) (news : List Value) (hm : 0 < m) (hl : news.length = m * size) (hnews : ∀ j u, news[j]? = some u → w.cell? (a.add j) = some u) (h1 : ∀ u ∈ news, u.oneCell' = true)
    (h63 : n + m ≤ maxLen) (hbytes : (n + m) * bytes ≤ 140737488355328) (hF : F ≤ w.heap.size) :
    ∃ v' w', (Builtin.append_ #[t, t] ty #[v, .slice (some a) m c]).run P w = .ok v' w' ∧ w'.ownsRow F e size v' (n + m) (xs ++ news) ∧ Below F w w' := by
  rcases hacc with ⟨rfl, rfl, b, rfl, _⟩ | hown
  · have h63' : (m : Int) ≤ 9223372036854775807 := by unfold maxLen at h63; omega
    rw [append_empty w t ty e i z ht hi hz b a m c news (by rw [hsize]; exact hl) hnews hm h63' (by rw [hby]; simpa using hbytes)]
    obtain ⟨v', w', hr, h2, h3, _⟩ := run_append_own (P := P) w F t ty e i z size bytes ht hi hz hsize hby hzs hsz (.slice none 0 0) 0 [] (World.ownsRow_nil _ _ _ _) a m c news hl hnews h1 h63 hbytes hF
    exact ⟨v', w', hr, h2, (Below.refl F w).grown h3 hF (fun k hk => by cases hk)⟩
  · obtain ⟨v', w', hr, h2, h3, _⟩ := run_append_own (P := P) w F t ty e i z size bytes ht hi hz hsize hby hzs hsz v n xs hown a m c news hl hnews h1 h63 hbytes hF
    exact ⟨v', w', hr, h2, (Below.refl F w).grown h3 hF (fun k hk => (hown.lt k hk).1)⟩

theorem wp_acc {P : Program} {w : World} {ops : Array Oper} {rest : List Oper} {o : Oper} {a : Act} {Q : Exit → Act → World → Prop} (hgd : o.guard = none) (s x : Operand) (t : TypeId)
    (ho : o.op = .call { callee := .builtin .append, args := #[s, x], argTypes := #[t, t] })
    (F : Nat) (e : TypeId) (z : Value) (size bytes : Nat) (ht : P.underlying t = some (.slice e)) (hinfo : (P.info? e).map (fun i => (i.zero, i.size, i.bytes)) = some (some z, size, bytes))
    (hzs : z.cells.size = size) (hsz : 0 < size)
    (v : Value) (n : Nat) (xs : List Value) (hs : a.eval s = v) (hacc : Acc w F e size v n xs)
    (ad : Addr) (m c : Nat) (news : List Value) (hx : a.eval x = .slice (some ad) m c) (hm : 0 < m) (hl : news.length = m * size) (hnews : ∀ j u, news[j]? = some u → w.cell? (ad.add j) = some u) (h1 : ∀ u ∈ news, u.oneCell' = true)
    (h63 : n + m ≤ maxLen) (hbytes : (n + m) * bytes ≤ 140737488355328) (hF : F ≤ w.heap.size)
    (h : ∀ v' w', Acc w' F e size v' (n + m) (xs ++ news) → Below F w w' → wpList P ops Q rest (a.put o.dst v') w') : wpList P ops Q (o :: rest) a w := by
  obtain ⟨i, hi, hzz⟩ := Option.map_eq_some_iff.1 hinfo
  simp only [Prod.mk.injEq] at hzz
  obtain ⟨hz, hsize, hby⟩ := hzz
  refine wpList_plain hgd fun K hK => ?_
  obtain ⟨v', w', hr, h2, h3⟩ := run_acc (P := P) w F t o.type e i z size bytes ht hi hz hsize hby hzs hsz v n xs hacc ad m c news hm hl hnews h1 h63 hbytes hF
  unfold Oper.wp execOp
  simp only [ho, resolve, invoke, builtin, Sem.run_bind, Sem.run_pure, Result.andThen_ok, List.map_toArray, List.map_cons, List.map_nil, hs, hx, hr]
  exact hK _ _ (h v' w' (.inr h2) h3)

theorem Tryz.infoI : (Tryz.prog.info? 3).map (fun i => (i.zero, i.size, i.bytes)) = some (some (.int .i64 0), 1, 8) := by kernel_rfl
theorem append_none {P : Program} (w : World) (t ty e : TypeId) (i : TypeInfo) (ht : P.underlying t = some (.slice e)) (hi : P.info? e = some i) (b x : Option Addr) (c : Nat) :
    (Builtin.append_ #[t, t] ty #[.slice b 0 0, .slice x 0 c]).run P w = .ok (.slice b 0 0) w := by
  cases b <;> cases x <;> simp [Builtin.append_, run_underlying ht, sizeOf, typeInfo, hi, Builtin.lenOf, Builtin.firstCells, loadCells, loadCellsFrom, storeCells]
end Go.Proofs.YtnieaeakaajleaaGreatDoor

namespace Go.Proofs.YtnieaeakaajleaaGreatDoor
set_option linter.unusedVariables false
set_option linter.unusedSimpArgs false
open Go.RowKit

theorem Tryz.infoS : (Tryz.prog.info? 9).map (fun i => (i.zero, i.size, i.bytes)) = some (some (.string ByteArray.empty), 1, 16) := by kernel_rfl

/-- One string is appended. -/
theorem wp_acc_str {w : World} {ops : Array Oper} {rest : List Oper} {o : Oper} {a : Act} {Q : Exit → Act → World → Prop} (hgd : o.guard = none) (s x : Operand)
    (ho : o.op = .call { callee := .builtin .append, args := #[s, x], argTypes := #[67, 67] })
    (F : Nat) (v : Value) (n : Nat) (xs : List ByteArray) (hs : a.eval s = v) (hacc : Acc w F 9 1 v n (sv xs))
    (ad : Addr) (c : Nat) (str : ByteArray) (hx : a.eval x = .slice (some ad) 1 c) (hc : w.cell? ad = some (.string str))
    (hn : n ≤ 1099511627776) (hF : F ≤ w.heap.size)
    (h : ∀ v' w', Acc w' F 9 1 v' (n + 1) (sv (xs ++ [str])) → Below F w w' → wpList Tryz.prog ops Q rest (a.put o.dst v') w') : wpList Tryz.prog ops Q (o :: rest) a w := by
  refine wp_acc hgd s x 67 ho F 9 _ 1 16 Tryz.underlying67 Tryz.infoS rfl (by decide) v n (sv xs) hs hacc ad 1 c [.string str] hx (by decide) rfl ?_ ?_ (by unfold maxLen; omega) (by omega) hF ?_
  · intro j u hj
    match j, hj with
    | 0, hj => simp at hj; subst hj; simpa [Addr.add] using hc
  · intro u hu; simp at hu; subst hu; rfl
  · intro v' w' h1 h2
    exact h v' w' (by rw [sv_app]; exact h1) h2
end Go.Proofs.YtnieaeakaajleaaGreatDoor
