/- append onto a slice that the call itself gathers: it begins empty and without room ([]T{} or nil), or owns a row made since. The guide's laws at that. -/
import Derived.Test.YtkemfifkjaclhaaGreatDoorJ2
import Derived.Test.YtkemfifkjaclhaaGreatDoorJ1
namespace Go.Proofs.YtkemfifkjaclhaaGreatDoor
set_option linter.unusedVariables false
set_option linter.unusedSimpArgs false
open Go.RowKit Go
namespace Dr

theorem Keeps.cell {R : Nat} {w w' : World} (h : Keeps R w w') {b o : Nat} (hb : b < w.heap.size) (hne : b ≠ R) : w'.cell? ⟨b, o, none⟩ = w.cell? ⟨b, o, none⟩ := World.cell?_of_block (a := ⟨b, o, none⟩) (h.block b hb hne)
theorem Keeps.holds {R : Nat} {w w' : World} (h : Keeps R w w') {b : Nat} {t : TypeId} {cur : Array Value} (hh : Holds w b t cur) (hne : b ≠ R) : Holds w' b t cur := by
  have := h.block b hh.lt hne
  unfold Holds at hh ⊢
  rw [this]; exact hh
theorem Rd.lt {w : World} {R : Nat} {a : Option Addr} {len cap : Nat} {bs : List Int} {p : Int} (h : Rd w R a len cap bs p) : R < w.heap.size := h.own.lt
theorem Rd.below {w w' : World} {R : Nat} {a : Option Addr} {len cap : Nat} {bs : List Int} {p : Int} (h : Rd w R a len cap bs p) (hb : Below w.heap.size w w') : Rd w' R a len cap bs p :=
  ⟨h.own.below hb, h.row.below hb, h.low, h.few, h.far⟩
theorem Rd.alloc {w : World} {R : Nat} {a : Option Addr} {len cap : Nat} {bs : List Int} {p : Int} (h : Rd w R a len cap bs p) (o : Obj) : Rd (w.alloc o) R a len cap bs p := h.below ((Below.refl _ _).alloc (Nat.le_refl _) _)
theorem Rd.set {w : World} {R : Nat} {a : Option Addr} {len cap : Nat} {bs : List Int} {p : Int} (h : Rd w R a len cap bs p) {b o : Nat} (hb : R < b) (v : Value) : Rd (w.setCell ⟨b, o, none⟩ v) R a len cap bs p := by
  have hk : ∀ k, k ≠ b → (w.setCell ⟨b, o, none⟩ v).heap[k]? = w.heap[k]? := fun k hk => Below.heap_setCell w ⟨b, o, none⟩ v k hk
  refine ⟨?_, ?_, h.low, h.few, h.far⟩
  · have := h.own
    unfold Holds at this ⊢
    rw [hk R (by omega)]; exact this
  · obtain ⟨h1, h2, h3, h4, h5⟩ := h.row
    refine ⟨h1, h2, h3, fun hl => ?_, h5⟩
    obtain ⟨b', off, rfl, hb1, hc⟩ := h4 hl
    refine ⟨b', off, rfl, by simpa using hb1, fun i hi => ?_⟩
    rw [← hc i hi]
    exact World.cell?_of_block (a := ⟨b', off + i, none⟩) (hk b' (by have := h.low hl b' off rfl; omega))

theorem row_cut {w : World} {a : Option Addr} {len cap : Nat} {bs : List Int} (h : IsRow .u8 w a len cap bs) (n : Nat) (hn : n ≤ len) : IsRow .u8 w a n cap (bs.take n) := by
  obtain ⟨h1, h2, h3, h4, h5⟩ := h
  refine ⟨by simp; omega, by omega, h3, fun hl => ?_, fun x hx => h5 x (List.mem_of_mem_take hx)⟩
  obtain ⟨b, off, rfl, hb1, hc⟩ := h4 (by omega)
  refine ⟨b, off, rfl, hb1, fun i hi => ?_⟩
  have := hc i (by omega)
  rw [this, getD_at bs i (by omega), getD_at _ i (by simp; omega), List.getElem_take]

set_option maxHeartbeats 1000000 in
theorem l1Open (a : Option Addr) (len cap : Nat) (bs : List Int) (w : World) (h : IsRow .u8 w a len cap bs) :
    Calls Tryz.prog 13 #[.slice a len cap] w fun e w' => e = .returned (.pointer (some ⟨w.heap.size, 0, none⟩)) ∧ (∃ len' bs', Rd w' w.heap.size a len' cap bs' 0) ∧ Below w.heap.size w w' := by
  have HR : Hid (IsRow .u8 w a len cap bs) := h
  have HA : Hid (0 < len → ∀ b off, a = some ⟨b, off, none⟩ → b < w.heap.size) := fun hl b off e => by
    obtain ⟨b', off', e', _, h2, _⟩ := IsRow.at h (i := 0) hl
    rw [e] at e'
    simp only [Option.some.injEq, Addr.mk.injEq, and_true] at e'
    omega
  have hcap : len ≤ cap := h.2.1
  have hmx : cap ≤ 9223372036854775807 := by have := h.2.2.1; unfold maxLen at this; exact this
  clear h
  by_cases hl : 2000 < len
  · obtain ⟨b, off, rfl, h1, h2, hc⟩ := IsRow.at HR.out (i := 0) (by omega)
    clear hc
    have hd : decide ((2000 : Int) < (len : Int)) = true := decide_eq_true (by omega)
    go_enter Tryz.func13, Tryz.ntmps13
    go_wp2_with fail
    go_ret
    refine ⟨rfl, ⟨2000, bs.take 2000, ?_, ?_, fun hl => HA.out (by omega), Nat.le_refl _, by omega⟩, (Below.refl _ _).alloc (Nat.le_refl _) _⟩
    · exact heap_alloc_new _ _
    · exact (row_cut HR.out 2000 (by omega)).alloc _
  · have hd : decide ((2000 : Int) < (len : Int)) = false := decide_eq_false (by omega)
    go_enter Tryz.func13, Tryz.ntmps13
    go_wp2_with fail
    go_ret
    refine ⟨rfl, ⟨len, bs, ?_, ?_, HA.out, by omega, by omega⟩, (Below.refl _ _).alloc (Nat.le_refl _) _⟩
    · exact heap_alloc_new _ _
    · exact HR.out.alloc _
end Dr
end Go.Proofs.YtkemfifkjaclhaaGreatDoor

namespace Go.Proofs.YtkemfifkjaclhaaGreatDoor
set_option linter.unusedVariables false
set_option linter.unusedSimpArgs false
open Go.RowKit Go

/-- A rule of a calendar. -/
structure Rul where
  ev : Int
  at_ : Int
  fr : Int
  to_ : Int
  but : List Int

/-- The cells of a rule. -/
def RulIs (w : World) (vs : List Value) (e : Rul) : Prop :=
  ∃ a l c, vs = [.int .i64 e.ev, .int .i64 e.at_, .int .i64 e.fr, .int .i64 e.to_, .slice a l c] ∧ IsRow .i64 w a l c e.but ∧ (Lit.int .i64 e.ev).wf = true ∧ (Lit.int .i64 e.at_).wf = true ∧ (Lit.int .i64 e.fr).wf = true ∧ (Lit.int .i64 e.to_).wf = true
theorem RulIs.lasts : Lasts RulIs := by
  rintro w w' vs e hb ⟨a, l, c, rfl, h, h2⟩
  exact ⟨a, l, c, rfl, h.below hb, h2⟩
def IsRuls (w : World) (a : Option Addr) (len cap : Nat) (rs : List Rul) : Prop := IsRecs 5 RulIs w a len cap rs
theorem IsRuls.below {w w' : World} {a : Option Addr} {len cap : Nat} {rs : List Rul} (h : IsRuls w a len cap rs) (hb : Below w.heap.size w w') : IsRuls w' a len cap rs := IsRecs.below RulIs.lasts h hb
theorem IsRuls.alloc {w : World} {a : Option Addr} {len cap : Nat} {rs : List Rul} (h : IsRuls w a len cap rs) (o : Obj) : IsRuls (w.alloc o) a len cap rs := IsRecs.alloc RulIs.lasts h o
/-- One rule, by its place: its five cells. -/
theorem IsRuls.at {w : World} {a : Option Addr} {len cap : Nat} {rs : List Rul} (h : IsRuls w a len cap rs) {i : Nat} (hi : i < rs.length) :
    ∃ b off, a = some ⟨b, off, none⟩ ∧ len ≤ cap ∧ b < w.heap.size ∧ ∃ a' l c, w.cell? ⟨b, off + i * 5, none⟩ = some (.int .i64 rs[i].ev) ∧ w.cell? ⟨b, off + i * 5 + 1, none⟩ = some (.int .i64 rs[i].at_) ∧ w.cell? ⟨b, off + i * 5 + 2, none⟩ = some (.int .i64 rs[i].fr) ∧ w.cell? ⟨b, off + i * 5 + 3, none⟩ = some (.int .i64 rs[i].to_) ∧ w.cell? ⟨b, off + i * 5 + 4, none⟩ = some (.slice a' l c) ∧ IsRow .i64 w a' l c rs[i].but ∧ (Lit.int .i64 rs[i].ev).wf = true ∧ (Lit.int .i64 rs[i].at_).wf = true ∧ (Lit.int .i64 rs[i].fr).wf = true ∧ (Lit.int .i64 rs[i].to_).wf = true := by
  obtain ⟨b, off, rfl, h1, h2, vs, hv, hc, a', l, c, rfl, h3⟩ := IsRecs.at h hi
  exact ⟨b, off, rfl, h1, h2, a', l, c, hc 0 (by simp), hc 1 (by simp), hc 2 (by simp), hc 3 (by simp), hc 4 (by simp), h3⟩

theorem info_CalRule : (Tryz.prog.info? 50).map (fun i => (i.zero, i.size, i.bytes)) = some (some (.agg #[.int .i64 0, .int .i64 0, .int .i64 0, .int .i64 0, .slice none 0 0]), 5, 56) := by kernel_rfl
end Go.Proofs.YtkemfifkjaclhaaGreatDoor

namespace Go.Proofs.YtkemfifkjaclhaaGreatDoor
set_option linter.unusedVariables false
set_option linter.unusedSimpArgs false
open Go.RowKit

/-- The slice v, of n elements of 'size' cells, gathers xs: it is empty without room, or owns a row among the blocks from F on. -/
def Acc (w : World) (F : Nat) (e : TypeId) (size : Nat) (v : Value) (n : Nat) (xs : List Value) : Prop :=
  (n = 0 ∧ xs = [] ∧ ∃ a, v = .slice a 0 0 ∧ ∀ x, a = some x → x.spot = none ∧ x.block < w.heap.size) ∨ w.ownsRow F e size v n xs

theorem Acc.nil (w : World) (F : Nat) (e : TypeId) (size : Nat) : Acc w F e size (.slice none 0 0) 0 [] := .inl ⟨rfl, rfl, none, rfl, fun _ h => by cases h⟩
theorem Acc.empty {w : World} (F : Nat) (e : TypeId) (size : Nat) {b off : Nat} (h : b < w.heap.size) : Acc w F e size (.slice (some ⟨b, off, none⟩) 0 0) 0 [] := .inl ⟨rfl, rfl, _, rfl, fun x h' => by cases h'; exact ⟨rfl, h⟩⟩
theorem Acc.below {w w' : World} {F : Nat} {e : TypeId} {size : Nat} {v : Value} {n : Nat} {xs : List Value} (h : Acc w F e size v n xs) (hb : Below w.heap.size w w') : Acc w' F e size v n xs := by
  rcases h with ⟨rfl, rfl, a, rfl, h⟩ | h
  · exact .inl ⟨rfl, rfl, a, rfl, fun x hx => ⟨(h x hx).1, Nat.lt_of_lt_of_le (h x hx).2 hb.size⟩⟩
  · exact .inr (own_below h hb)
theorem Acc.alloc {w : World} {F : Nat} {e : TypeId} {size : Nat} {v : Value} {n : Nat} {xs : List Value} (h : Acc w F e size v n xs) (o : Obj) : Acc (w.alloc o) F e size v n xs := h.below ((Below.refl _ _).alloc (Nat.le_refl _) _)
theorem Acc.row {w : World} {F : Nat} {e : TypeId} {v : Value} {n : Nat} {xs : List Value} (h : Acc w F e 1 v n xs) : Row w v xs := by
  rcases h with ⟨rfl, rfl, a, rfl, h⟩ | h
  · cases a with
    | none => exact Row.nil w
    | some x =>
      obtain ⟨b, off, spot⟩ := x
      obtain ⟨hs, hb⟩ := h _ rfl
      simp only at hs hb
      subst hs
      exact .inr ⟨b, off, 0, rfl, Nat.le_refl _, Nat.zero_le _, hb, fun i x hx => by simp at hx⟩
  · exact Row.owned h

theorem append_empty {P : Program} (w : World) (t ty e : TypeId) (i : TypeInfo) (z : Value) (ht : P.underlying t = some (.slice e)) (hi : P.info? e = some i) (hz : i.zero = some z)
    (b : Option Addr) (a : Addr) (m c : Nat) (news : List Value) (hl : news.length = m * i.size) (hnews : ∀ j v, news[j]? = some v → w.cell? (a.add j) = some v)
    (h0 : 0 < m) (h63 : (m : Int) ≤ 9223372036854775807) (h48 : m * i.bytes ≤ 140737488355328) :
    (Builtin.append_ #[t, t] ty #[.slice b 0 0, .slice (some a) m c]).run P w = (Builtin.append_ #[t, t] ty #[.slice none 0 0, .slice (some a) m c]).run P w := by
  cases b with
  | none => rfl
  | some b =>
    rw [run_append_nil w t ty e i z ht hi hz a m c news hl hnews h0 h63 (by omega)]
    have := run_append_grow w t ty e i z ht hi hz b 0 0 [] (by simp) (by simp) a m c news hl hnews (by omega) (by simpa using h63) (growslice_fits (by omega) (by rw [Nat.zero_add]; exact h48))
    simpa using this

theorem run_acc {P : Program} (w : World) (F : Nat) (t ty e : TypeId) (i : TypeInfo) (z : Value) (size bytes : Nat) (ht : P.underlying t = some (.slice e)) (hi : P.info? e = some i) (hz : i.zero = some z)
    (hsize : i.size = size) (hby : i.bytes = bytes) (hzs : z.cells.size = size) (hsz : 0 < size)
    (v : Value) (n : Nat) (xs : List Value) (hacc : Acc w F e size v n xs)
    (a : Addr) (m c : Nat) (news : List Value) (hm : 0 < m) (hl : news.length = m * size) (hnews : ∀ j u, news[j]? = some u → w.cell? (a.add j) = some u) (h1 : ∀ u ∈ news, u.oneCell' = true)
    (h63 : n + m ≤ maxLen) (hbytes : (n + m) * bytes ≤ 140737488355328) (hF : F ≤ w.heap.size) :
    ∃ v' w', (Builtin.append_ #[t, t] ty #[v, .slice (some a) m c]).run P w = .ok v' w' ∧ w'.ownsRow F e size v' (n + m) (xs ++ news) ∧ Below F w w' := by
  rcases hacc with ⟨rfl, rfl, b, rfl, _⟩ | hown
  · have h63' : (m : Int) ≤ 9223372036854775807 := by unfold maxLen at h63; omega
    rw [append_empty w t ty e i z ht hi hz b a m c news (by rw [hsize]; exact hl) hnews hm h63' (by rw [hby]; simpa using hbytes)]
    obtain ⟨v', w', hr, h2, h3, _⟩ := run_append_own (P := P) w F t ty e i z size bytes ht hi hz hsize hby hzs hsz (.slice none 0 0) 0 [] (World.ownsRow_nil _ _ _ _) a m c news hl hnews h1 h63 hbytes hF
    exact ⟨v', w', hr, h2, (Below.refl F w).grown h3 hF (fun k hk => by cases hk)⟩
  · obtain ⟨v', w', hr, h2, h3, _⟩ := run_append_own (P := P) w F t ty e i z size bytes ht hi hz hsize hby hzs hsz v n xs hown a m c news hl hnews h1 h63 hbytes hF
    exact ⟨v', w', hr, h2, (Below.refl F w).grown h3 hF (fun k hk => (hown.lt k hk).1)⟩

theorem wp_acc {P : Program} {w : World} {ops : Array Oper} {rest : List Oper} {o : Oper} {a : Act} {Q : Exit → Act → World → Prop} (hgd : o.guard = none) (s x : Operand) (t : TypeId)
    (ho : o.op = .call { callee := .builtin .append, args := #[s, x], argTypes := #[t, t] })
    (F : Nat) (e : TypeId) (z : Value) (size bytes : Nat) (ht : P.underlying t = some (.slice e)) (hinfo : (P.info? e).map (fun i => (i.zero, i.size, i.bytes)) = some (some z, size, bytes))
    (hzs : z.cells.size = size) (hsz : 0 < size)
    (v : Value) (n : Nat) (xs : List Value) (hs : a.eval s = v) (hacc : Acc w F e size v n xs)
    (ad : Addr) (m c : Nat) (news : List Value) (hx : a.eval x = .slice (some ad) m c) (hm : 0 < m) (hl : news.length = m * size) (hnews : ∀ j u, news[j]? = some u → w.cell? (ad.add j) = some u) (h1 : ∀ u ∈ news, u.oneCell' = true)
    (h63 : n + m ≤ maxLen) (hbytes : (n + m) * bytes ≤ 140737488355328) (hF : F ≤ w.heap.size)
    (h : ∀ v' w', Acc w' F e size v' (n + m) (xs ++ news) → Below F w w' → wpList P ops Q rest (a.put o.dst v') w') : wpList P ops Q (o :: rest) a w := by
  obtain ⟨i, hi, hzz⟩ := Option.map_eq_some_iff.1 hinfo
  simp only [Prod.mk.injEq] at hzz
  obtain ⟨hz, hsize, hby⟩ := hzz
  refine wpList_plain hgd fun K hK => ?_
  obtain ⟨v', w', hr, h2, h3⟩ := run_acc (P := P) w F t o.type e i z size bytes ht hi hz hsize hby hzs hsz v n xs hacc ad m c news hm hl hnews h1 h63 hbytes hF
  unfold Oper.wp execOp
  simp only [ho, resolve, invoke, builtin, Sem.run_bind, Sem.run_pure, Result.andThen_ok, List.map_toArray, List.map_cons, List.map_nil, hs, hx, hr]
  exact hK _ _ (h v' w' (.inr h2) h3)

theorem Tryz.infoI : (Tryz.prog.info? 3).map (fun i => (i.zero, i.size, i.bytes)) = some (some (.int .i64 0), 1, 8) := by kernel_rfl
theorem append_none {P : Program} (w : World) (t ty e : TypeId) (i : TypeInfo) (ht : P.underlying t = some (.slice e)) (hi : P.info? e = some i) (b x : Option Addr) (c : Nat) :
    (Builtin.append_ #[t, t] ty #[.slice b 0 0, .slice x 0 c]).run P w = .ok (.slice b 0 0) w := by
  cases b <;> cases x <;> simp [Builtin.append_, run_underlying ht, sizeOf, typeInfo, hi, Builtin.lenOf, Builtin.firstCells, loadCells, loadCellsFrom, storeCells]
end Go.Proofs.YtkemfifkjaclhaaGreatDoor
