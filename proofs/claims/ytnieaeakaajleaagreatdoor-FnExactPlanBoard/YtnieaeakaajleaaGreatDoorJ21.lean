/- errors.As at the program's own error of calendars: one of them is. -/
import Derived.Test.YtnieaeakaajleaaGreatDoorJ20
import Derived.Test.YtnieaeakaajleaaGreatDoorJ15
import Derived.Test.YtnieaeakaajleaaGreatDoorJ10
import Derived.Test.YtnieaeakaajleaaGreatDoorJ3
namespace Go.Proofs.YtnieaeakaajleaaGreatDoor
set_option linter.unusedVariables false
set_option linter.unusedSimpArgs false
open Go.RowKit Go

namespace RI
theorem dep {o : Oper} {listed : Array Bool} (haft : ∀ e ∈ o.after, Region.binds .any e = true → listed.getD e.on false = true) (j : Nat) (h : o.after.any (fun e => e.on == j && Region.binds .any e) = true) : listed.getD j false = true := by
  obtain ⟨k, hk, he⟩ := Array.any_eq_true.1 h
  simp only [Bool.and_eq_true, beq_iff_eq] at he
  rw [← he.1]
  exact haft _ (Array.getElem_mem hk) he.2
theorem op_one {P : Program} {ops : Array Oper} {Q : Exit → Act → World → Prop} {i : Nat} {o : Oper} {a : Act} {w : World} {K : Act → World → Prop} (hi : ops[i]? = some o) (hw : Region.wanted o (yielded ops a.tmps) = true)
    (h : ∀ K' : Act → World → Prop, (∀ a' w', K a' w' → K' a' w') → Oper.wp P o a w K' Q) : wpOp P ops Q i K a w := by
  unfold wpOp
  simp only [hi, hw, if_true]
  exact .inl (h K fun _ _ h => h)
theorem op_val {P : Program} {ops : Array Oper} {Q : Exit → Act → World → Prop} {i : Nat} {o : Oper} {a : Act} {w : World} {K : Act → World → Prop} {v : Value} {d : Option Nat} (hi : ops[i]? = some o) (hw : Region.wanted o (yielded ops a.tmps) = true) (hd : o.dst = d)
    (hx : (execOp a.eval o).run P w = .ok (.value v) w) (h : K (a.put d v) w) : wpOp P ops Q i K a w := by
  refine op_one hi hw fun K' hK => ?_
  unfold Oper.wp
  rw [hx]
  exact hK _ _ (by rw [hd]; exact h)
end RI

namespace Pl
def comB : ByteArray := ⟨#[44]⟩
def wLast : ByteArray := ⟨#[108, 97, 115, 116]⟩
def wNext : ByteArray := ⟨#[110, 101, 120, 116]⟩
def wGoes : ByteArray := ⟨#[103, 111, 101, 115]⟩
def wWaits : ByteArray := ⟨#[119, 97, 105, 116, 115]⟩
/-- The first three rows. -/
def headRows (LA NX : ByteArray) (goes waits : List Int) : List (ByteArray × List ByteArray) := [(wLast, [LA ++ comB, wNext, NX]), (wGoes, numS goes), (wWaits, numS waits)]

/-- What an operation leaves in its slot. -/
def OkB (n : Nat) (ra : Option Addr) (rl rc : Nat) (ga : Option Addr) (gl gc : Nat) (wa : Option Addr) (wl wk : Nat) (last nx : Int) (LA NX : ByteArray) (goes waits : List Int) : Nat → Value → World → Prop
  | 0, v, _ => v = .pointer (some ⟨n, 3, none⟩)
  | 1, v, _ => v = .int .i64 last
  | 2, v, _ => v = .string LA
  | 3, v, _ => v = .string (LA ++ comB)
  | 4, v, _ => v = .pointer (some ⟨n, 0, none⟩)
  | 5, v, _ => v = .slice ra rl rc
  | 6, v, _ => v = .pointer (some ⟨n, 3, none⟩)
  | 7, v, _ => v = .int .i64 last
  | 8, v, _ => v = .int .i64 nx
  | 9, v, _ => v = .string NX
  | 10, v, W => W.ownsRow (n + 1) 9 1 v 4 (sv [wLast, LA ++ comB, wNext, NX])
  | 11, v, W => ∃ k, v = .slice (some ⟨k, 0, none⟩) 1 1 ∧ W.ownsRow (n + 1) 9 1 v 1 (sv [wGoes])
  | 12, v, _ => v = .pointer (some ⟨n, 4, none⟩)
  | 13, v, _ => v = .slice ga gl gc
  | 14, v, W => Row W v (sv (numS goes))
  | 15, v, W => W.ownsRow (n + 1) 9 1 v (1 + (numS goes).length) (sv (wGoes :: numS goes))
  | 16, v, W => ∃ k, v = .slice (some ⟨k, 0, none⟩) 1 1 ∧ W.ownsRow (n + 1) 9 1 v 1 (sv [wWaits])
  | 17, v, _ => v = .pointer (some ⟨n, 5, none⟩)
  | 18, v, _ => v = .slice wa wl wk
  | 19, v, W => Row W v (sv (numS waits))
  | 20, v, W => W.ownsRow (n + 1) 9 1 v (1 + (numS waits).length) (sv (wWaits :: numS waits))
  | _ + 21, v, W => OwnRowsW W (n + 1) v (headRows LA NX goes waits)
variable {n : Nat} {ra : Option Addr} {rl rc : Nat} {ga : Option Addr} {gl gc : Nat} {wa : Option Addr} {wl wk : Nat} {last nx : Int} {LA NX : ByteArray} {goes waits : List Int}
theorem OkB.mono {v : Value} {W W' : World} (hb : Below W.heap.size W W') : ∀ j, OkB n ra rl rc ga gl gc wa wl wk last nx LA NX goes waits j v W → OkB n ra rl rc ga gl gc wa wl wk last nx LA NX goes waits j v W'
  | 0, h => h | 1, h => h | 2, h => h | 3, h => h | 4, h => h | 5, h => h | 6, h => h | 7, h => h | 8, h => h | 9, h => h
  | 10, h => own_below (show W.ownsRow _ _ _ _ _ _ from h) hb
  | 11, h => by obtain ⟨k, e, h⟩ := (show ∃ k, _ from h); exact ⟨k, e, own_below h hb⟩
  | 12, h => h | 13, h => h
  | 14, h => Row.below' (show Row W v _ from h) hb
  | 15, h => own_below (show W.ownsRow _ _ _ _ _ _ from h) hb
  | 16, h => by obtain ⟨k, e, h⟩ := (show ∃ k, _ from h); exact ⟨k, e, own_below h hb⟩
  | 17, h => h | 18, h => h
  | 19, h => Row.below' (show Row W v _ from h) hb
  | 20, h => own_below (show W.ownsRow _ _ _ _ _ _ from h) hb
  | _ + 21, h => OwnRowsW.below (show OwnRowsW W _ v _ from h) hb

def frameB (t0 : Value) (n : Nat) (xs : Nat → Value) : Act :=
  { tmps := #[t0, .pointer (some ⟨n, 0, none⟩), .string ⟨#[]⟩, xs 22, undef, undef, t0, .bool true, .bool false, xs 0, xs 1, xs 2, xs 3, xs 4, xs 5, xs 6, xs 7, xs 8, xs 9, xs 10, xs 11, xs 12, xs 13, xs 14, xs 15, xs 16, xs 17, xs 18, xs 19, xs 20, xs 21, undef, undef, undef, undef, undef, undef, undef, undef, undef, undef, undef, undef, undef, undef, undef], defers := [] }
def upd (xs : Nat → Value) (i : Nat) (v : Value) : Nat → Value := fun j => if j = i then v else xs j
theorem upd_same (xs : Nat → Value) (i : Nat) (v : Value) : upd xs i v i = v := if_pos rfl
theorem upd_else (xs : Nat → Value) {i j : Nat} (v : Value) (h : j ≠ i) : upd xs i v j = xs j := if_neg h

def InvB (n : Nat) (ra : Option Addr) (rl rc : Nat) (ga : Option Addr) (gl gc : Nat) (wa : Option Addr) (wl wk : Nat) (last nx : Int) (LA NX : ByteArray) (goes waits : List Int) (t0 : Value) (w0 : World) (listed : Array Bool) (a : Act) (W : World) : Prop :=
  ∃ xs : Nat → Value, a = frameB t0 n xs ∧ Below (n + 1) w0 W ∧ ∀ j, j < 23 → listed.getD j false = true → OkB n ra rl rc ga gl gc wa wl wk last nx LA NX goes waits j (xs j) W
theorem InvB.put {t0 : Value} {w0 W W' : World} {listed : Array Bool} {a' : Act} {xs : Nat → Value} (hz : w0.heap.size = n + 1) (hB : Below (n + 1) w0 W) (hF : ∀ j, j < 23 → listed.getD j false = true → OkB n ra rl rc ga gl gc wa wl wk last nx LA NX goes waits j (xs j) W) (i : Nat) (v : Value) (ha : a' = frameB t0 n (upd xs i v)) (hb : Below W.heap.size W W')
    (hok : OkB n ra rl rc ga gl gc wa wl wk last nx LA NX goes waits i v W') : InvB n ra rl rc ga gl gc wa wl wk last nx LA NX goes waits t0 w0 (listed.setIfInBounds i true) a' W' := by
  refine ⟨upd xs i v, ha, hB.trans (hb.mono (by have := hB.size; omega)), fun j hj hl => ?_⟩
  by_cases e : j = i
  · subst e; rw [upd_same]; exact hok
  · rw [upd_else xs v e]
    refine OkB.mono hb j (hF j hj ?_)
    have h2 : (listed.setIfInBounds i true)[j]? = listed[j]? := by rw [Array.getElem?_setIfInBounds]; simp [Ne.symm e]
    simpa [Array.getD_eq_getD_getElem?, h2] using hl
end Pl
end Go.Proofs.YtnieaeakaajleaaGreatDoor

namespace Go.Proofs.YtnieaeakaajleaaGreatDoor
set_option linter.unusedVariables false
set_option linter.unusedSimpArgs false
open Go.RowKit Go
namespace Pl
noncomputable def headR (p : Pla) : List (ByteArray × List ByteArray) := headRows (itoB p.last) (itoB (calNext p.rs p.last)) p.goes p.waits
noncomputable def toldR (ts : List Tld) : List (ByteArray × List ByteArray) := ts.map fun t => (itoB t.tk, [whB t.wh])
theorem bLast_eq : bLast = wLast ++ spB := by apply ByteArray.ext; rfl
theorem bNext_eq : bNext = comB ++ (spB ++ (wNext ++ spB)) := by apply ByteArray.ext; rfl
theorem bGoes_eq : bGoes = nlB ++ wGoes := by apply ByteArray.ext; rfl
theorem bWaits_eq : bWaits = nlB ++ wWaits := by apply ByteArray.ext; rfl
theorem numsT_app (l : List Int) (x y : ByteArray) : numsT (x ++ y) l = x ++ numsT y l := by
  induction l generalizing y with
  | nil => rfl
  | cons z r ih =>
    have h := ih (y ++ spB ++ itoB z)
    simp only [numsT, List.foldl_cons] at h ⊢
    rw [← h]; simp only [ByteArray.append_assoc]
theorem joinB_nums (l : List Int) (x : ByteArray) : joinB x (numS l) = numsT x l := by
  unfold joinB numS numsT
  rw [List.foldl_map]
theorem wT_told (t : Tld) : wT (itoB t.tk, [whB t.wh]) = itoB t.tk ++ spB ++ whB t.wh := by simp [wT, joinB]
theorem rowsT_told (rs : List (ByteArray × List ByteArray)) (ts : List Tld) : rowsT (rs ++ toldR ts) = toldT (rowsT rs) ts := by
  unfold rowsT toldT toldR
  rw [List.foldl_append, List.foldl_map]
  congr 1
  funext o t
  rw [wT_told]; simp only [ByteArray.append_assoc]
theorem rows_board (p : Pla) : rowsT (headR p ++ toldR p.told) = boardT p := by
  rw [rowsT_told]
  unfold boardT
  congr 1
  have e1 : rowsT (headR p) = (⟨#[]⟩ : ByteArray) ++ wT (wLast, [itoB p.last ++ comB, wNext, itoB (calNext p.rs p.last)]) ++ nlB ++ joinB wGoes (numS p.goes) ++ nlB ++ joinB wWaits (numS p.waits) ++ nlB := rfl
  have e0 : (⟨#[]⟩ : ByteArray) ++ wT (wLast, [itoB p.last ++ comB, wNext, itoB (calNext p.rs p.last)]) = wLast ++ spB ++ (itoB p.last ++ comB) ++ spB ++ wNext ++ spB ++ itoB (calNext p.rs p.last) := by
    have : (⟨#[]⟩ : ByteArray) = ByteArray.empty := rfl
    rw [this, ByteArray.empty_append]; rfl
  have e2 : numsT (headP p) p.goes = bLast ++ itoB p.last ++ bNext ++ itoB (calNext p.rs p.last) ++ nlB ++ numsT wGoes p.goes := by
    unfold headP; rw [bGoes_eq, ← ByteArray.append_assoc, numsT_app]
  rw [e1, e0, joinB_nums, joinB_nums, e2, bWaits_eq, ← ByteArray.append_assoc, numsT_app, bLast_eq, bNext_eq]
  simp only [ByteArray.append_assoc]
  rw [numsT_app p.waits nlB wWaits]
  simp only [ByteArray.append_assoc]
theorem rows_small {p : Pla} (h : PlanOk p) (hgf : ∀ n ∈ p.goes, Fits n) (hwf : ∀ n ∈ p.waits, Fits n) (htf : ∀ t ∈ p.told, Fits t.tk) : RowsSm (headR p ++ toldR p.told) := by
  have hgn := h.goesN; have hg8 := mostG_bd p.pol
  have hwn := h.waitsN; have hw8 := mostW_bd p.pol
  have h60 := h.told60
  have h1 := h.last
  have h2 := calNext_bd p.rs p.last
  have s1 := itoB_size p.last (by omega) (by omega)
  have s2 := itoB_size (calNext p.rs p.last) (by omega) (by omega)
  have hlen : (headR p ++ toldR p.told).length = 3 + p.told.length := by simp [headR, headRows, toldR]; omega
  refine ⟨by omega, fun i hi => ?_⟩
  have hmem : (headR p ++ toldR p.told)[i] ∈ headR p ++ toldR p.told := List.getElem_mem hi
  generalize (headR p ++ toldR p.told)[i] = r at hmem
  rcases List.mem_append.1 hmem with hm | hm
  · simp only [headR, headRows, List.mem_cons, List.not_mem_nil, or_false] at hm
    have z0 : wLast.size = 4 := rfl
    have z1 : wNext.size = 4 := rfl
    have z2 : comB.size = 1 := rfl
    have z3 := spB_size
    rcases hm with rfl | rfl | rfl
    · refine ⟨by simp, ?_⟩
      show (wLast ++ spB ++ (itoB p.last ++ comB) ++ spB ++ wNext ++ spB ++ itoB (calNext p.rs p.last)).size ≤ 1000
      simp only [ByteArray.size_append]; omega
    · refine ⟨by simp [numS_len]; omega, ?_⟩
      show (joinB wGoes (numS p.goes)).size ≤ 1000
      rw [joinB_nums]
      have z : wGoes.size = 4 := rfl
      have := numsT_size p.goes hgf wGoes
      omega
    · refine ⟨by simp [numS_len]; omega, ?_⟩
      show (joinB wWaits (numS p.waits)).size ≤ 1000
      rw [joinB_nums]
      have z : wWaits.size = 5 := rfl
      have := numsT_size p.waits hwf wWaits
      omega
  · obtain ⟨t, ht, rfl⟩ := List.mem_map.1 hm
    refine ⟨by simp, ?_⟩
    rw [wT_told]
    have hf := htf t ht
    have s3 := itoB_size t.tk (by have := hf.1; omega) hf.2
    have s4 := whB_size t.wh
    have s5 := spB_size
    simp only [ByteArray.size_append]; omega
end Pl
end Go.Proofs.YtnieaeakaajleaaGreatDoor

namespace Go.Proofs.YtnieaeakaajleaaGreatDoor
set_option linter.unusedVariables false
set_option linter.unusedSimpArgs false
open Go.RowKit Go

/-- What is found wrong with rules: nothing, just if they are ok. -/
def Looked (e : Ending) (rs : List Rul) : Prop := (e = .returned .nilIface ∧ calOk rs = true) ∨ ∃ z : Int, e = .returned (.iface 141 (.agg #[.int .i64 z])) ∧ calOk rs = false

set_option maxHeartbeats 1000000 in
theorem lookedAtRules (a : Option Addr) (len cap : Nat) (rs : List Rul) (w : World) (hr : IsRuls w a len cap rs) :
    Calls Tryz.prog 101 #[.slice a len cap] w fun e w' => Looked e rs ∧ Below w.heap.size w w' := by
  obtain ⟨hz, hm⟩ := IsRecs.len hr
  unfold maxLen at hm
  have HR : Hid (IsRuls w a len cap rs) := hr
  clear hr
  have HT : Hid (∀ n lo hi w, lo ≤ n ∧ n ≤ hi → Calls Tryz.prog 73 #[.int .i64 n, .int .i64 lo, .int .i64 hi] w fun x w' => x = .returned (.bool true) ∧ w' = w) := fun n lo hi w h => isWithin_t n lo hi h w
  have HN : Hid (∀ n lo hi w, ¬ (lo ≤ n ∧ n ≤ hi) → Calls Tryz.prog 73 #[.int .i64 n, .int .i64 lo, .int .i64 hi] w fun x w' => x = .returned (.bool false) ∧ w' = w) := fun n lo hi w h => isWithin_f n lo hi h w
  by_cases hn : (1 : Int) ≤ (len : Int) ∧ (len : Int) ≤ 4
  · go_enter Tryz.func101, Tryz.ntmps101
    go_wp2_with (go_at_call 73; refine (HT.out _ _ _ _ hn).mono ?_; rintro e w1 ⟨rfl, hw⟩; subst w1)
    go_loopw [13] (fun i wr => ∃ q : Nat, i = .int .i64 q ∧ q ≤ len ∧ (∀ i (hi : i < rs.length), i < q → ruleOk rs[i] = true) ∧ Below w.heap.size w wr) (fun i _ => len - (intOf i).toNat)
    case atStart => exact ⟨0, rfl, Nat.zero_le _, fun i _ h => by omega, Below.refl _ _⟩
    case round =>
      obtain ⟨q, rfl, hq, hok, hb⟩ := hrel
      by_cases hlt : q < len
      · obtain ⟨b, off, rfl, h1, hbl, a1, l1, k1, c0, c1, c2, c3, c4, hrow1, _⟩ := IsRuls.at (IsRuls.below HR.out hb) (i := q) (by omega)
        have HE := fun o => implRuleOk rs[q] a1 l1 k1 (wr.alloc o) (hrow1.alloc o)
        by_cases hy : ruleOk rs[q] = true
        · have HOK : Hid (∀ i (hi : i < rs.length), i < q + 1 → ruleOk rs[i] = true) := fun i hi hiq => by
            by_cases e : i = q
            · subst e; exact hy
            · exact hok i hi (by omega)
          rw [hy] at HE
          have HE : Hid _ := HE
          clear hok hy
          go_wp2_with fail
          refine Calls.mono (HE.out _) ?_
          rintro e w1 ⟨rfl, hw1⟩
          go_wp2_with fail
          go_roundw
          case rel => exact ⟨q + 1, by go_num, by omega, HOK.out, bcall (hb.alloc hb.size _) (by have := hb.size; simp; omega) hw1⟩
          case measure => simp [intOf]; omega
        · have hy : ruleOk rs[q] = false := by simpa using hy
          have HF : Hid (calOk rs = false) := calOk_no (by omega) hy
          rw [hy] at HE
          have HE : Hid _ := HE
          clear hok hy
          go_wp2_with fail
          refine Calls.mono (HE.out _) ?_
          rintro e w1 ⟨rfl, hw1⟩
          go_wp2_with fail
          go_ret
          exact ⟨.inr ⟨_, rfl, HF.out⟩, bcall (hb.alloc hb.size _) (by have := hb.size; simp; omega) hw1⟩
      · have hf := calOk_all fun i hi => hok i hi (by omega)
        rw [hz, decide_eq_true hn] at hf
        have HF : Hid (calOk rs = true) := hf
        clear hok hf
        go_wp2_with fail
        go_ret
        exact ⟨.inl ⟨rfl, HF.out⟩, hb⟩
  · have HF : Hid (calOk rs = false) := by
      show calOk rs = false
      unfold calOk
      rw [hz, decide_eq_false hn, Bool.and_false]
    go_enter Tryz.func101, Tryz.ntmps101
    go_wp2_with (go_at_call 73; refine (HN.out _ _ _ _ hn).mono ?_; rintro e w1 ⟨rfl, hw⟩; subst w1)
    go_ret
    exact ⟨.inr ⟨0, rfl, HF.out⟩, Below.refl _ _⟩
end Go.Proofs.YtnieaeakaajleaaGreatDoor

namespace Go.Proofs.YtnieaeakaajleaaGreatDoor
set_option linter.unusedVariables false
set_option linter.unusedSimpArgs false
open Go.RowKit Go.Extern.Stop Go.Stop Go.Extern Go

theorem as_setE (ta b : Addr) (z : Int) (old : Value) (W : World) (hb : W.cell? b = some (.int .i64 z)) (ht : W.cell? ta = some old) (hf : W.frozen? ta = false) :
    (ReflectliteValue.set #[.agg #[.pointer (some ⟨5, 141, none⟩), .pointer (some ta), .int .u64 409], .agg #[.pointer (some ⟨5, 141, none⟩), .pointer (some b), .int .u64 153]]).run Tryz.prog W
      = .ok (.tuple #[]) (W.setCell ta (.int .i64 z)) := by
  rw [as_rls]
  simp only [Sem.run_bind, as_partsEa, as_partsE, Result.andThen]
  simp [ReflectliteValue.flagAddr, loadVar, isAgg, underlying, Tryz.underlying141, hb, Result.andThen, as_directE, as_sizeE, storeVar, Value.cells, storeCells, loadCells, loadCellsFrom, Addr.add]
  rw [run_store Tryz.prog W ta _ _ (by rfl)]
  simp [ht, hf]

set_option maxHeartbeats 4000000 in
theorem as_hit (z : Int) (t : Addr) (old : Value) (w : World) (hg : ErrT w) (ht0 : w.cell? t = some old) (hf0 : w.frozen? t = false) :
    Calls Tryz.prog 100 #[.iface 141 (.agg #[.int .i64 z]), .iface 144 (.pointer (some t))] w fun ev w' => ev = .returned (.bool true) ∧ w' = ((((w.alloc (.cells #[.pointer (some t)] 144)).alloc (.cells #[.pointer (some ⟨5, 144, none⟩), .pointer (some ⟨w.heap.size, 0, none⟩), .int .u64 150] 157)).alloc (.cells #[.pointer (some ⟨5, 144, none⟩), .pointer (some ⟨w.heap.size, 0, none⟩), .int .u64 150] 157)).alloc (.cells #[.int .i64 z] 141)).setCell t (.int .i64 z) := by
  have x1 := @run_callFunc_extern Tryz.prog 114 _ (fun args => ReflectliteValue.unpack (args.getD 0 (.tuple #[]))) Tryz.func114 (by kernel_rfl) (by kernel_rfl) (by kernel_rfl) (by kernel_rfl)
  have x2 := @run_callFunc_extern Tryz.prog 115 _ (ReflectliteValue.methodAny (ReflectliteValue.valueError "reflectlite.Value.Type" 0) (fun t _ _ _ => ReflectliteType.toType t)) Tryz.func115 (by kernel_rfl) (by kernel_rfl) (by kernel_rfl) (by kernel_rfl)
  have x3 := @run_callFunc_extern Tryz.prog 116 _ (ReflectliteValue.method (ReflectliteValue.valueError "reflectlite.Value.IsNil" 0) ReflectliteValue.isNil) Tryz.func116 (by kernel_rfl) (by kernel_rfl) (by kernel_rfl) (by kernel_rfl)
  have x4 := @run_callFunc_extern Tryz.prog 155 _ (ReflectliteType.abiMethod fun t => do pure (.int .u8 (← Rtype.kind t))) Tryz.func155 (by kernel_rfl) (by kernel_rfl) (by kernel_rfl) (by kernel_rfl)
  have x5 := @run_callFunc_extern Tryz.prog 172 _ (ReflectliteType.method ReflectliteType.elem) Tryz.func172 (by kernel_rfl) (by kernel_rfl) (by kernel_rfl) (by kernel_rfl)
  have x6 := @run_callFunc_extern Tryz.prog 173 _ (ReflectliteType.relation "Implements" ReflectliteType.implements_) Tryz.func173 (by kernel_rfl) (by kernel_rfl) (by kernel_rfl) (by kernel_rfl)
  have x7 := @run_callFunc_extern Tryz.prog 127 _ ReflectliteType.typeOf Tryz.func127 (by kernel_rfl) (by kernel_rfl) (by kernel_rfl) (by kernel_rfl)
  have x8 := @run_callFunc_extern Tryz.prog 170 _ (ReflectliteType.relation "AssignableTo" ReflectliteType.assignableTo) Tryz.func170 (by kernel_rfl) (by kernel_rfl) (by kernel_rfl) (by kernel_rfl)
  have x9 := @run_callFunc_extern Tryz.prog 128 _ (ReflectliteValue.method (ReflectliteValue.valueError "reflectlite.Value.Elem" 0) ReflectliteValue.elem) Tryz.func128 (by kernel_rfl) (by kernel_rfl) (by kernel_rfl) (by kernel_rfl)
  have x10 := @run_callFunc_extern Tryz.prog 129 _ ReflectliteValue.set Tryz.func129 (by kernel_rfl) (by kernel_rfl) (by kernel_rfl) (by kernel_rfl)
  have tO := as_typeOfE
  have mA := as_methodAssignableTo
  have aE := as_assignableE
  have vE := as_valueOfE
  have f6 := as_valueOfP
  have f7 := as_typeP
  have mK := as_methodKind
  have mE := as_methodElem
  have mI := as_methodImplements
  have kP := as_kindP
  have kE := as_kindE
  have eP := as_elemP
  have iE := as_implementsE
  have n8 := as_isNilP ⟨w.heap.size, 0, none⟩ t ((w.alloc (.cells #[.pointer (some t)] 144)).alloc (.cells #[.pointer (some ⟨5, 144, none⟩), .pointer (some ⟨w.heap.size, 0, none⟩), .int .u64 150] 157)) (by simp)
  have hg : w.cell? ⟨0, 0, none⟩ = some (.iface 177 (.agg #[.pointer (some ⟨5, 112, none⟩)])) := hg
  have hlt : 0 < w.heap.size := World.block_lt_of_cell? _ _ hg
  have hg2 : ((w.alloc (.cells #[.pointer (some t)] 144)).alloc (.cells #[.pointer (some ⟨5, 144, none⟩), .pointer (some ⟨w.heap.size, 0, none⟩), .int .u64 150] 157)).cell? ⟨0, 0, none⟩ = some (.iface 177 (.agg #[.pointer (some ⟨5, 112, none⟩)])) := by
    rw [World.cell?_alloc_lt _ _ ⟨0, 0, none⟩ (by simp), World.cell?_alloc_lt _ _ ⟨0, 0, none⟩ hlt]; exact hg
  have htl : t.block < w.heap.size := World.block_lt_of_cell? _ _ ht0
  have el := as_elemVP ⟨w.heap.size, 0, none⟩ t (((w.alloc (.cells #[.pointer (some t)] 144)).alloc (.cells #[.pointer (some ⟨5, 144, none⟩), .pointer (some ⟨w.heap.size, 0, none⟩), .int .u64 150] 157)).alloc (.cells #[.pointer (some ⟨5, 144, none⟩), .pointer (some ⟨w.heap.size, 0, none⟩), .int .u64 150] 157)) (by rw [World.cell?_alloc_lt _ _ ⟨w.heap.size, 0, none⟩ (by simp; omega)]; simp)
  have st := as_setE t ⟨w.heap.size + 1 + 1 + 1, 0, none⟩ z old ((((w.alloc (.cells #[.pointer (some t)] 144)).alloc (.cells #[.pointer (some ⟨5, 144, none⟩), .pointer (some ⟨w.heap.size, 0, none⟩), .int .u64 150] 157)).alloc (.cells #[.pointer (some ⟨5, 144, none⟩), .pointer (some ⟨w.heap.size, 0, none⟩), .int .u64 150] 157)).alloc (.cells #[.int .i64 z] 141))
    (by rw [World.cell?_alloc_at _ _ _ _ (by simp)]; rfl)
    (by rw [World.cell?_alloc_lt _ _ t (by simp; omega), World.cell?_alloc_lt _ _ t (by simp; omega), World.cell?_alloc_lt _ _ t (by simp; omega), World.cell?_alloc_lt _ _ t htl]; exact ht0)
    (by rw [World.frozen?_alloc_old _ _ t (by simp; omega), World.frozen?_alloc_old _ _ t (by simp; omega), World.frozen?_alloc_old _ _ t (by simp; omega), World.frozen?_alloc_old _ _ t (Nat.ne_of_lt htl)]; exact hf0)
  go_enter Tryz.func100, Tryz.ntmps100
  go_wp2
  refine wp_loop_rounds 1 ?_
  rw [rounds_succ]
  go_wp2
  go_ret
  exact ⟨rfl, rfl⟩
end Go.Proofs.YtnieaeakaajleaaGreatDoor
