/- Plans as they lie in memory. -/
import Derived.Test.YtnieaeakaajleaaGreatDoorJ3
import Derived.Laws.OwnMore
import Derived.Shelf.LaysM
import Derived.Shelf.Strconv.Itoa3
import Derived.Test.YtnieaeakaajleaaGreatDoorProg
import Derived.Lib.AppendIntMem
import Derived.Lib.LaidTab
import Derived.Stop.LaidErr
import Derived.Test.YtnieaeakaajleaaGreatDoorJ2
namespace Go.Proofs.YtnieaeakaajleaaGreatDoor
set_option linter.unusedVariables false
set_option linter.unusedSimpArgs false
open Go.RowKit

/-- A whole list is appended onto an empty slice without room. -/
theorem wp_copy_str {w : World} {ops : Array Oper} {rest : List Oper} {o : Oper} {a : Act} {Q : Exit → Act → World → Prop} (hgd : o.guard = none) (s x : Operand)
    (ho : o.op = .call { callee := .builtin .append, args := #[s, x], argTypes := #[67, 67] })
    (F : Nat) (v vx : Value) (xs : List ByteArray) (hs : a.eval s = v) (hacc : Acc w F 9 1 v 0 []) (hv : ∃ b, v = .slice b 0 0)
    (hx : a.eval x = vx) (hr : Row w vx (sv xs)) (hn : xs.length ≤ 1099511627776) (hF : F ≤ w.heap.size)
    (h : ∀ v' w', Acc w' F 9 1 v' xs.length (sv xs) → Below F w w' → wpList Tryz.prog ops Q rest (a.put o.dst v') w') : wpList Tryz.prog ops Q (o :: rest) a w := by
  by_cases h0 : xs.length = 0
  · have hxs : xs = [] := List.length_eq_zero_iff.1 h0
    subst hxs
    obtain ⟨b, rfl⟩ := hv
    obtain ⟨a1, c1, hvx⟩ := hr.form
    simp only [sv, List.map_nil, List.length_nil] at hvx
    subst hvx
    obtain ⟨i, hi, _⟩ := Option.map_eq_some_iff.1 Tryz.infoS
    refine wpList_plain hgd fun K hK => ?_
    have hrun := append_none (P := Tryz.prog) w 67 o.type 9 i Tryz.underlying67 hi b a1 c1
    unfold Oper.wp execOp
    simp only [ho, resolve, invoke, builtin, Sem.run_bind, Sem.run_pure, Result.andThen_ok, List.map_toArray, List.map_cons, List.map_nil, hs, hx, hrun]
    exact hK _ _ (h _ w hacc (Below.refl _ _))
  · obtain ⟨b1, off1, cap1, rfl⟩ : ∃ b1 off1 cap1, vx = .slice (some ⟨b1, off1, none⟩) xs.length cap1 := by
      rcases hr with ⟨_, h'⟩ | ⟨b1, off1, cap1, h', _⟩
      · exact absurd (by simpa [sv] using congrArg List.length h') h0
      · exact ⟨b1, off1, cap1, by rw [h', sv_len]⟩
    have hcell : ∀ j u, (sv xs)[j]? = some u → w.cell? ((⟨b1, off1, none⟩ : Addr).add j) = some u := by
      rcases hr with ⟨h', _⟩ | ⟨b2, off2, cap2, h', _, _, _, hc⟩
      · simp at h'
      · simp only [Value.slice.injEq, Option.some.injEq, Addr.mk.injEq] at h'
        obtain ⟨⟨rfl, rfl, _⟩, _, _⟩ := h'
        intro j u hj
        rw [Addr.add_lit]; exact hc j u hj
    refine wp_acc hgd s x 67 ho F 9 _ 1 16 Tryz.underlying67 Tryz.infoS rfl (by decide) v 0 [] hs hacc ⟨b1, off1, none⟩ xs.length cap1 (sv xs) hx (by omega) (by rw [sv_len, Nat.mul_one]) hcell ?_ (by unfold maxLen; omega) (by omega) hF ?_
    · intro u hu
      simp only [sv, List.mem_map] at hu
      obtain ⟨q, _, rfl⟩ := hu
      rfl
    · intro v' w' h1 h2
      exact h v' w' (by simpa using h1) h2
end Go.Proofs.YtnieaeakaajleaaGreatDoor

namespace Go.Proofs.YtnieaeakaajleaaGreatDoor
set_option linter.unusedVariables false
set_option linter.unusedSimpArgs false
open Go.RowKit

theorem wp_app_strs {w : World} {ops : Array Oper} {rest : List Oper} {o : Oper} {a : Act} {Q : Exit → Act → World → Prop} (hgd : o.guard = none) (s x : Operand)
    (ho : o.op = .call { callee := .builtin .append, args := #[s, x], argTypes := #[67, 67] })
    (F : Nat) (v vx : Value) (n : Nat) (xs ys : List ByteArray) (hs : a.eval s = v) (hacc : w.ownsRow F 9 1 v n (sv xs))
    (hx : a.eval x = vx) (hr : Row w vx (sv ys)) (hn : n + ys.length ≤ 1099511627776) (hF : F ≤ w.heap.size)
    (h : ∀ v' w', w'.ownsRow F 9 1 v' (n + ys.length) (sv (xs ++ ys)) → Below F w w' → w.grownBy w' v.ownBlock → wpList Tryz.prog ops Q rest (a.put o.dst v') w') : wpList Tryz.prog ops Q (o :: rest) a w := by
  obtain ⟨i, hi, hzz⟩ := Option.map_eq_some_iff.1 Tryz.infoS
  simp only [Prod.mk.injEq] at hzz
  obtain ⟨hz, hsize, hby⟩ := hzz
  have fin : ∃ v' w', (Builtin.append_ #[67, 67] o.type #[v, vx]).run Tryz.prog w = .ok v' w' ∧ w'.ownsRow F 9 1 v' (n + ys.length) (sv (xs ++ ys)) ∧ Below F w w' ∧ w.grownBy w' v.ownBlock := by
    rcases hr with ⟨rfl, he⟩ | ⟨b, off, cap, rfl, h1, h2, hb, hc⟩
    · have hy : ys = [] := by cases ys with | nil => rfl | cons y r => simp [sv] at he
      subst hy
      exact ⟨v, w, run_append_owned_none (w := w) F 67 o.type 9 i 1 Tryz.underlying67 hi v n (sv xs) hacc, by simpa using hacc, Below.refl _ _, ⟨rfl, rfl, rfl, Nat.le_refl _, fun _ _ _ => rfl⟩⟩
    · obtain ⟨v', w', hr, h2, h3, _⟩ := run_append_own (P := Tryz.prog) w F 67 o.type 9 i _ 1 16 Tryz.underlying67 hi hz hsize hby rfl (by decide) v n (sv xs) hacc ⟨b, off, none⟩ (sv ys).length cap (sv ys) (by rw [Nat.mul_one]) (fun j u hj => by rw [Addr.add_lit]; exact hc j u hj) (fun u hu => by simp only [sv, List.mem_map] at hu; obtain ⟨q, _, rfl⟩ := hu; rfl) (by rw [sv_len]; unfold maxLen; omega) (by rw [sv_len]; omega) hF
      refine ⟨v', w', hr, ?_, (Below.refl F w).grown h3 hF (fun k hk => (hacc.lt k hk).1), h3⟩
      rw [sv_len] at h2
      rw [sv_app]; exact h2
  obtain ⟨v', w', hrun, h2, h3, h4⟩ := fin
  refine wpList_plain hgd fun K hK => ?_
  unfold Oper.wp execOp
  simp only [ho, resolve, invoke, builtin, Sem.run_bind, Sem.run_pure, Result.andThen_ok, List.map_toArray, List.map_cons, List.map_nil, hs, hx, hrun]
  exact hK _ _ (h v' w' h2 h3 h4)
end Go.Proofs.YtnieaeakaajleaaGreatDoor

namespace Go.Proofs.YtnieaeakaajleaaGreatDoor
set_option linter.unusedVariables false
set_option linter.unusedSimpArgs false
open Go.Shelf Go
def laysM171_ren : Go.Shelf.Ren := ⟨fun | 171 => 46 | 243 => 79 | 246 => 106 | 283 => 120 | 284 => 121 | 285 => 122 | 286 => 123 | 129 => 133 | 317 => 132 | 318 => 134 | 319 => 135 | 320 => 136 | 337 => 139 | 338 => 140 | n => n, fun | 3 => 3 | 9 => 9 | 2 => 2 | 4 => 4 | 171 => 167 | 0 => 0 | 53 => 168 | 37 => 102 | 5 => 5 | 173 => 171 | 212 => 192 | 51 => 193 | 20 => 20 | 213 => 194 | 46 => 195 | 232 => 200 | 233 => 201 | n => n, fun | 17 => 1 | 18 => 3 | 19 => 4 | n => n⟩
theorem laysM171 : Go.Proofs.LaysM.n171 Tryz.prog laysM171_ren := {
  mixed := by kernel_rfl
  f129 := Tryz.func133.trans (congrArg some (by kernel_rfl))
  f171 := Tryz.func46.trans (congrArg some (by kernel_rfl))
  f243 := Tryz.func79.trans (congrArg some (by kernel_rfl))
  f246 := Tryz.func106.trans (congrArg some (by kernel_rfl))
  f283 := Tryz.func120.trans (congrArg some (by kernel_rfl))
  f284 := Tryz.func121.trans (congrArg some (by kernel_rfl))
  f285 := Tryz.func122.trans (congrArg some (by kernel_rfl))
  f286 := Tryz.func123.trans (congrArg some (by kernel_rfl))
  f317 := Tryz.func132.trans (congrArg some (by kernel_rfl))
  f318 := Tryz.func134.trans (congrArg some (by kernel_rfl))
  f319 := Tryz.func135.trans (congrArg some (by kernel_rfl))
  f320 := Tryz.func136.trans (congrArg some (by kernel_rfl))
  f337 := Tryz.func139.trans (congrArg some (by kernel_rfl))
  f338 := Tryz.func140.trans (congrArg some (by kernel_rfl))
  t0 := Tryz.underlying0
  a0 := Tryz.isAgg0
  z0 := Tryz.sizeOf0
  v0 := Tryz.zeroValue0
  t2 := Tryz.underlying2
  a2 := Tryz.isAgg2
  z2 := Tryz.sizeOf2
  v2 := Tryz.zeroValue2
  t3 := Tryz.underlying3
  a3 := Tryz.isAgg3
  z3 := Tryz.sizeOf3
  v3 := Tryz.zeroValue3
  t4 := Tryz.underlying4
  a4 := Tryz.isAgg4
  z4 := Tryz.sizeOf4
  v4 := Tryz.zeroValue4
  t5 := Tryz.underlying5
  a5 := Tryz.isAgg5
  z5 := Tryz.sizeOf5
  v5 := Tryz.zeroValue5
  t9 := Tryz.underlying9
  a9 := Tryz.isAgg9
  z9 := Tryz.sizeOf9
  v9 := Tryz.zeroValue9
  t20 := Tryz.underlying20
  a20 := Tryz.isAgg20
  z20 := Tryz.sizeOf20
  v20 := Tryz.zeroValue20
  t37 := Tryz.underlying102
  a37 := Tryz.isAgg102
  z37 := Tryz.sizeOf102
  v37 := Tryz.zeroValue102
  t46 := Tryz.underlying195
  a46 := Tryz.isAgg195
  z46 := Tryz.sizeOf195
  v46 := Tryz.zeroValue195
  t51 := Tryz.underlying193
  a51 := Tryz.isAgg193
  z51 := Tryz.sizeOf193
  v51 := Tryz.zeroValue193
  t53 := Tryz.underlying168
  a53 := Tryz.isAgg168
  z53 := Tryz.sizeOf168
  v53 := Tryz.zeroValue168
  t171 := Tryz.underlying167
  a171 := Tryz.isAgg167
  z171 := Tryz.sizeOf167
  v171 := Tryz.zeroValue167
  t173 := Tryz.underlying171
  a173 := Tryz.isAgg171
  z173 := Tryz.sizeOf171
  v173 := Tryz.zeroValue171
  t212 := Tryz.underlying192
  a212 := Tryz.isAgg192
  z212 := Tryz.sizeOf192
  v212 := Tryz.zeroValue192
  t213 := Tryz.underlying194
  a213 := Tryz.isAgg194
  z213 := Tryz.sizeOf194
  t232 := Tryz.underlying200
  a232 := Tryz.isAgg200
  z232 := Tryz.sizeOf200
  v232 := Tryz.zeroValue200
  t233 := Tryz.underlying201
  a233 := Tryz.isAgg201
  z233 := Tryz.sizeOf201
  v233 := Tryz.zeroValue201
  g17 := by kernel_rfl
  g18 := by kernel_rfl
  g19 := by kernel_rfl
  i0 := by kernel_rfl
  i2 := by kernel_rfl
  i3 := by kernel_rfl
  i4 := by kernel_rfl
  i5 := by kernel_rfl
  i9 := by kernel_rfl
  i20 := by kernel_rfl
  i37 := by kernel_rfl
  i46 := by kernel_rfl
  i51 := by kernel_rfl
  i53 := by kernel_rfl
  i171 := by kernel_rfl
  i173 := by kernel_rfl
  i212 := by kernel_rfl
  i232 := by kernel_rfl
  i233 := by kernel_rfl
  m17 := by kernel_rfl
  m18 := by kernel_rfl
  m19 := by kernel_rfl }
open Go.RowKit Go.Sort Go.Lib in
theorem strconv_Itoa (n : Int) (h0 : -9223372036854775808 ≤ n) (h1 : n ≤ 9223372036854775807) (w : World) (htab : Lib.TabIs Tryz.prog w "internal/strconv.uint64pow10" .u64 Lib.pow10Tab) :
    Calls Tryz.prog 46 #[.int .i64 n] w fun e w' => e = .returned (.string ⟨(Lib.itoa n).toArray⟩) ∧ ∃ k os, w' = grow (w.drewN k) os := Any.strconv_Itoa laysM171 n h0 h1 w htab
end Go.Proofs.YtnieaeakaajleaaGreatDoor

namespace Go.Proofs.YtnieaeakaajleaaGreatDoor
set_option linter.unusedVariables false
set_option linter.unusedSimpArgs false
open Go.RowKit Go

/-- The library's table of powers of ten stands as its text lays it. -/
def Tab (w : World) : Prop := Lib.TabIs Tryz.prog w "internal/strconv.uint64pow10" .u64 Lib.pow10Tab
theorem Tab.below {w w' : World} (h : Tab w) (hb : Below w.heap.size w w') : Tab w' := Lib.tabBelow_of_tabIs h w' hb
theorem itoa (n : Int) (h : (Lit.int .i64 n).wf = true) (w : World) (ht : Tab w) :
    Calls Tryz.prog 46 #[.int .i64 n] w fun e w' => e = .returned (.string (itoB n)) ∧ Below w.heap.size w w' := by
  have h' := h
  simp only [Lit.wf, Bool.and_eq_true, decide_eq_true_eq] at h'
  refine (strconv_Itoa n h'.1 h'.2 w ht).mono ?_
  rintro e w' ⟨rfl, k, os, rfl⟩
  exact ⟨rfl, Lib.below_grow _ _ (Nat.le_refl _) k os⟩

def numS (zs : List Int) : List ByteArray := zs.map itoB
theorem numS_len (zs : List Int) : (numS zs).length = zs.length := by simp [numS]
theorem numS_snoc (zs : List Int) (z : Int) : numS (zs ++ [z]) = numS zs ++ [itoB z] := by simp [numS]
theorem getD_wf {zs : List Int} (h : ∀ n ∈ zs, (Lit.int .i64 n).wf = true) {k : Nat} (hk : k < zs.length) : (Lit.int .i64 (zs.getD k 0)).wf = true := by
  rw [getD_at zs k hk]; exact h _ (List.getElem_mem hk)

set_option maxRecDepth 100000 in
set_option maxHeartbeats 1000000 in
theorem numWords (a : Option Addr) (len cap : Nat) (zs : List Int) (w : World) (hr : IsRow .i64 w a len cap zs) (ht : Tab w) (hl : len ≤ 1048576) :
    Calls Tryz.prog 48 #[.slice a len cap] w fun e w' => ∃ v, e = .returned v ∧ Row w' v (sv (numS zs)) ∧ Below w.heap.size w w' := by
  obtain ⟨hz, hm⟩ := hr.len
  have HR : Hid (IsRow .i64 w a len cap zs) := hr
  have HT : Hid (Tab w) := ht
  clear hr ht hm
  have HI : Hid (∀ n w, (Lit.int .i64 n).wf = true → Tab w → Calls Tryz.prog 46 #[.int .i64 n] w fun e w' => e = .returned (.string (itoB n)) ∧ Below w.heap.size w w') := fun n w h ht => itoa n h w ht
  go_enter Tryz.func48, Tryz.ntmps48
  go_wp2
  go_loopw [3, 8] (fun o i wr => ∃ k : Nat, k ≤ len ∧ i = .int .i64 k ∧ Acc wr w.heap.size 9 1 o k (sv (numS (zs.take k))) ∧ Below w.heap.size w wr) (fun _ i _ => len - (intOf i).toNat)
  case atStart => exact ⟨0, Nat.zero_le _, rfl, Acc.nil _ _ _ _, Below.refl _ _⟩
  case round =>
    obtain ⟨k, hk, rfl, hacc, hb⟩ := hrel
    have HA : Hid (Acc wr w.heap.size 9 1 _ k (sv (numS (zs.take k)))) := hacc
    clear hacc
    by_cases hlt : k < len
    · obtain ⟨b, off, rfl, h1, h2, hc⟩ := IsRow.at (HR.out.below hb) hlt
      have HIk : Hid (∀ w', Tab w' → Calls Tryz.prog 46 #[.int .i64 (zs.getD k 0)] w' fun e w'' => e = .returned (.string (itoB (zs.getD k 0))) ∧ Below w'.heap.size w' w'') := fun w' h => HI.out _ w' (getD_wf HR.out.wf (by omega)) h
      have HTK : Hid (zs.take (k + 1) = zs.take k ++ [zs.getD k 0]) := takeI_snoc zs k (by omega)
      generalize zs.getD k 0 = z at hc HIk HTK
      go_wp2_with first
        | (go_at_call 46; refine (HIk.out _ ?_).mono ?_; exact HT.out.below hb; rintro e w1 ⟨rfl, hw1⟩; have HA1 := HA.out.below hw1; have hb1 := bcall hb hb.size hw1; clear hw1)
        | (at_builtin; refine wp_acc_str rfl _ _ rfl w.heap.size _ k (numS (zs.take k)) rfl (by exact HA1.alloc _) ⟨w1.heap.size, 0, none⟩ _ (itoB z) rfl (by simp) (by omega) (by have := hb1.size; simp; omega) ?_; intro v' w2 hacc2 hg2)
      go_roundw
      case rel => exact ⟨k + 1, by omega, by go_num, by rw [HTK.out, numS_snoc]; exact hacc2, (hb1.alloc hb1.size _).trans hg2⟩
      case measure => simp [intOf]; omega
    · have he : zs.take k = zs := List.take_of_length_le (by omega)
      rw [he] at HA
      go_wp2_with fail
      go_ret
      exact ⟨_, rfl, HA.out.row, hb⟩
end Go.Proofs.YtnieaeakaajleaaGreatDoor

namespace Go.Proofs.YtnieaeakaajleaaGreatDoor
set_option linter.unusedVariables false
set_option linter.unusedSimpArgs false
open Go.RowKit Go

theorem errT_of_laid2 {W : World} (h : laidMetH Tryz.prog Rows.fnExactPlanBoardRow.laid W) : ErrT W := by
  have h' : laidMet Tryz.prog [("math/bits.deBruijn32tab", Rows.laid_math_bits_deBruijn32tab), ("math/bits.deBruijn64tab", Rows.laid_math_bits_deBruijn64tab), ("internal/strconv.uint64pow10", Rows.laid_internal_strconv_uint64pow10)] W ∧ handlesMet Tryz.prog [("errors.errorType", Rows.laid_errors_errorType)] W := h
  exact errT_of_handles h'.2
theorem tab_of_laid2 {W : World} (h : laidMetH Tryz.prog Rows.fnExactPlanBoardRow.laid W) : Tab W := by
  have h' : laidMet Tryz.prog [("math/bits.deBruijn32tab", Rows.laid_math_bits_deBruijn32tab), ("math/bits.deBruijn64tab", Rows.laid_math_bits_deBruijn64tab), ("internal/strconv.uint64pow10", Rows.laid_internal_strconv_uint64pow10)] W ∧ handlesMet Tryz.prog [("errors.errorType", Rows.laid_errors_errorType)] W := h
  exact Lib.tabIs_of_head (k := .u64) (zs := Lib.pow10Tab) (t := 192) (e := 168) (n := 20) (g := 1) (by kernel_rfl) (by kernel_rfl) Tryz.underlying192 Tryz.underlying168 (by kernel_rfl) (by kernel_rfl) (show laidMet Tryz.prog (("internal/strconv.uint64pow10", Lib.tabData .u64 Lib.pow10Tab) :: _) W from h'.1.tail.tail)
theorem door_met2 (os : Os) (args : Array Value) : laidMetH Tryz.prog Rows.fnExactPlanBoardRow.laid ((World.doorLaid Tryz.prog 40 os).forCall (fun _ _ => 0) ⟨#[], args, []⟩).memory :=
  laidMetH_of_parts3 (fuel := 8) (laidMet_of_run' 8 (by kernel_rfl) (by kernel_rfl)) (by kernel_rfl) (by kernel_rfl)
end Go.Proofs.YtnieaeakaajleaaGreatDoor

namespace Go.Proofs.YtnieaeakaajleaaGreatDoor
set_option linter.unusedVariables false
set_option linter.unusedSimpArgs false
open Go.RowKit Go

/-- What became of a time. -/
structure Tld where
  tk : Int
  wh : Int
def TldIs (w : World) (vs : List Value) (e : Tld) : Prop :=
  vs = [.int .i64 e.tk, .int .i64 e.wh] ∧ (Lit.int .i64 e.tk).wf = true ∧ (Lit.int .i64 e.wh).wf = true
theorem TldIs.lasts : Lasts TldIs := fun _ _ _ _ _ h => h
def IsTlds (w : World) (a : Option Addr) (len cap : Nat) (ts : List Tld) : Prop := IsRecs 2 TldIs w a len cap ts
theorem IsTlds.below {w w' : World} {a : Option Addr} {len cap : Nat} {ts : List Tld} (h : IsTlds w a len cap ts) (hb : Below w.heap.size w w') : IsTlds w' a len cap ts := IsRecs.below TldIs.lasts h hb
theorem IsTlds.alloc {w : World} {a : Option Addr} {len cap : Nat} {ts : List Tld} (h : IsTlds w a len cap ts) (o : Obj) : IsTlds (w.alloc o) a len cap ts := IsRecs.alloc TldIs.lasts h o
theorem IsTlds.at {w : World} {a : Option Addr} {len cap : Nat} {ts : List Tld} (h : IsTlds w a len cap ts) {i : Nat} (hi : i < ts.length) :
    ∃ b off, a = some ⟨b, off, none⟩ ∧ len ≤ cap ∧ b < w.heap.size ∧ w.cell? ⟨b, off + i * 2, none⟩ = some (.int .i64 ts[i].tk) ∧ w.cell? ⟨b, off + i * 2 + 1, none⟩ = some (.int .i64 ts[i].wh) ∧ (Lit.int .i64 ts[i].tk).wf = true ∧ (Lit.int .i64 ts[i].wh).wf = true := by
  obtain ⟨b, off, rfl, h1, h2, vs, hv, hc, rfl, h3⟩ := IsRecs.at h hi
  exact ⟨b, off, rfl, h1, h2, hc 0 (by simp), hc 1 (by simp), h3⟩

theorem info_PlanTold : (Tryz.prog.info? 63).map (fun i => (i.zero, i.size, i.bytes)) = some (some (.agg #[.int .i64 0, .int .i64 0]), 2, 16) := by kernel_rfl

/-- A plan. -/
structure Pla where
  rs : List Rul
  pol : Int
  win : Int
  last : Int
  goes : List Int
  waits : List Int
  told : List Tld
/-- What a plan's four lists read as. -/
def IsPla (w : World) (ra : Option Addr) (rl rc : Nat) (ga : Option Addr) (gl gc : Nat) (wa : Option Addr) (wl wc : Nat) (ta : Option Addr) (tl tc : Nat) (p : Pla) : Prop :=
  IsRuls w ra rl rc p.rs ∧ IsRow .i64 w ga gl gc p.goes ∧ IsRow .i64 w wa wl wc p.waits ∧ IsTlds w ta tl tc p.told
theorem IsPla.below {w w' : World} {ra : Option Addr} {rl rc : Nat} {ga : Option Addr} {gl gc : Nat} {wa : Option Addr} {wl wc : Nat} {ta : Option Addr} {tl tc : Nat} {p : Pla} (h : IsPla w ra rl rc ga gl gc wa wl wc ta tl tc p) (hb : Below w.heap.size w w') : IsPla w' ra rl rc ga gl gc wa wl wc ta tl tc p :=
  ⟨h.1.below hb, h.2.1.below hb, h.2.2.1.below hb, h.2.2.2.below hb⟩
theorem IsPla.alloc {w : World} {ra : Option Addr} {rl rc : Nat} {ga : Option Addr} {gl gc : Nat} {wa : Option Addr} {wl wc : Nat} {ta : Option Addr} {tl tc : Nat} {p : Pla} (h : IsPla w ra rl rc ga gl gc wa wl wc ta tl tc p) (o : Obj) : IsPla (w.alloc o) ra rl rc ga gl gc wa wl wc ta tl tc p := h.below ((Below.refl _ _).alloc (Nat.le_refl _) _)
/-- A record in a block of its own: its cells behind what was called. -/
theorem boxAt {w w' : World} {cs : Array Value} {t : TypeId} (hb : Below (w.heap.size + 1) (w.alloc (.cells cs t)) w') {i : Nat} {v : Value} (h : cs[i]? = some v) : w'.cell? ⟨w.heap.size, i, none⟩ = some v :=
  (hb.cell (p := ⟨w.heap.size, i, none⟩) (Nat.lt_succ_self _)).trans (by rw [World.cell?_alloc_new]; exact h)
theorem below_box {w w' : World} {o : Obj} (hb : Below (w.alloc o).heap.size (w.alloc o) w') : Below (w.heap.size + 1) (w.alloc o) w' := by simpa using hb
/-- Two records in blocks of their own. -/
theorem boxAt2 {w W : World} {cs cs2 : Array Value} {t t2 : TypeId} (h : Below (w.heap.size + 1 + 1) ((w.alloc (.cells cs t)).alloc (.cells cs2 t2)) W) :
    (∀ i v, cs[i]? = some v → W.cell? ⟨w.heap.size, i, none⟩ = some v) ∧ (∀ i v, cs2[i]? = some v → W.cell? ⟨w.heap.size + 1, i, none⟩ = some v) ∧ Below w.heap.size w W := by
  refine ⟨fun i v e => ?_, fun i v e => ?_, (((Below.refl _ _).alloc (Nat.le_refl _) _).alloc (by simp) _).trans (h.mono (by omega))⟩
  · rw [h.cell (p := ⟨w.heap.size, i, none⟩) (by simp only; omega), World.cell?_alloc_lt _ _ _ (by simp), World.cell?_alloc_new]; exact e
  · rw [h.cell (p := ⟨w.heap.size + 1, i, none⟩) (by simp only; omega), show w.heap.size + 1 = (w.alloc (.cells cs t)).heap.size by simp, World.cell?_alloc_new]; exact e
/-- Small enough. -/
def plaSmall (p : Pla) : Prop := p.rs.length ≤ 1048576 ∧ (∀ i (h : i < p.rs.length), p.rs[i].but.length ≤ 1048576) ∧ p.goes.length ≤ 1048576 ∧ p.waits.length ≤ 1048576 ∧ p.told.length ≤ 1048576
end Go.Proofs.YtnieaeakaajleaaGreatDoor
