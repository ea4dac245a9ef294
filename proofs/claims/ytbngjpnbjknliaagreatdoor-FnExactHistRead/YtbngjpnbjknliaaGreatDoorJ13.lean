/- The program's words of what happened. -/
import Derived.Test.YtbngjpnbjknliaaGreatDoorJ5
import Derived.Laws.OwnMore
import Derived.Shelf.LaysM
import Derived.Shelf.Strconv.Itoa3
import Derived.Test.YtbngjpnbjknliaaGreatDoorProg
import Derived.Test.YtbngjpnbjknliaaGreatDoorJ12
import Derived.Lib.AppendIntMem
import Derived.Deep.AppendLies
import Derived.Deep.RegionHeld3
namespace Go.Proofs.YtbngjpnbjknliaaGreatDoor
set_option linter.unusedVariables false
set_option linter.unusedSimpArgs false
open Go.RowKit

theorem append_none {P : Program} (w : World) (t ty e : TypeId) (i : TypeInfo) (ht : P.underlying t = some (.slice e)) (hi : P.info? e = some i) (b x : Option Addr) (c : Nat) :
    (Builtin.append_ #[t, t] ty #[.slice b 0 0, .slice x 0 c]).run P w = .ok (.slice b 0 0) w := by
  cases b <;> cases x <;> simp [Builtin.append_, run_underlying ht, sizeOf, typeInfo, hi, Builtin.lenOf, Builtin.firstCells, loadCells, loadCellsFrom, storeCells]

/-- A whole list is appended onto an empty slice without room. -/
theorem wp_copy_str {w : World} {ops : Array Oper} {rest : List Oper} {o : Oper} {a : Act} {Q : Exit → Act → World → Prop} (hgd : o.guard = none) (s x : Operand)
    (ho : o.op = .call { callee := .builtin .append, args := #[s, x], argTypes := #[28, 28] })
    (F : Nat) (v vx : Value) (xs : List ByteArray) (hs : a.eval s = v) (hacc : Acc w F 9 1 v 0 []) (hv : ∃ b, v = .slice b 0 0)
    (hx : a.eval x = vx) (hr : Row w vx (sv xs)) (hn : xs.length ≤ 1099511627776) (hF : F ≤ w.heap.size)
    (h : ∀ v' w', Acc w' F 9 1 v' xs.length (sv xs) → Below F w w' → wpList Tryz.prog ops Q rest (a.put o.dst v') w') : wpList Tryz.prog ops Q (o :: rest) a w := by
  by_cases h0 : xs.length = 0
  · have hxs : xs = [] := List.length_eq_zero_iff.1 h0
    subst hxs
    obtain ⟨b, rfl⟩ := hv
    obtain ⟨a1, c1, hvx⟩ := hr.form
    simp only [sv, List.map_nil, List.length_nil] at hvx
    subst hvx
    obtain ⟨i, hi, _⟩ := Option.map_eq_some_iff.1 Tryz.infoS
    refine wpList_plain hgd fun K hK => ?_
    have hrun := append_none (P := Tryz.prog) w 28 o.type 9 i Tryz.underlying28 hi b a1 c1
    unfold Oper.wp execOp
    simp only [ho, resolve, invoke, builtin, Sem.run_bind, Sem.run_pure, Result.andThen_ok, List.map_toArray, List.map_cons, List.map_nil, hs, hx, hrun]
    exact hK _ _ (h _ w hacc (Below.refl _ _))
  · obtain ⟨b1, off1, cap1, rfl⟩ : ∃ b1 off1 cap1, vx = .slice (some ⟨b1, off1, none⟩) xs.length cap1 := by
      rcases hr with ⟨_, h'⟩ | ⟨b1, off1, cap1, h', _⟩
      · exact absurd (by simpa [sv] using congrArg List.length h') h0
      · exact ⟨b1, off1, cap1, by rw [h', sv_len]⟩
    have hcell : ∀ j u, (sv xs)[j]? = some u → w.cell? ((⟨b1, off1, none⟩ : Addr).add j) = some u := by
      rcases hr with ⟨h', _⟩ | ⟨b2, off2, cap2, h', _, _, _, hc⟩
      · simp at h'
      · simp only [Value.slice.injEq, Option.some.injEq, Addr.mk.injEq] at h'
        obtain ⟨⟨rfl, rfl, _⟩, _, _⟩ := h'
        intro j u hj
        rw [Addr.add_lit]; exact hc j u hj
    refine wp_acc hgd s x 28 ho F 9 _ 1 16 Tryz.underlying28 Tryz.infoS rfl (by decide) v 0 [] hs hacc ⟨b1, off1, none⟩ xs.length cap1 (sv xs) hx (by omega) (by rw [sv_len, Nat.mul_one]) hcell ?_ (by unfold maxLen; omega) (by omega) hF ?_
    · intro u hu
      simp only [sv, List.mem_map] at hu
      obtain ⟨q, _, rfl⟩ := hu
      rfl
    · intro v' w' h1 h2
      exact h v' w' (by simpa using h1) h2
end Go.Proofs.YtbngjpnbjknliaaGreatDoor

namespace Go.Proofs.YtbngjpnbjknliaaGreatDoor
set_option linter.unusedVariables false
set_option linter.unusedSimpArgs false
open Go.RowKit

theorem wp_app_strs {w : World} {ops : Array Oper} {rest : List Oper} {o : Oper} {a : Act} {Q : Exit → Act → World → Prop} (hgd : o.guard = none) (s x : Operand)
    (ho : o.op = .call { callee := .builtin .append, args := #[s, x], argTypes := #[28, 28] })
    (F : Nat) (v vx : Value) (n : Nat) (xs ys : List ByteArray) (hs : a.eval s = v) (hacc : w.ownsRow F 9 1 v n (sv xs))
    (hx : a.eval x = vx) (hr : Row w vx (sv ys)) (hn : n + ys.length ≤ 1099511627776) (hF : F ≤ w.heap.size)
    (h : ∀ v' w', w'.ownsRow F 9 1 v' (n + ys.length) (sv (xs ++ ys)) → Below F w w' → w.grownBy w' v.ownBlock → wpList Tryz.prog ops Q rest (a.put o.dst v') w') : wpList Tryz.prog ops Q (o :: rest) a w := by
  obtain ⟨i, hi, hzz⟩ := Option.map_eq_some_iff.1 Tryz.infoS
  simp only [Prod.mk.injEq] at hzz
  obtain ⟨hz, hsize, hby⟩ := hzz
  have fin : ∃ v' w', (Builtin.append_ #[28, 28] o.type #[v, vx]).run Tryz.prog w = .ok v' w' ∧ w'.ownsRow F 9 1 v' (n + ys.length) (sv (xs ++ ys)) ∧ Below F w w' ∧ w.grownBy w' v.ownBlock := by
    rcases hr with ⟨rfl, he⟩ | ⟨b, off, cap, rfl, h1, h2, hb, hc⟩
    · have hy : ys = [] := by cases ys with | nil => rfl | cons y r => simp [sv] at he
      subst hy
      exact ⟨v, w, run_append_owned_none (w := w) F 28 o.type 9 i 1 Tryz.underlying28 hi v n (sv xs) hacc, by simpa using hacc, Below.refl _ _, ⟨rfl, rfl, rfl, Nat.le_refl _, fun _ _ _ => rfl⟩⟩
    · obtain ⟨v', w', hr, h2, h3, _⟩ := run_append_own (P := Tryz.prog) w F 28 o.type 9 i _ 1 16 Tryz.underlying28 hi hz hsize hby rfl (by decide) v n (sv xs) hacc ⟨b, off, none⟩ (sv ys).length cap (sv ys) (by rw [Nat.mul_one]) (fun j u hj => by rw [Addr.add_lit]; exact hc j u hj) (fun u hu => by simp only [sv, List.mem_map] at hu; obtain ⟨q, _, rfl⟩ := hu; rfl) (by rw [sv_len]; unfold maxLen; omega) (by rw [sv_len]; omega) hF
      refine ⟨v', w', hr, ?_, (Below.refl F w).grown h3 hF (fun k hk => (hacc.lt k hk).1), h3⟩
      rw [sv_len] at h2
      rw [sv_app]; exact h2
  obtain ⟨v', w', hrun, h2, h3, h4⟩ := fin
  refine wpList_plain hgd fun K hK => ?_
  unfold Oper.wp execOp
  simp only [ho, resolve, invoke, builtin, Sem.run_bind, Sem.run_pure, Result.andThen_ok, List.map_toArray, List.map_cons, List.map_nil, hs, hx, hrun]
  exact hK _ _ (h v' w' h2 h3 h4)
end Go.Proofs.YtbngjpnbjknliaaGreatDoor

namespace Go.Proofs.YtbngjpnbjknliaaGreatDoor
set_option linter.unusedVariables false
set_option linter.unusedSimpArgs false
open Go.Shelf Go
def laysM171_ren : Go.Shelf.Ren := ⟨fun | 171 => 55 | 243 => 75 | 246 => 89 | 283 => 102 | 284 => 103 | 285 => 104 | 286 => 105 | 129 => 112 | 317 => 111 | 318 => 113 | 319 => 114 | 320 => 115 | 337 => 118 | 338 => 119 | n => n, fun | 3 => 3 | 9 => 9 | 2 => 2 | 4 => 4 | 171 => 136 | 0 => 0 | 53 => 117 | 37 => 50 | 5 => 5 | 173 => 139 | 212 => 148 | 51 => 98 | 20 => 20 | 213 => 149 | 46 => 106 | 232 => 154 | 233 => 155 | n => n, fun | 17 => 5 | 18 => 6 | 19 => 7 | n => n⟩
theorem laysM171 : Go.Proofs.LaysM.n171 Tryz.prog laysM171_ren := {
  mixed := by kernel_rfl
  f129 := Tryz.func112.trans (congrArg some (by kernel_rfl))
  f171 := Tryz.func55.trans (congrArg some (by kernel_rfl))
  f243 := Tryz.func75.trans (congrArg some (by kernel_rfl))
  f246 := Tryz.func89.trans (congrArg some (by kernel_rfl))
  f283 := Tryz.func102.trans (congrArg some (by kernel_rfl))
  f284 := Tryz.func103.trans (congrArg some (by kernel_rfl))
  f285 := Tryz.func104.trans (congrArg some (by kernel_rfl))
  f286 := Tryz.func105.trans (congrArg some (by kernel_rfl))
  f317 := Tryz.func111.trans (congrArg some (by kernel_rfl))
  f318 := Tryz.func113.trans (congrArg some (by kernel_rfl))
  f319 := Tryz.func114.trans (congrArg some (by kernel_rfl))
  f320 := Tryz.func115.trans (congrArg some (by kernel_rfl))
  f337 := Tryz.func118.trans (congrArg some (by kernel_rfl))
  f338 := Tryz.func119.trans (congrArg some (by kernel_rfl))
  t0 := Tryz.underlying0
  a0 := Tryz.isAgg0
  z0 := Tryz.sizeOf0
  v0 := Tryz.zeroValue0
  t2 := Tryz.underlying2
  a2 := Tryz.isAgg2
  z2 := Tryz.sizeOf2
  v2 := Tryz.zeroValue2
  t3 := Tryz.underlying3
  a3 := Tryz.isAgg3
  z3 := Tryz.sizeOf3
  v3 := Tryz.zeroValue3
  t4 := Tryz.underlying4
  a4 := Tryz.isAgg4
  z4 := Tryz.sizeOf4
  v4 := Tryz.zeroValue4
  t5 := Tryz.underlying5
  a5 := Tryz.isAgg5
  z5 := Tryz.sizeOf5
  v5 := Tryz.zeroValue5
  t9 := Tryz.underlying9
  a9 := Tryz.isAgg9
  z9 := Tryz.sizeOf9
  v9 := Tryz.zeroValue9
  t20 := Tryz.underlying20
  a20 := Tryz.isAgg20
  z20 := Tryz.sizeOf20
  v20 := Tryz.zeroValue20
  t37 := Tryz.underlying50
  a37 := Tryz.isAgg50
  z37 := Tryz.sizeOf50
  v37 := Tryz.zeroValue50
  t46 := Tryz.underlying106
  a46 := Tryz.isAgg106
  z46 := Tryz.sizeOf106
  v46 := Tryz.zeroValue106
  t51 := Tryz.underlying98
  a51 := Tryz.isAgg98
  z51 := Tryz.sizeOf98
  v51 := Tryz.zeroValue98
  t53 := Tryz.underlying117
  a53 := Tryz.isAgg117
  z53 := Tryz.sizeOf117
  v53 := Tryz.zeroValue117
  t171 := Tryz.underlying136
  a171 := Tryz.isAgg136
  z171 := Tryz.sizeOf136
  v171 := Tryz.zeroValue136
  t173 := Tryz.underlying139
  a173 := Tryz.isAgg139
  z173 := Tryz.sizeOf139
  v173 := Tryz.zeroValue139
  t212 := Tryz.underlying148
  a212 := Tryz.isAgg148
  z212 := Tryz.sizeOf148
  v212 := Tryz.zeroValue148
  t213 := Tryz.underlying149
  a213 := Tryz.isAgg149
  z213 := Tryz.sizeOf149
  t232 := Tryz.underlying154
  a232 := Tryz.isAgg154
  z232 := Tryz.sizeOf154
  v232 := Tryz.zeroValue154
  t233 := Tryz.underlying155
  a233 := Tryz.isAgg155
  z233 := Tryz.sizeOf155
  v233 := Tryz.zeroValue155
  g17 := by kernel_rfl
  g18 := by kernel_rfl
  g19 := by kernel_rfl
  i0 := by kernel_rfl
  i2 := by kernel_rfl
  i3 := by kernel_rfl
  i4 := by kernel_rfl
  i5 := by kernel_rfl
  i9 := by kernel_rfl
  i20 := by kernel_rfl
  i37 := by kernel_rfl
  i46 := by kernel_rfl
  i51 := by kernel_rfl
  i53 := by kernel_rfl
  i171 := by kernel_rfl
  i173 := by kernel_rfl
  i212 := by kernel_rfl
  i232 := by kernel_rfl
  i233 := by kernel_rfl
  m17 := by kernel_rfl
  m18 := by kernel_rfl
  m19 := by kernel_rfl }
open Go.RowKit Go.Sort Go.Lib in
theorem strconv_Itoa (n : Int) (h0 : -9223372036854775808 ≤ n) (h1 : n ≤ 9223372036854775807) (w : World) (htab : Lib.TabIs Tryz.prog w "internal/strconv.uint64pow10" .u64 Lib.pow10Tab) :
    Calls Tryz.prog 55 #[.int .i64 n] w fun e w' => e = .returned (.string ⟨(Lib.itoa n).toArray⟩) ∧ ∃ k os, w' = grow (w.drewN k) os := Any.strconv_Itoa laysM171 n h0 h1 w htab
end Go.Proofs.YtbngjpnbjknliaaGreatDoor

namespace Go.Proofs.YtbngjpnbjknliaaGreatDoor
set_option linter.unusedVariables false
set_option linter.unusedSimpArgs false
open Go.RowKit Go

/-- The library's table of powers of ten stands as its text lays it. -/
def Tab (w : World) : Prop := Lib.TabIs Tryz.prog w "internal/strconv.uint64pow10" .u64 Lib.pow10Tab
theorem Tab.below {w w' : World} (h : Tab w) (hb : Below w.heap.size w w') : Tab w' := Lib.tabBelow_of_tabIs h w' hb
theorem itoa (n : Int) (h : (Lit.int .i64 n).wf = true) (w : World) (ht : Tab w) :
    Calls Tryz.prog 55 #[.int .i64 n] w fun e w' => e = .returned (.string (itoB n)) ∧ Below w.heap.size w w' := by
  have h' := h
  simp only [Lit.wf, Bool.and_eq_true, decide_eq_true_eq] at h'
  refine (strconv_Itoa n h'.1 h'.2 w ht).mono ?_
  rintro e w' ⟨rfl, k, os, rfl⟩
  exact ⟨rfl, Lib.below_grow _ _ (Nat.le_refl _) k os⟩

def numS (zs : List Int) : List ByteArray := zs.map itoB
theorem numS_len (zs : List Int) : (numS zs).length = zs.length := by simp [numS]
theorem numS_snoc (zs : List Int) (z : Int) : numS (zs ++ [z]) = numS zs ++ [itoB z] := by simp [numS]
theorem getD_wf {zs : List Int} (h : ∀ n ∈ zs, (Lit.int .i64 n).wf = true) {k : Nat} (hk : k < zs.length) : (Lit.int .i64 (zs.getD k 0)).wf = true := by
  rw [getD_at zs k hk]; exact h _ (List.getElem_mem hk)

set_option maxRecDepth 100000 in
set_option maxHeartbeats 1000000 in
theorem numWords (a : Option Addr) (len cap : Nat) (zs : List Int) (w : World) (hr : IsRow .i64 w a len cap zs) (ht : Tab w) (hl : len ≤ 1048576) :
    Calls Tryz.prog 54 #[.slice a len cap] w fun e w' => ∃ v, e = .returned v ∧ Row w' v (sv (numS zs)) ∧ Below w.heap.size w w' := by
  obtain ⟨hz, hm⟩ := hr.len
  have HR : Hid (IsRow .i64 w a len cap zs) := hr
  have HT : Hid (Tab w) := ht
  clear hr ht hm
  have HI : Hid (∀ n w, (Lit.int .i64 n).wf = true → Tab w → Calls Tryz.prog 55 #[.int .i64 n] w fun e w' => e = .returned (.string (itoB n)) ∧ Below w.heap.size w w') := fun n w h ht => itoa n h w ht
  go_enter Tryz.func54, Tryz.ntmps54
  go_wp2
  go_loopw [3, 8] (fun o i wr => ∃ k : Nat, k ≤ len ∧ i = .int .i64 k ∧ Acc wr w.heap.size 9 1 o k (sv (numS (zs.take k))) ∧ Below w.heap.size w wr) (fun _ i _ => len - (intOf i).toNat)
  case atStart => exact ⟨0, Nat.zero_le _, rfl, Acc.nil _ _ _ _, Below.refl _ _⟩
  case round =>
    obtain ⟨k, hk, rfl, hacc, hb⟩ := hrel
    have HA : Hid (Acc wr w.heap.size 9 1 _ k (sv (numS (zs.take k)))) := hacc
    clear hacc
    by_cases hlt : k < len
    · obtain ⟨b, off, rfl, h1, h2, hc⟩ := IsRow.at (HR.out.below hb) hlt
      have HIk : Hid (∀ w', Tab w' → Calls Tryz.prog 55 #[.int .i64 (zs.getD k 0)] w' fun e w'' => e = .returned (.string (itoB (zs.getD k 0))) ∧ Below w'.heap.size w' w'') := fun w' h => HI.out _ w' (getD_wf HR.out.wf (by omega)) h
      have HTK : Hid (zs.take (k + 1) = zs.take k ++ [zs.getD k 0]) := takeI_snoc zs k (by omega)
      generalize zs.getD k 0 = z at hc HIk HTK
      go_wp2_with first
        | (go_at_call 55; refine (HIk.out _ ?_).mono ?_; exact HT.out.below hb; rintro e w1 ⟨rfl, hw1⟩; have HA1 := HA.out.below hw1; have hb1 := bcall hb hb.size hw1; clear hw1)
        | (at_builtin; refine wp_acc_str rfl _ _ rfl w.heap.size _ k (numS (zs.take k)) rfl (by exact HA1.alloc _) ⟨w1.heap.size, 0, none⟩ _ (itoB z) rfl (by simp) (by omega) (by have := hb1.size; simp; omega) ?_; intro v' w2 hacc2 hg2)
      go_roundw
      case rel => exact ⟨k + 1, by omega, by go_num, by rw [HTK.out, numS_snoc]; exact hacc2, (hb1.alloc hb1.size _).trans hg2⟩
      case measure => simp [intOf]; omega
    · have he : zs.take k = zs := List.take_of_length_le (by omega)
      rw [he] at HA
      go_wp2_with fail
      go_ret
      exact ⟨_, rfl, HA.out.row, hb⟩
end Go.Proofs.YtbngjpnbjknliaaGreatDoor

namespace Go.Proofs.YtbngjpnbjknliaaGreatDoor
set_option linter.unusedVariables false
set_option linter.unusedSimpArgs false
open Go.RowKit Go

theorem IsRow.two {w : World} {b : Nat} {y z : Int} (hb : b < w.heap.size) (hc : w.cell? ⟨b, 0, .none⟩ = some (.int .i64 y)) (hd : w.cell? ⟨b, 1, .none⟩ = some (.int .i64 z)) (hy : (Lit.int .i64 y).wf = true) (hz : (Lit.int .i64 z).wf = true) : IsRow .i64 w (some ⟨b, 0, .none⟩) 2 2 [y, z] :=
  ⟨rfl, Nat.le_refl _, by unfold maxLen; omega, fun _ => ⟨b, 0, rfl, hb, fun i hi => (by
    rcases (by omega : i = 0 ∨ i = 1) with e | e
    · subst e; exact hc
    · subst e; exact hd)⟩, fun n hn => by simp at hn; rcases hn with rfl | rfl <;> assumption⟩

def hapS (kind id num : Int) (name : ByteArray) : List ByteArray :=
  if kind = 1 ∨ kind = 2 then [itoB id, itoB num] else if kind = 3 then [itoB id] else if kind = 4 then [name, itoB num] else []
set_option maxRecDepth 100000 in
set_option maxHeartbeats 1000000 in
theorem hapWords (kind id num : Int) (name : ByteArray) (hk : 1 ≤ kind ∧ kind ≤ 5) (w : World) (ht : Tab w) (hi : (Lit.int .i64 id).wf = true) (hn : (Lit.int .i64 num).wf = true) :
    Calls Tryz.prog 57 #[.agg #[.int .i64 kind, .int .i64 id, .string name, .int .i64 num]] w fun e w' => ∃ v, e = .returned v ∧ Row w' v (sv (hapS kind id num name)) ∧ Below w.heap.size w w' := by
  have HT : Hid (Tab w) := ht
  rcases (by omega : kind = 1 ∨ kind = 2 ∨ kind = 3 ∨ kind = 4 ∨ kind = 5) with rfl | rfl | rfl | rfl | rfl
  · have HN : Hid (∀ o, Calls Tryz.prog 54 #[.slice (some ⟨w.heap.size + 1, 0, none⟩) 2 2] ((w.alloc o).alloc (.cells #[.int .i64 id, .int .i64 num] 3)) fun e w' => ∃ v, e = .returned v ∧ Row w' v (sv (numS [id, num])) ∧ Below (w.heap.size + 2) ((w.alloc o).alloc (.cells #[.int .i64 id, .int .i64 num] 3)) w') := fun o => by
      have h := numWords (some ⟨w.heap.size + 1, 0, none⟩) 2 2 [id, num] ((w.alloc o).alloc (.cells #[.int .i64 id, .int .i64 num] 3)) (IsRow.two (by simp) (by simp [go_sem]) (by simp [go_sem]) hi hn) (HT.out.below (((Below.refl _ _).alloc (Nat.le_refl _) _).alloc (by simp) _)) (by omega)
      simpa using h
    clear hi hn ht
    go_enter Tryz.func57, Tryz.ntmps57
    go_wp2_with (go_at_call 54; refine (HN.out _).mono ?_; rintro e w1 ⟨v, rfl, hv, hw1⟩)
    go_ret
    exact ⟨_, rfl, hv, (((Below.refl _ _).alloc (Nat.le_refl _) _).alloc (by simp) _).trans (hw1.mono (by omega))⟩
  · have HN : Hid (∀ o, Calls Tryz.prog 54 #[.slice (some ⟨w.heap.size + 1, 0, none⟩) 2 2] ((w.alloc o).alloc (.cells #[.int .i64 id, .int .i64 num] 3)) fun e w' => ∃ v, e = .returned v ∧ Row w' v (sv (numS [id, num])) ∧ Below (w.heap.size + 2) ((w.alloc o).alloc (.cells #[.int .i64 id, .int .i64 num] 3)) w') := fun o => by
      have h := numWords (some ⟨w.heap.size + 1, 0, none⟩) 2 2 [id, num] ((w.alloc o).alloc (.cells #[.int .i64 id, .int .i64 num] 3)) (IsRow.two (by simp) (by simp [go_sem]) (by simp [go_sem]) hi hn) (HT.out.below (((Below.refl _ _).alloc (Nat.le_refl _) _).alloc (by simp) _)) (by omega)
      simpa using h
    clear hi hn ht
    go_enter Tryz.func57, Tryz.ntmps57
    go_wp2_with (go_at_call 54; refine (HN.out _).mono ?_; rintro e w1 ⟨v, rfl, hv, hw1⟩)
    go_ret
    exact ⟨_, rfl, hv, (((Below.refl _ _).alloc (Nat.le_refl _) _).alloc (by simp) _).trans (hw1.mono (by omega))⟩
  · have HN : Hid (∀ o, Calls Tryz.prog 54 #[.slice (some ⟨w.heap.size + 1, 0, none⟩) 1 1] ((w.alloc o).alloc (.cells #[.int .i64 id] 3)) fun e w' => ∃ v, e = .returned v ∧ Row w' v (sv (numS [id])) ∧ Below (w.heap.size + 2) ((w.alloc o).alloc (.cells #[.int .i64 id] 3)) w') := fun o => by
      have h := numWords (some ⟨w.heap.size + 1, 0, none⟩) 1 1 [id] ((w.alloc o).alloc (.cells #[.int .i64 id] 3)) (IsRow.one (by simp) (by simp [go_sem]) hi) (HT.out.below (((Below.refl _ _).alloc (Nat.le_refl _) _).alloc (by simp) _)) (by omega)
      simpa using h
    clear hi hn ht
    go_enter Tryz.func57, Tryz.ntmps57
    go_wp2_with (go_at_call 54; refine (HN.out _).mono ?_; rintro e w1 ⟨v, rfl, hv, hw1⟩)
    go_ret
    exact ⟨_, rfl, hv, (((Below.refl _ _).alloc (Nat.le_refl _) _).alloc (by simp) _).trans (hw1.mono (by omega))⟩
  · have HI : Hid (∀ w', Below (w.heap.size + 1) (w.alloc (.cells #[.int .i64 4, .int .i64 id, .string name, .int .i64 num] 91)) w' → Calls Tryz.prog 55 #[.int .i64 num] w' fun e w'' => e = .returned (.string (itoB num)) ∧ Below (w.heap.size + 1) (w.alloc (.cells #[.int .i64 4, .int .i64 id, .string name, .int .i64 num] 91)) w'') := fun w' hb => boxed hb (itoa num hn w' (HT.out.below (unbox hb)))
    clear hi hn ht
    go_enter Tryz.func57, Tryz.ntmps57
    go_wp2_with fail
    first | (go_region_with (go_at_call 55; refine (HI.out _ ?_).mono ?_; (first | exact Below.refl _ _ | assumption | exact (Below.refl _ _).drew); rintro x w2 ⟨rfl, hw2⟩; obtain ⟨c20, c21, c22, c23⟩ := box4 hw2)) | fail
    all_goals
      go_wp2
      go_ret
      refine ⟨_, rfl, Row.made w2 [.string name, .string (itoB num)] 9 (by unfold maxLen; simp), ?_⟩
      exact unbox (hw2.alloc (by have := hw2.size; simpa using this) _)
  · clear hi hn ht
    go_enter Tryz.func57, Tryz.ntmps57
    go_wp2
    go_ret
    exact ⟨_, rfl, Row.nil _, (Below.refl _ _).alloc (Nat.le_refl _) _⟩
end Go.Proofs.YtbngjpnbjknliaaGreatDoor
