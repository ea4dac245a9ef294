/- The program's own words of a rule. -/
import Derived.Test.YtkemfifkjaclhaaGreatDoorJ21
import Derived.Laws.OwnMore
import Derived.Shelf.LaysM
import Derived.Shelf.Strconv.Itoa3
import Derived.Test.YtkemfifkjaclhaaGreatDoorProg
import Derived.Test.YtkemfifkjaclhaaGreatDoorJ12
import Derived.Lib.AppendIntMem
import Derived.Test.YtkemfifkjaclhaaGreatDoorJ13
import Derived.Deep.CutBlock
import Derived.Deep.DeepCutAuto
import Derived.Deep.RegionHeld3
import Derived.OrdersHeld
namespace Go.Proofs.YtkemfifkjaclhaaGreatDoor
set_option linter.unusedVariables false
set_option linter.unusedSimpArgs false
open Go.RowKit

theorem wp_app_strs {w : World} {ops : Array Oper} {rest : List Oper} {o : Oper} {a : Act} {Q : Exit → Act → World → Prop} (hgd : o.guard = none) (s x : Operand)
    (ho : o.op = .call { callee := .builtin .append, args := #[s, x], argTypes := #[37, 37] })
    (F : Nat) (v vx : Value) (n : Nat) (xs ys : List ByteArray) (hs : a.eval s = v) (hacc : w.ownsRow F 9 1 v n (sv xs))
    (hx : a.eval x = vx) (hr : Row w vx (sv ys)) (hn : n + ys.length ≤ 1099511627776) (hF : F ≤ w.heap.size)
    (h : ∀ v' w', w'.ownsRow F 9 1 v' (n + ys.length) (sv (xs ++ ys)) → Below F w w' → w.grownBy w' v.ownBlock → wpList Tryz.prog ops Q rest (a.put o.dst v') w') : wpList Tryz.prog ops Q (o :: rest) a w := by
  obtain ⟨i, hi, hzz⟩ := Option.map_eq_some_iff.1 Tryz.infoS
  simp only [Prod.mk.injEq] at hzz
  obtain ⟨hz, hsize, hby⟩ := hzz
  have fin : ∃ v' w', (Builtin.append_ #[37, 37] o.type #[v, vx]).run Tryz.prog w = .ok v' w' ∧ w'.ownsRow F 9 1 v' (n + ys.length) (sv (xs ++ ys)) ∧ Below F w w' ∧ w.grownBy w' v.ownBlock := by
    rcases hr with ⟨rfl, he⟩ | ⟨b, off, cap, rfl, h1, h2, hb, hc⟩
    · have hy : ys = [] := by cases ys with | nil => rfl | cons y r => simp [sv] at he
      subst hy
      exact ⟨v, w, run_append_owned_none (w := w) F 37 o.type 9 i 1 Tryz.underlying37 hi v n (sv xs) hacc, by simpa using hacc, Below.refl _ _, ⟨rfl, rfl, rfl, Nat.le_refl _, fun _ _ _ => rfl⟩⟩
    · obtain ⟨v', w', hr, h2, h3, _⟩ := run_append_own (P := Tryz.prog) w F 37 o.type 9 i _ 1 16 Tryz.underlying37 hi hz hsize hby rfl (by decide) v n (sv xs) hacc ⟨b, off, none⟩ (sv ys).length cap (sv ys) (by rw [Nat.mul_one]) (fun j u hj => by rw [Addr.add_lit]; exact hc j u hj) (fun u hu => by simp only [sv, List.mem_map] at hu; obtain ⟨q, _, rfl⟩ := hu; rfl) (by rw [sv_len]; unfold maxLen; omega) (by rw [sv_len]; omega) hF
      refine ⟨v', w', hr, ?_, (Below.refl F w).grown h3 hF (fun k hk => (hacc.lt k hk).1), h3⟩
      rw [sv_len] at h2
      rw [sv_app]; exact h2
  obtain ⟨v', w', hrun, h2, h3, h4⟩ := fin
  refine wpList_plain hgd fun K hK => ?_
  unfold Oper.wp execOp
  simp only [ho, resolve, invoke, builtin, Sem.run_bind, Sem.run_pure, Result.andThen_ok, List.map_toArray, List.map_cons, List.map_nil, hs, hx, hrun]
  exact hK _ _ (h v' w' h2 h3 h4)
end Go.Proofs.YtkemfifkjaclhaaGreatDoor

namespace Go.Proofs.YtkemfifkjaclhaaGreatDoor
set_option linter.unusedVariables false
set_option linter.unusedSimpArgs false
open Go.Shelf Go
def laysM171_ren : Go.Shelf.Ren := ⟨fun | 171 => 39 | 243 => 59 | 246 => 69 | 283 => 78 | 284 => 79 | 285 => 80 | 286 => 81 | 129 => 93 | 317 => 92 | 318 => 94 | 319 => 95 | 320 => 96 | 337 => 105 | 338 => 106 | n => n, fun | 3 => 3 | 9 => 9 | 2 => 2 | 4 => 4 | 171 => 129 | 0 => 0 | 53 => 130 | 37 => 22 | 5 => 5 | 173 => 133 | 212 => 147 | 51 => 125 | 20 => 20 | 213 => 148 | 46 => 136 | 232 => 167 | 233 => 168 | n => n, fun | 17 => 1 | 18 => 7 | 19 => 8 | n => n⟩
theorem laysM171 : Go.Proofs.LaysM.n171 Tryz.prog laysM171_ren := {
  mixed := by kernel_rfl
  f129 := Tryz.func93.trans (congrArg some (by kernel_rfl))
  f171 := Tryz.func39.trans (congrArg some (by kernel_rfl))
  f243 := Tryz.func59.trans (congrArg some (by kernel_rfl))
  f246 := Tryz.func69.trans (congrArg some (by kernel_rfl))
  f283 := Tryz.func78.trans (congrArg some (by kernel_rfl))
  f284 := Tryz.func79.trans (congrArg some (by kernel_rfl))
  f285 := Tryz.func80.trans (congrArg some (by kernel_rfl))
  f286 := Tryz.func81.trans (congrArg some (by kernel_rfl))
  f317 := Tryz.func92.trans (congrArg some (by kernel_rfl))
  f318 := Tryz.func94.trans (congrArg some (by kernel_rfl))
  f319 := Tryz.func95.trans (congrArg some (by kernel_rfl))
  f320 := Tryz.func96.trans (congrArg some (by kernel_rfl))
  f337 := Tryz.func105.trans (congrArg some (by kernel_rfl))
  f338 := Tryz.func106.trans (congrArg some (by kernel_rfl))
  t0 := Tryz.underlying0
  a0 := Tryz.isAgg0
  z0 := Tryz.sizeOf0
  v0 := Tryz.zeroValue0
  t2 := Tryz.underlying2
  a2 := Tryz.isAgg2
  z2 := Tryz.sizeOf2
  v2 := Tryz.zeroValue2
  t3 := Tryz.underlying3
  a3 := Tryz.isAgg3
  z3 := Tryz.sizeOf3
  v3 := Tryz.zeroValue3
  t4 := Tryz.underlying4
  a4 := Tryz.isAgg4
  z4 := Tryz.sizeOf4
  v4 := Tryz.zeroValue4
  t5 := Tryz.underlying5
  a5 := Tryz.isAgg5
  z5 := Tryz.sizeOf5
  v5 := Tryz.zeroValue5
  t9 := Tryz.underlying9
  a9 := Tryz.isAgg9
  z9 := Tryz.sizeOf9
  v9 := Tryz.zeroValue9
  t20 := Tryz.underlying20
  a20 := Tryz.isAgg20
  z20 := Tryz.sizeOf20
  v20 := Tryz.zeroValue20
  t37 := Tryz.underlying22
  a37 := Tryz.isAgg22
  z37 := Tryz.sizeOf22
  v37 := Tryz.zeroValue22
  t46 := Tryz.underlying136
  a46 := Tryz.isAgg136
  z46 := Tryz.sizeOf136
  v46 := Tryz.zeroValue136
  t51 := Tryz.underlying125
  a51 := Tryz.isAgg125
  z51 := Tryz.sizeOf125
  v51 := Tryz.zeroValue125
  t53 := Tryz.underlying130
  a53 := Tryz.isAgg130
  z53 := Tryz.sizeOf130
  v53 := Tryz.zeroValue130
  t171 := Tryz.underlying129
  a171 := Tryz.isAgg129
  z171 := Tryz.sizeOf129
  v171 := Tryz.zeroValue129
  t173 := Tryz.underlying133
  a173 := Tryz.isAgg133
  z173 := Tryz.sizeOf133
  v173 := Tryz.zeroValue133
  t212 := Tryz.underlying147
  a212 := Tryz.isAgg147
  z212 := Tryz.sizeOf147
  v212 := Tryz.zeroValue147
  t213 := Tryz.underlying148
  a213 := Tryz.isAgg148
  z213 := Tryz.sizeOf148
  t232 := Tryz.underlying167
  a232 := Tryz.isAgg167
  z232 := Tryz.sizeOf167
  v232 := Tryz.zeroValue167
  t233 := Tryz.underlying168
  a233 := Tryz.isAgg168
  z233 := Tryz.sizeOf168
  v233 := Tryz.zeroValue168
  g17 := by kernel_rfl
  g18 := by kernel_rfl
  g19 := by kernel_rfl
  i0 := by kernel_rfl
  i2 := by kernel_rfl
  i3 := by kernel_rfl
  i4 := by kernel_rfl
  i5 := by kernel_rfl
  i9 := by kernel_rfl
  i20 := by kernel_rfl
  i37 := by kernel_rfl
  i46 := by kernel_rfl
  i51 := by kernel_rfl
  i53 := by kernel_rfl
  i171 := by kernel_rfl
  i173 := by kernel_rfl
  i212 := by kernel_rfl
  i232 := by kernel_rfl
  i233 := by kernel_rfl
  m17 := by kernel_rfl
  m18 := by kernel_rfl
  m19 := by kernel_rfl }
open Go.RowKit Go.Sort Go.Lib in
theorem strconv_Itoa (n : Int) (h0 : -9223372036854775808 ≤ n) (h1 : n ≤ 9223372036854775807) (w : World) (htab : Lib.TabIs Tryz.prog w "internal/strconv.uint64pow10" .u64 Lib.pow10Tab) :
    Calls Tryz.prog 39 #[.int .i64 n] w fun e w' => e = .returned (.string ⟨(Lib.itoa n).toArray⟩) ∧ ∃ k os, w' = grow (w.drewN k) os := Any.strconv_Itoa laysM171 n h0 h1 w htab
end Go.Proofs.YtkemfifkjaclhaaGreatDoor

namespace Go.Proofs.YtkemfifkjaclhaaGreatDoor
set_option linter.unusedVariables false
set_option linter.unusedSimpArgs false
open Go.RowKit Go

/-- The library's table of powers of ten stands as its text lays it. -/
def Tab (w : World) : Prop := Lib.TabIs Tryz.prog w "internal/strconv.uint64pow10" .u64 Lib.pow10Tab
theorem Tab.below {w w' : World} (h : Tab w) (hb : Below w.heap.size w w') : Tab w' := Lib.tabBelow_of_tabIs h w' hb
theorem itoa (n : Int) (h : (Lit.int .i64 n).wf = true) (w : World) (ht : Tab w) :
    Calls Tryz.prog 39 #[.int .i64 n] w fun e w' => e = .returned (.string (itoB n)) ∧ Below w.heap.size w w' := by
  have h' := h
  simp only [Lit.wf, Bool.and_eq_true, decide_eq_true_eq] at h'
  refine (strconv_Itoa n h'.1 h'.2 w ht).mono ?_
  rintro e w' ⟨rfl, k, os, rfl⟩
  exact ⟨rfl, Lib.below_grow _ _ (Nat.le_refl _) k os⟩

def numS (zs : List Int) : List ByteArray := zs.map itoB
theorem numS_len (zs : List Int) : (numS zs).length = zs.length := by simp [numS]
theorem numS_snoc (zs : List Int) (z : Int) : numS (zs ++ [z]) = numS zs ++ [itoB z] := by simp [numS]
theorem getD_wf {zs : List Int} (h : ∀ n ∈ zs, (Lit.int .i64 n).wf = true) {k : Nat} (hk : k < zs.length) : (Lit.int .i64 (zs.getD k 0)).wf = true := by
  rw [getD_at zs k hk]; exact h _ (List.getElem_mem hk)

set_option maxRecDepth 100000 in
set_option maxHeartbeats 1000000 in
theorem numWords (a : Option Addr) (len cap : Nat) (zs : List Int) (w : World) (hr : IsRow .i64 w a len cap zs) (ht : Tab w) (hl : len ≤ 1048576) :
    Calls Tryz.prog 40 #[.slice a len cap] w fun e w' => ∃ v, e = .returned v ∧ Row w' v (sv (numS zs)) ∧ Below w.heap.size w w' := by
  obtain ⟨hz, hm⟩ := hr.len
  have HR : Hid (IsRow .i64 w a len cap zs) := hr
  have HT : Hid (Tab w) := ht
  clear hr ht hm
  have HI : Hid (∀ n w, (Lit.int .i64 n).wf = true → Tab w → Calls Tryz.prog 39 #[.int .i64 n] w fun e w' => e = .returned (.string (itoB n)) ∧ Below w.heap.size w w') := fun n w h ht => itoa n h w ht
  go_enter Tryz.func40, Tryz.ntmps40
  go_wp2
  go_loopw [3, 8] (fun o i wr => ∃ k : Nat, k ≤ len ∧ i = .int .i64 k ∧ Acc wr w.heap.size 9 1 o k (sv (numS (zs.take k))) ∧ Below w.heap.size w wr) (fun _ i _ => len - (intOf i).toNat)
  case atStart => exact ⟨0, Nat.zero_le _, rfl, Acc.nil _ _ _ _, Below.refl _ _⟩
  case round =>
    obtain ⟨k, hk, rfl, hacc, hb⟩ := hrel
    have HA : Hid (Acc wr w.heap.size 9 1 _ k (sv (numS (zs.take k)))) := hacc
    clear hacc
    by_cases hlt : k < len
    · obtain ⟨b, off, rfl, h1, h2, hc⟩ := IsRow.at (HR.out.below hb) hlt
      have HIk : Hid (∀ w', Tab w' → Calls Tryz.prog 39 #[.int .i64 (zs.getD k 0)] w' fun e w'' => e = .returned (.string (itoB (zs.getD k 0))) ∧ Below w'.heap.size w' w'') := fun w' h => HI.out _ w' (getD_wf HR.out.wf (by omega)) h
      have HTK : Hid (zs.take (k + 1) = zs.take k ++ [zs.getD k 0]) := takeI_snoc zs k (by omega)
      generalize zs.getD k 0 = z at hc HIk HTK
      go_wp2_with first
        | (go_at_call 39; refine (HIk.out _ ?_).mono ?_; exact HT.out.below hb; rintro e w1 ⟨rfl, hw1⟩; have HA1 := HA.out.below hw1; have hb1 := bcall hb hb.size hw1; clear hw1)
        | (at_builtin; refine wp_acc_str rfl _ _ rfl w.heap.size _ k (numS (zs.take k)) rfl (by exact HA1.alloc _) ⟨w1.heap.size, 0, none⟩ _ (itoB z) rfl (by simp) (by omega) (by have := hb1.size; simp; omega) ?_; intro v' w2 hacc2 hg2)
      go_roundw
      case rel => exact ⟨k + 1, by omega, by go_num, by rw [HTK.out, numS_snoc]; exact hacc2, (hb1.alloc hb1.size _).trans hg2⟩
      case measure => simp [intOf]; omega
    · have he : zs.take k = zs := List.take_of_length_le (by omega)
      rw [he] at HA
      go_wp2_with fail
      go_ret
      exact ⟨_, rfl, HA.out.row, hb⟩
end Go.Proofs.YtkemfifkjaclhaaGreatDoor

namespace Go.Proofs.YtkemfifkjaclhaaGreatDoor
set_option linter.unusedVariables false
set_option linter.unusedSimpArgs false
open Go.RowKit Go

def evB : ByteArray := ⟨#[101, 118, 101, 114, 121]⟩
def atB : ByteArray := ⟨#[97, 116]⟩
def frB : ByteArray := ⟨#[102, 114, 111, 109]⟩
def toB : ByteArray := ⟨#[116, 111]⟩
def butB : ByteArray := ⟨#[98, 117, 116]⟩
/-- The words of a rule behind the first. -/
def headW (r : Rul) : List ByteArray := [itoB r.ev, atB, itoB r.at_, frB, itoB r.fr, toB, itoB r.to_]
def butWs (r : Rul) : List ByteArray := if r.but = [] then [] else [butB]
def rwW (r : Rul) : List ByteArray := headW r ++ butWs r ++ numS r.but
def joinB (x : ByteArray) (ys : List ByteArray) : ByteArray := ys.foldl (fun o y => o ++ spB ++ y) x
theorem joinB_app (x : ByteArray) (ys zs : List ByteArray) : joinB x (ys ++ zs) = joinB (joinB x ys) zs := by simp [joinB]
theorem joinB_nums (x : ByteArray) (zs : List Int) : joinB x (numS zs) = numsT x zs := by simp [joinB, numsT, numS, List.foldl_map]
theorem joinB_rule (r : Rul) : joinB evB (rwW r) = rulT r := by
  have e1 : w1B = evB ++ spB := rfl
  have e2 : w2B = spB ++ atB ++ spB := rfl
  have e3 : w3B = spB ++ frB ++ spB := rfl
  have e4 : w4B = spB ++ toB ++ spB := rfl
  have e5 : w5B = spB ++ butB := rfl
  have hh : joinB evB (headW r) = headT r := by
    unfold joinB headW headT
    rw [e1, e2, e3, e4]
    simp only [List.foldl_cons, List.foldl_nil, ByteArray.append_assoc]
  unfold rwW rulT
  rw [joinB_app, joinB_app, hh, joinB_nums]
  congr 1
  unfold butWs
  split
  · rfl
  · rw [e5]; simp only [joinB, List.foldl_cons, List.foldl_nil, ByteArray.append_assoc]

theorem own_less {w : World} {base base' : Nat} {e : TypeId} {size : Nat} {v : Value} {n : Nat} {xs : List Value} (h : w.ownsRow base e size v n xs) (hb : base' ≤ base) : w.ownsRow base' e size v n xs := by
  refine ⟨h.1, ?_⟩
  rcases h.2 with h | ⟨g, cap, cur, h1, h2, h3⟩
  · exact .inl h
  · exact .inr ⟨g, cap, cur, h1, Nat.le_trans hb h2, h3⟩
end Go.Proofs.YtkemfifkjaclhaaGreatDoor
