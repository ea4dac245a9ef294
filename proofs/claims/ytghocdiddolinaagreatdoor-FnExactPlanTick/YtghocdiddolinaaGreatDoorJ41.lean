/- The program's own calendars: CalDue. -/
import Derived.Test.YtghocdiddolinaaGreatDoorJ19
import Derived.Test.YtghocdiddolinaaGreatDoorJ24
import Derived.Test.YtghocdiddolinaaGreatDoorJ29
import Derived.Lib.AppendZeros
import Derived.Test.YtghocdiddolinaaGreatDoorJ35
namespace Go.Proofs.YtghocdiddolinaaGreatDoor
set_option linter.unusedVariables false
set_option linter.unusedSimpArgs false
open Go.RowKit Go
namespace Pl
open Dr (ButO rowB rowB_own rowB_pos)

theorem append_nothing {P : Program} (w : World) (t ty e : TypeId) (i : TypeInfo) (ht : P.underlying t = some (.slice e)) (hi : P.info? e = some i) (a x : Option Addr) (n c c2 : Nat) (hn : n ≤ c) :
    (Builtin.append_ #[t, t] ty #[.slice a n c, .slice x 0 c2]).run P w = .ok (.slice a n c) w := by
  cases a <;> cases x <;> simp [Builtin.append_, run_underlying ht, sizeOf, typeInfo, hi, Builtin.lenOf, Builtin.firstCells, loadCells, loadCellsFrom, storeCells, hn]
theorem tlds_cells {w : World} {b1 off1 n cx : Nat} {ts : List Tld} (hr : IsTlds w (some ⟨b1, off1, none⟩) n cx ts) : ∀ j u, (flatT ts)[j]? = some u → w.cell? ((⟨b1, off1, none⟩ : Addr).add j) = some u := fun j u hj => by
  have hjl : j < ts.length * 2 := by have := (List.getElem?_eq_some_iff.1 hj).1; rw [flatT_len] at this; exact this
  obtain ⟨b2, off2, e2, _, _, c0, c1, _⟩ := IsTlds.at hr (i := j / 2) (by omega)
  simp only [Option.some.injEq, Addr.mk.injEq, and_true] at e2
  obtain ⟨rfl, rfl⟩ := e2
  have hfj := flatT_at ts (j / 2) (j % 2) (by omega) (Nat.mod_lt _ (by decide))
  rw [show j / 2 * 2 + j % 2 = j by omega, hj] at hfj
  rw [Addr.add_lit]
  rcases (by omega : j % 2 = 0 ∨ j % 2 = 1) with e | e
  · rw [e] at hfj
    simp only [cellsT, List.getElem?_cons_zero, Option.some.injEq] at hfj
    rw [hfj, ← c0, show off1 + j / 2 * 2 = off1 + j by omega]
  · rw [e] at hfj
    simp only [cellsT, List.getElem?_cons_succ, List.getElem?_cons_zero, Option.some.injEq] at hfj
    rw [hfj, ← c1, show off1 + j / 2 * 2 + 1 = off1 + j by omega]
/-- All that was told, appended to a row of one's own. -/
theorem wp_catT {w : World} {ops : Array Oper} {rest : List Oper} {o : Oper} {a : Act} {Q : Exit → Act → World → Prop} (hgd : o.guard = none) (s x : Operand)
    (ho : o.op = .call { callee := .builtin .append, args := #[s, x], argTypes := #[29, 29] })
    (F : Nat) (v : Value) (ts : List Tld) (hs : a.eval s = v) (hacc : w.ownsRow F 61 2 v ts.length (flatT ts))
    (ax : Option Addr) (m cx : Nat) (us : List Tld) (hx : a.eval x = .slice ax m cx) (hr : IsTlds w ax m cx us) (hn : ts.length + m ≤ 1099511627776) (hF : F ≤ w.heap.size)
    (h : ∀ v' w', w'.ownsRow F 61 2 v' (ts ++ us).length (flatT (ts ++ us)) → Below F w w' → wpList Tryz.prog ops Q rest (a.put o.dst v') w') : wpList Tryz.prog ops Q (o :: rest) a w := by
  have hl := (IsRecs.len hr).1
  obtain ⟨i, hi, hzz⟩ := Option.map_eq_some_iff.1 info_PlanTold
  simp only [Prod.mk.injEq] at hzz
  obtain ⟨hz, hsize, hby⟩ := hzz
  by_cases h0 : m = 0
  · have hus : us = [] := List.length_eq_zero_iff.1 (by omega)
    subst hus h0
    refine wpList_plain hgd fun K hK => ?_
    obtain ⟨b, c, rfl, hbc⟩ : ∃ b c, v = .slice b ts.length c ∧ ts.length ≤ c := by
      rcases hacc.2 with ⟨rfl, h0⟩ | ⟨g, cap, cur, rfl, _, _, hle, _⟩
      · exact ⟨none, 0, by rw [h0], by omega⟩
      · exact ⟨_, cap, rfl, hle⟩
    have hrun := append_nothing (P := Tryz.prog) w 29 o.type 61 i Tryz.underlying29 hi b ax ts.length c cx hbc
    unfold Oper.wp execOp
    simp only [ho, resolve, invoke, builtin, Sem.run_bind, Sem.run_pure, Result.andThen_ok, List.map_toArray, List.map_cons, List.map_nil, hs, hx, hrun]
    exact hK _ _ (h _ w (by rw [List.append_nil]; exact hacc) (Below.refl _ _))
  · obtain ⟨b1, off1, rfl, _⟩ := IsTlds.at hr (i := 0) (by omega)
    refine wpList_plain hgd fun K hK => ?_
    obtain ⟨v', w', hrun, h2, h3, h4, _⟩ := Cal.run_acc_at (P := Tryz.prog) w F 29 o.type 61 i _ 2 16 Tryz.underlying29 hi hz hsize hby rfl (by decide) v ts.length (flatT ts) (.inr hacc) ⟨b1, off1, none⟩ m cx (flatT us) (by omega) (by rw [flatT_len, hl]) (tlds_cells hr) (flat_oneT us) (by unfold maxLen; omega) (by omega) hF
    unfold Oper.wp execOp
    simp only [ho, resolve, invoke, builtin, Sem.run_bind, Sem.run_pure, Result.andThen_ok, List.map_toArray, List.map_cons, List.map_nil, hs, hx, hrun]
    exact hK _ _ (h v' w' (by rw [List.length_append, hl, flatT_app]; exact h2) h3)

set_option maxRecDepth 20000 in
set_option maxHeartbeats 2000000 in
theorem growT (k : Nat) (hk : k ≤ 8388608) (w : World) :
    Calls Tryz.prog 92 #[.slice none 0 0, .int .i64 k] w fun e w' => (∃ v, e = .returned v ∧ w'.ownsRow w.heap.size 61 2 v 0 []) ∧ Below w.heap.size w w' := by
  by_cases h0 : k = 0
  · subst h0
    go_enter Tryz.func92, Tryz.ntmps92
    go_wp2
    go_ret
    exact ⟨⟨_, rfl, World.ownsRow_nil _ _ _ _⟩, Below.refl _ _⟩
  · obtain ⟨i, hi, hzz⟩ := Option.map_eq_some_iff.1 info_PlanTold
    simp only [Prod.mk.injEq] at hzz
    obtain ⟨hz, hsize, hby⟩ := hzz
    have happ := fun ty => Go.Lib.run_append_nil_zeros (P := Tryz.prog) w 29 3 ty 61 i _ .i64 .i64 Tryz.underlying29 Tryz.underlying3 hi hz k (by omega) (by omega) (by omega) (by rw [hby]; omega)
    have hcapge : k ≤ grownCap w k 0 61 := grownCap_ge w k 0 61
    have hcaple : grownCap w k 0 61 ≤ maxLen := grownCap_le_maxLen w k 0 61 (by unfold maxLen; omega)
    generalize grownCap w k 0 61 = cap2 at happ hcapge hcaple
    have hZs : (Builtin.zeroCells (Value.agg #[.int .i64 0, .int .i64 0]).cells k ++ Builtin.zeroCells (Value.agg #[.int .i64 0, .int .i64 0]).cells (cap2 - k)).size = cap2 * 2 := by
      simp [size_zeroCells, Value.cells]; omega
    generalize (Builtin.zeroCells (Value.agg #[.int .i64 0, .int .i64 0]).cells k ++ Builtin.zeroCells (Value.agg #[.int .i64 0, .int .i64 0]).cells (cap2 - k)) = Z at happ hZs
    have HAPP : Hid _ := happ
    clear happ
    have hk1 : ¬ ((k : Int) < 0) := by omega
    have hk2 : (0 : Int) < k := by omega
    go_enter Tryz.func92, Tryz.ntmps92
    go_wp2_with (at_builtin; refine Go.Lib.wpList_append_run _ rfl _ _ _ _ rfl _ _ rfl rfl _ _ (HAPP.out _) ?_)
    go_ret
    exact ⟨⟨_, rfl, ⟨rfl, .inr ⟨w.heap.size, cap2, Z, rfl, Nat.le_refl _, heap_alloc_new w _, Nat.zero_le _, hcaple, hZs, by simp⟩⟩⟩, ((Below.refl _ _).alloc (Nat.le_refl _) _).drew⟩

/-- How many, and which, behind so many rounds. -/
def sumN (n0 n1 k : Nat) : Nat := if k = 0 then 0 else if k = 1 then n0 else n0 + n1
def sumL (us vs : List Tld) (k : Nat) : List Tld := if k = 0 then [] else if k = 1 then us else us ++ vs
set_option maxRecDepth 20000 in
set_option maxHeartbeats 4000000 in
theorem concatT (b : Nat) (a0 : Option Addr) (n0 c0 : Nat) (a1 : Option Addr) (n1 c1 : Nat) (us vs : List Tld) (w : World) (hb : Holds w b 29 #[.slice a0 n0 c0, .slice a1 n1 c1]) (h0 : IsTlds w a0 n0 c0 us) (h1 : IsTlds w a1 n1 c1 vs) (hn0 : n0 ≤ 1048576) (hn1 : n1 ≤ 1048576) :
    Calls Tryz.prog 79 #[.slice (some ⟨b, 0, none⟩) 2 2] w fun e w' => (∃ v, e = .returned v ∧ w'.ownsRow w.heap.size 61 2 v (us ++ vs).length (flatT (us ++ vs))) ∧ Below w.heap.size w w' := by
  have hl0 := (IsRecs.len h0).1
  have hl1 := (IsRecs.len h1).1
  have H0 : Hid (IsTlds w a0 n0 c0 us) := h0
  have H1 : Hid (IsTlds w a1 n1 c1 vs) := h1
  have HB : Hid (Holds w b 29 #[.slice a0 n0 c0, .slice a1 n1 c1]) := hb
  have q0 : w.cell? ⟨b, 0, none⟩ = some (.slice a0 n0 c0) := by rw [hb.cell]; rfl
  have q1 : w.cell? ⟨b, 1, none⟩ = some (.slice a1 n1 c1) := by rw [hb.cell]; rfl
  clear h0 h1 hb
  go_enter Tryz.func79, Tryz.ntmps79
  go_wp2_with fail
  go_loopw [3, 11] (fun z i wr => ∃ k : Nat, k ≤ 2 ∧ i = .int .i64 k ∧ z = .int .i64 (sumN n0 n1 k : Nat) ∧ wr = w) (fun _ i _ => 2 - (intOf i).toNat)
  case atStart => exact ⟨0, by omega, rfl, rfl, rfl⟩
  case round =>
    obtain ⟨k, hk, rfl, rfl, rfl⟩ := hrel
    rcases (by omega : k = 0 ∨ k = 1 ∨ k = 2) with rfl | rfl | rfl
    · simp only [sumN, if_true]
      go_wp2_with fail
      go_roundw
      case rel => exact ⟨1, by omega, rfl, by simp [sumN], trivial⟩
      case measure => simp [intOf]
    · simp only [sumN, if_true, show (1 : Nat) ≠ 0 by decide, if_false]
      have e1 : ¬ ((n0 : Int) + n1 < 0) := by omega
      have e2 : (n0 : Int) + n1 ≤ 9223372036854775807 := by omega
      go_wp2_with fail
      go_roundw
      case rel => exact ⟨2, by omega, rfl, by simp [sumN], trivial⟩
      case measure => simp [intOf]
    · simp only [sumN, show (2 : Nat) ≠ 0 by decide, show (2 : Nat) ≠ 1 by decide, if_false]
      obtain ⟨W0, hW0⟩ : ∃ W0, W0 = wr := ⟨_, rfl⟩
      subst hW0
      have hg := growT (n0 + n1) (by omega) W0
      rw [Int.natCast_add] at hg
      have HG : Hid (Calls Tryz.prog 92 #[.slice none 0 0, .int .i64 ((n0 : Int) + n1)] W0 fun e w' => (∃ v, e = .returned v ∧ w'.ownsRow W0.heap.size 61 2 v 0 []) ∧ Below W0.heap.size W0 w') := hg
      clear hg
      go_wp2_with fail
      refine Calls.mono HG.out ?_
      rintro e w1 ⟨⟨v, rfl, hv⟩, hb1⟩
      have HV : Hid (w1.ownsRow W0.heap.size 61 2 v 0 [] ∧ Below W0.heap.size W0 w1) := ⟨hv, hb1⟩
      clear HG hv hb1 q0 q1
      go_wp2_with fail
      go_loopw [6, 27] (fun o i wz => ∃ k : Nat, k ≤ 2 ∧ i = .int .i64 k ∧ wz.ownsRow W0.heap.size 61 2 o (sumL us vs k).length (flatT (sumL us vs k)) ∧ Below W0.heap.size W0 wz) (fun _ i _ => 2 - (intOf i).toNat)
      case atStart => exact ⟨0, by omega, rfl, HV.out.1, HV.out.2⟩
      case round =>
        obtain ⟨k, hk, rfl, ho, hbz⟩ := hrel
        have q0 : wr.cell? ⟨b, 0, none⟩ = some (.slice a0 n0 c0) := by rw [(Holds.below HB.out hbz).cell]; rfl
        have q1 : wr.cell? ⟨b, 1, none⟩ = some (.slice a1 n1 c1) := by rw [(Holds.below HB.out hbz).cell]; rfl
        have HO : Hid _ := ho
        have HBZ : Hid (Below W0.heap.size W0 wr) := hbz
        have I0 : Hid (IsTlds wr a0 n0 c0 us) := IsTlds.below H0.out hbz
        have I1 : Hid (IsTlds wr a1 n1 c1 vs) := IsTlds.below H1.out hbz
        clear ho hbz HV
        rcases (by omega : k = 0 ∨ k = 1 ∨ k = 2) with rfl | rfl | rfl
        · go_wp2_with (at_builtin; refine wp_catT rfl _ _ rfl W0.heap.size _ (sumL us vs 0) rfl HO.out a0 n0 c0 us rfl I0.out (by simp [sumL]; omega) HBZ.out.size ?_; intro v2 w2 h2 hb2; have HV2 : Hid _ := And.intro h2 hb2; clear h2 hb2)
          go_roundw
          case rel => exact ⟨1, by omega, rfl, by simpa [sumL] using HV2.out.1, HBZ.out.trans HV2.out.2⟩
          case measure => simp [intOf]
        · go_wp2_with (at_builtin; refine wp_catT rfl _ _ rfl W0.heap.size _ (sumL us vs 1) rfl HO.out a1 n1 c1 vs rfl I1.out (by simp [sumL]; omega) HBZ.out.size ?_; intro v2 w2 h2 hb2; have HV2 : Hid _ := And.intro h2 hb2; clear h2 hb2)
          go_roundw
          case rel => exact ⟨2, by omega, rfl, by simpa [sumL] using HV2.out.1, HBZ.out.trans HV2.out.2⟩
          case measure => simp [intOf]
        · go_wp2_with fail
          go_ret
          exact ⟨⟨_, rfl, HO.out⟩, HBZ.out⟩

theorem IsTlds.drop {w : World} {g off n c : Nat} {ts : List Tld} (h : IsTlds w (some ⟨g, off, none⟩) n c ts) (d : Nat) (hd : d ≤ n) : IsTlds w (some ⟨g, off + d * 2, none⟩) (n - d) (c - d) (ts.drop d) := by
  obtain ⟨h1, h2, h3, h4⟩ := h
  refine ⟨by rw [List.length_drop, h1], by omega, by omega, fun hn => ?_⟩
  obtain ⟨b, o, e, hb, hc⟩ := h4 (by omega)
  simp only [Option.some.injEq, Addr.mk.injEq, and_true] at e
  obtain ⟨rfl, rfl⟩ := e
  refine ⟨g, off + d * 2, rfl, hb, fun i hi => ?_⟩
  rw [List.length_drop] at hi
  obtain ⟨vs, k1, k2, k3⟩ := hc (d + i) (by omega)
  refine ⟨vs, k1, fun j hj => ?_, ?_⟩
  · rw [show off + d * 2 + i * 2 + j = off + (d + i) * 2 + j by omega]; exact k2 j hj
  · rw [List.getElem_drop]; exact k3

set_option maxRecDepth 20000 in
set_option maxHeartbeats 4000000 in
theorem lastTold (a0 : Option Addr) (n0 c0 : Nat) (a1 : Option Addr) (n1 c1 : Nat) (us vs : List Tld) (w : World) (h0 : IsTlds w a0 n0 c0 us) (h1 : IsTlds w a1 n1 c1 vs) (hn0 : n0 ≤ 1048576) (hn1 : n1 ≤ 524288) (hn2 : n0 + n1 ≤ 1048576) :
    Calls Tryz.prog 54 #[.slice a0 n0 c0, .slice a1 n1 c1] w fun e w' => (∃ v, e = .returned v ∧ w'.ownsRow w.heap.size 61 2 v (keep (us ++ vs)).length (flatT (keep (us ++ vs)))) ∧ Below w.heap.size w w' := by
  have hl0 := (IsRecs.len h0).1
  have hl1 := (IsRecs.len h1).1
  have hba : Below w.heap.size w (w.alloc (.cells #[.slice a0 n0 c0, .slice a1 n1 c1] 29)) := (Below.refl _ _).alloc (Nat.le_refl _) _
  have HC : Hid _ := concatT w.heap.size a0 n0 c0 a1 n1 c1 us vs (w.alloc (.cells #[.slice a0 n0 c0, .slice a1 n1 c1] 29)) (heap_alloc_new _ _) (h0.below hba) (h1.below hba) hn0 (by omega)
  have HG : Hid (Goods (us ++ vs)) := goods_app (IsTlds.goods h0) (IsTlds.goods h1)
  clear h0 h1
  have hlen : (us ++ vs).length = n0 + n1 := by rw [List.length_append]; omega
  generalize us ++ vs = ts at HC HG hlen ⊢
  have hts : ts.length ≤ 1048576 := by omega
  clear hl0 hl1 us vs hlen
  go_enter Tryz.func54, Tryz.ntmps54
  go_wp2_with fail
  refine Calls.mono HC.out ?_
  rintro e w1 ⟨⟨v, rfl, hv⟩, hb1⟩
  have HB1 : Hid (Below w.heap.size w w1) := bcall hba (by simp) hb1
  have hT : TO w1 (w.heap.size + 1) v ts := TO.of_own (by simpa using hv)
  clear HC hb1 hba
  obtain ⟨a, c, rfl, hI⟩ := hT.is (fun i hi => HG.out _ (List.getElem_mem hi))
  clear hT
  have hlc := hI.2.1
  by_cases hn : 60 < ts.length
  · obtain ⟨b, off, rfl, _⟩ := IsTlds.at hI (i := 0) (by omega)
    have HCP : Hid _ := copyTolds (some ⟨b, off + (ts.length - 60) * 2, none⟩) (ts.length - (ts.length - 60)) (c - (ts.length - 60)) (ts.drop (ts.length - 60)) w1 (IsTlds.drop hI (ts.length - 60) (by omega)) (by omega)
    clear hI
    have e1 : max (0 : Int) ((ts.length : Int) - 60) = ((ts.length - 60 : Nat) : Int) := by omega
    have e2 : ((ts.length - 60 : Nat) : Int) ≤ (ts.length : Int) := by omega
    clear hv
    have HK : Hid (keep ts = ts.drop (ts.length - 60)) := rfl
    go_wp2_with fail
    refine Calls.mono HCP.out ?_
    rintro e w2 ⟨⟨v, rfl, hv2⟩, hb2⟩
    go_wp2_with fail
    go_ret
    rw [HK.out]
    exact ⟨⟨_, rfl, by rw [List.length_drop]; exact Cal.own_base hv2 HB1.out.size⟩, bcall HB1.out HB1.out.size hb2⟩
  · clear hv
    have e1 : max (0 : Int) ((ts.length : Int) - 60) = 0 := by omega
    have HCP : Hid _ := copyTolds a ts.length c ts w1 hI (by omega)
    go_wp2_with fail
    refine Calls.mono HCP.out ?_
    rintro e w2 ⟨⟨v, rfl, hv2⟩, hb2⟩
    go_wp2_with fail
    go_ret
    rw [keep_small (by omega)]
    exact ⟨⟨_, rfl, Cal.own_base hv2 HB1.out.size⟩, bcall HB1.out HB1.out.size hb2⟩
end Pl
end Go.Proofs.YtghocdiddolinaaGreatDoor

namespace Go.Proofs.YtghocdiddolinaaGreatDoor
set_option linter.unusedVariables false
set_option linter.unusedSimpArgs false
open Go.RowKit Go

set_option maxHeartbeats 1000000 in
theorem dueFn (r : Rul) (a : Option Addr) (len cap : Nat) (t : Int) (pt : Nat) (w : World) (hr : IsRow .i64 w a len cap r.but) (hok : RuleOk r) (hct : w.cell? ⟨pt, 0, none⟩ = some (.int .i64 t)) :
    Calls Tryz.prog 108 #[.agg #[.int .i64 r.ev, .int .i64 r.at_, .int .i64 r.fr, .int .i64 r.to_, .slice a len cap], .pointer (some ⟨pt, 0, none⟩)] w fun x w' => x = .returned (.bool (ofRule r t)) ∧ Below w.heap.size w w' := by
  have hc2 : ∀ o, (w.alloc o).cell? ⟨pt, 0, none⟩ = some (.int .i64 t) := fun o => by rw [World.cell?_alloc_lt _ _ _ (World.block_lt_of_cell? _ _ hct)]; exact hct
  have HT : Hid (∀ o, Calls Tryz.prog 94 #[.agg #[.int .i64 r.ev, .int .i64 r.at_, .int .i64 r.fr, .int .i64 r.to_, .slice a len cap], .int .i64 t] (w.alloc o) fun x w' => x = .returned (.bool (ofRule r t)) ∧ Below (w.alloc o).heap.size (w.alloc o) w') := fun o => hasTick r a len cap t (w.alloc o) (hr.alloc o) hok
  clear hr hok hct
  generalize ofRule r t = v at HT ⊢
  go_enter Tryz.func108, Tryz.ntmps108
  go_wp2_with fail
  refine (HT.out _).mono ?_
  rintro e w1 ⟨rfl, hw1⟩
  go_wp2_with fail
  go_ret
  exact ⟨rfl, bcall ((Below.refl _ _).alloc (Nat.le_refl _) _) (by simp) hw1⟩

set_option maxHeartbeats 1000000 in
theorem indexFunc (a : Option Addr) (len cap : Nat) (rs : List Rul) (t : Int) (pt : Nat) (w : World) (hr : IsRuls w a len cap rs) (hok : ∀ i (hi : i < rs.length), RuleOk rs[i]) (hct : w.cell? ⟨pt, 0, none⟩ = some (.int .i64 t)) :
    Calls Tryz.prog 109 #[.slice a len cap, .func (.func 108) #[] #[.pointer (some ⟨pt, 0, none⟩)]] w fun e w' => IdxPost e (due rs t) ∧ Below w.heap.size w w' := by
  obtain ⟨hz, hm⟩ := IsRecs.len hr
  unfold maxLen at hm
  have HR : Hid (IsRuls w a len cap rs) := hr
  have HOK : Hid (∀ i (hi : i < rs.length), RuleOk rs[i]) := hok
  have HCT : Hid (w.cell? ⟨pt, 0, none⟩ = some (.int .i64 t)) := hct
  clear hr hok hct
  go_enter Tryz.func109, Tryz.ntmps109
  go_wp2
  go_loopw [8] (fun i wr => ∃ q : Nat, i = .int .i64 q ∧ q ≤ len ∧ (∀ i (hi : i < rs.length), i < q → ofRule rs[i] t = false) ∧ Below w.heap.size w wr) (fun i _ => len - (intOf i).toNat)
  case atStart => exact ⟨0, rfl, Nat.zero_le _, fun i _ h => by omega, Below.refl _ _⟩
  case round =>
    obtain ⟨q, rfl, hq, hno, hb⟩ := hrel
    by_cases hlt : q < len
    · obtain ⟨b, off, rfl, h1, hbl, a1, l1, k1, c0, c1, c2, c3, c4, hrow1, _⟩ := IsRuls.at (IsRuls.below HR.out hb) (i := q) (by omega)
      have HE := dueFn rs[q] a1 l1 k1 t pt wr hrow1 (HOK.out q (by omega)) (by rw [hb.cell (World.block_lt_of_cell? _ _ HCT.out)]; exact HCT.out)
      by_cases hy : ofRule rs[q] t = true
      · have HF : Hid (due rs t = true) := due_yes (by omega) hy
        rw [hy] at HE
        have HE : Hid _ := HE
        clear hno hy
        go_wp2_with fail
        refine Calls.mono HE.out ?_
        rintro e w1 ⟨rfl, hw1⟩
        go_wp2_with fail
        go_ret
        exact ⟨.inl ⟨q, rfl, HF.out⟩, bcall hb hb.size hw1⟩
      · have hy : ofRule rs[q] t = false := by simpa using hy
        have HNO : Hid (∀ i (hi : i < rs.length), i < q + 1 → ofRule rs[i] t = false) := fun i hi hiq => by
          by_cases e : i = q
          · subst e; exact hy
          · exact hno i hi (by omega)
        rw [hy] at HE
        have HE : Hid _ := HE
        clear hno hy
        go_wp2_with fail
        refine Calls.mono HE.out ?_
        rintro e w1 ⟨rfl, hw1⟩
        go_wp2_with fail
        go_roundw
        case rel => exact ⟨q + 1, by go_num, by omega, HNO.out, bcall hb hb.size hw1⟩
        case measure => simp [intOf]; omega
    · have HF : Hid (due rs t = false) := due_no fun i hi => hno i hi (by omega)
      clear hno
      go_wp2_with fail
      go_ret
      exact ⟨.inr ⟨rfl, HF.out⟩, hb⟩

set_option maxHeartbeats 1000000 in
theorem containsFunc (a : Option Addr) (len cap : Nat) (rs : List Rul) (t : Int) (pt : Nat) (w : World) (hr : IsRuls w a len cap rs) (hok : ∀ i (hi : i < rs.length), RuleOk rs[i]) (hct : w.cell? ⟨pt, 0, none⟩ = some (.int .i64 t)) :
    Calls Tryz.prog 107 #[.slice a len cap, .func (.func 108) #[] #[.pointer (some ⟨pt, 0, none⟩)]] w fun e w' => e = .returned (.bool (due rs t)) ∧ Below w.heap.size w w' := by
  have HI : Hid _ := indexFunc a len cap rs t pt w hr hok hct
  clear hr hok hct
  go_enter Tryz.func107, Tryz.ntmps107
  go_wp2_with fail
  refine Calls.mono HI.out ?_
  rintro e w1 ⟨(⟨n, rfl, hb⟩ | ⟨rfl, hb⟩), hw⟩
  · have HB : Hid _ := hb
    clear hb
    have hd : decide ((0 : Int) ≤ (n : Int)) = true := decide_eq_true (by omega)
    go_wp2_with fail
    go_ret
    exact ⟨ret_bool HB.out.symm, hw⟩
  · have HB : Hid _ := hb
    clear hb
    go_wp2_with fail
    go_ret
    exact ⟨ret_bool HB.out.symm, hw⟩

set_option maxHeartbeats 1000000 in
theorem implCalDue (a : Option Addr) (len cap : Nat) (rs : List Rul) (t : Int) (w : World) (hr : IsRuls w a len cap rs) (hg : ErrT w) :
    Calls Tryz.prog 102 #[.slice a len cap, .int .i64 t] w fun e w' => e = .returned (.bool (calDue rs t)) ∧ Below w.heap.size w w' := by
  have HK := fun o => implCalOk a len cap rs (w.alloc o) (hr.alloc o) (hg.below ((Below.refl _ _).alloc (Nat.le_refl _) _))
  have HR : Hid (IsRuls w a len cap rs) := hr
  clear hr hg
  by_cases hok : calOk rs = true
  · rw [hok] at HK
    have HK : Hid _ := HK
    have HD : Hid (∀ pt w, IsRuls w a len cap rs → w.cell? ⟨pt, 0, none⟩ = some (.int .i64 t) → Calls Tryz.prog 107 #[.slice a len cap, .func (.func 108) #[] #[.pointer (some ⟨pt, 0, none⟩)]] w fun e w' => e = .returned (.bool (due rs t)) ∧ Below w.heap.size w w') := fun pt w h h2 => containsFunc a len cap rs t pt w h (calOk_rules hok) h2
    have HF : Hid (calDue rs t = due rs t) := by show _ = _; unfold calDue; rw [hok]; rfl
    go_enter Tryz.func102, Tryz.ntmps102
    go_wp2_with fail
    refine Calls.mono (HK.out _) ?_
    rintro e w1 ⟨rfl, hw1⟩
    have hc : w1.cell? ⟨w.heap.size, 0, none⟩ = some (.int .i64 t) := by rw [(bcell hw1).1 _ _ (by simp)]; simp
    have hb : Below w.heap.size w w1 := bcall ((Below.refl _ _).alloc (Nat.le_refl _) _) (by simp) hw1
    clear hw1
    go_wp2_with fail
    refine (HD.out _ _ (HR.out.below hb) hc).mono ?_
    rintro e w2 ⟨rfl, hw2⟩
    go_wp2_with fail
    go_ret
    exact ⟨ret_bool HF.out.symm, bcall hb hb.size hw2⟩
  · have hok : calOk rs = false := by simpa using hok
    rw [hok] at HK
    have HK : Hid _ := HK
    have HF : Hid (calDue rs t = false) := by show _ = _; unfold calDue; rw [hok]; rfl
    go_enter Tryz.func102, Tryz.ntmps102
    go_wp2_with fail
    refine Calls.mono (HK.out _) ?_
    rintro e w1 ⟨rfl, hw1⟩
    go_wp2_with fail
    go_ret
    exact ⟨ret_bool HF.out.symm, bcall ((Below.refl _ _).alloc (Nat.le_refl _) _) (by simp) hw1⟩
end Go.Proofs.YtghocdiddolinaaGreatDoor
