/- The program's own copies: of numbers, of what was told, of rules. -/
import Derived.Test.YtghocdiddolinaaGreatDoorJ7
import Derived.Test.YtghocdiddolinaaGreatDoorJ15
namespace Go.Proofs.YtghocdiddolinaaGreatDoor
set_option linter.unusedVariables false
set_option linter.unusedSimpArgs false
open Go.RowKit Go
namespace Pl

theorem own_elseV {w : World} {base n : Nat} {t : TypeId} {size : Nat} {v : Value} {xs : List Value} (h : w.ownsRow base t size v n xs) {p : Addr} (hp : v.ownBlock ≠ some p.block) (u : Value) : (w.setCell p u).ownsRow base t size v n xs := by
  refine ⟨h.1, ?_⟩
  rcases h.2 with h0 | ⟨g, cap, cur, h1, h2, h3, h4⟩
  · exact .inl h0
  · refine .inr ⟨g, cap, cur, h1, h2, (Below.heap_setCell w p u g (fun e => hp ?_)).trans h3, h4⟩
    subst h1; simp [Value.ownBlock, e]
theorem own_form {w : World} {base n : Nat} {t : TypeId} {size : Nat} {v : Value} {xs : List Value} (h : w.ownsRow base t size v n xs) : ∃ a c, v = .slice a n c := by
  rcases h.2 with ⟨rfl, h0⟩ | ⟨g, cap, cur, rfl, _⟩
  · exact ⟨none, 0, by rw [h0]⟩
  · exact ⟨_, _, rfl⟩
theorem asItIsTold (tk wh : Int) (w : World) : Calls Tryz.prog 78 #[.agg #[.int .i64 tk, .int .i64 wh]] w fun e w' => e = .returned (.agg #[.int .i64 tk, .int .i64 wh]) ∧ Below w.heap.size w w' := by
  go_enter Tryz.func78, Tryz.ntmps78
  go_wp2
  refine bodyPost_ret (v := .agg #[.int .i64 tk, .int .i64 wh]) ?_ rfl ?_
  · simp [results, Tryz.results78, go_sem]
  · exact ⟨rfl, by first | exact Below.refl _ _ | exact (Below.refl _ _).alloc (Nat.le_refl _) _ | exact ((Below.refl _ _).alloc (Nat.le_refl _) _).alloc (by simp) _⟩

set_option maxHeartbeats 800000 in
theorem copyInts (a : Option Addr) (len cap : Nat) (zs : List Int) (w : World) (hr : IsRow .i64 w a len cap zs) (hs : len ≤ 1048576) :
    Calls Tryz.prog 75 #[.slice a len cap, .func (.func 76) #[] #[]] w fun e w' => (∃ v, e = .returned v ∧ w'.ownsRow w.heap.size 3 1 v len (zs.map (Value.int .i64))) ∧ Below w.heap.size w w' := by
  obtain ⟨hz, hm⟩ := hr.len
  have HRW : Hid (IsRow .i64 w a len cap zs) := hr
  clear hr
  by_cases h0 : len = 0
  · subst h0
    have hz0 : zs = [] := List.length_eq_zero_iff.1 hz
    subst hz0
    clear HRW hz
    go_enter Tryz.func75, Tryz.ntmps75
    go_wp2
    go_ret
    exact ⟨⟨_, rfl, World.ownsRow_nil _ _ _ _⟩, Below.refl _ _⟩
  have hd0 : ((len : Int) == 0) = false := by simp; omega
  have hmk := run_make_row' (P := Tryz.prog) 23 3 (.int .i64 0) 8 Tryz.underlying23 info_int rfl .i64 .i64 len (by omega) (by omega)
  go_enter Tryz.func75, Tryz.ntmps75
  go_wp2
  go_loopw [16] (fun i wr => ∃ k : Nat, k ≤ len ∧ i = .int .i64 k ∧ ∃ cur, Holds wr w.heap.size 3 cur ∧ cur.size = len ∧ (∀ i, i < k → cur[i]? = some (.int .i64 (zs.getD i 0))) ∧ Below w.heap.size w wr) (fun i _ => len - (intOf i).toNat)
  case atStart => exact ⟨0, Nat.zero_le _, rfl, _, heap_alloc_new _ _, size_madeCells _ _, fun i h => by omega, (Below.refl _ _).alloc (Nat.le_refl _) _⟩
  case round =>
    obtain ⟨k, hk, rfl, cur, hg, hcs, hc, hb⟩ := hrel
    by_cases hlt : k < len
    · have HR := fun x hx => toInts_round (w := w) hlt hg hcs hc hb x hx
      have HR : Hid _ := HR
      obtain ⟨b, off, rfl, h1, hbl, hck⟩ := IsRow.at HRW.out hlt
      have hc1 : wr.cell? ⟨b, off + k, none⟩ = some (.int .i64 (zs.getD k 0)) := (hb.cell (p := ⟨b, off + k, none⟩) hbl).trans hck
      have hf1 : wr.frozen? ⟨w.heap.size, k, none⟩ = false := hg.frozen k
      have hf2 : wr.cell? ⟨w.heap.size, k, none⟩ = some cur[k] := by rw [hg.cell]; simp [hcs, hlt]
      have HI : Hid (∀ z w, Calls Tryz.prog 76 #[.int .i64 z] w fun e w' => e = .returned (.int .i64 z) ∧ w' = w) := asItIs
      clear hck hc hg
      go_wp2_with (go_at_call 76; refine (HI.out _ _).mono ?_; rintro e w1 ⟨rfl, rfl⟩)
      go_roundw
      case rel =>
        exact ⟨k + 1, by omega, by go_num, HR.out _ (getD_at zs k (by omega)).symm⟩
      case measure => simp [intOf]; omega
    · have hkl : k = len := by omega
      subst hkl
      go_wp2
      go_ret
      refine ⟨⟨_, rfl, ⟨by simp [hz], .inr ⟨w.heap.size, k, cur, rfl, Nat.le_refl _, hg, Nat.le_refl _, by unfold maxLen; omega, by omega, ?_⟩⟩⟩, hb⟩
      rw [Nat.mul_one, List.take_of_length_le (by simp [hcs])]
      refine List.ext_getElem? fun i => ?_
      by_cases hi : i < k
      · have := hc i hi
        rw [List.getElem?_map, List.getElem?_eq_getElem (by omega : i < zs.length), Option.map_some, Array.getElem?_toList, this, getD_at zs i (by omega)]
      · rw [List.getElem?_eq_none (by simp [hcs]; omega), List.getElem?_eq_none (by simp [hz]; omega)]

set_option maxHeartbeats 800000 in
theorem copyTolds (a : Option Addr) (len cap : Nat) (ts : List Tld) (w : World) (hr : IsTlds w a len cap ts) (hs : len ≤ 1048576) :
    Calls Tryz.prog 77 #[.slice a len cap, .func (.func 78) #[] #[]] w fun e w' => (∃ v, e = .returned v ∧ w'.ownsRow w.heap.size 61 2 v len (flatT ts)) ∧ Below w.heap.size w w' := by
  obtain ⟨hz, hm⟩ := IsRecs.len hr
  have HRW : Hid (IsTlds w a len cap ts) := hr
  clear hr
  by_cases h0 : len = 0
  · subst h0
    have hz0 : ts = [] := List.length_eq_zero_iff.1 hz
    subst hz0
    clear HRW hz
    go_enter Tryz.func77, Tryz.ntmps77
    go_wp2
    go_ret
    exact ⟨⟨_, rfl, World.ownsRow_nil _ _ _ _⟩, Below.refl _ _⟩
  have hd0 : ((len : Int) == 0) = false := by simp; omega
  have hmk := run_make_recs (P := Tryz.prog) 29 61 _ 2 16 Tryz.underlying29 info_PlanTold .i64 .i64 len (by omega) (by omega)
  go_enter Tryz.func77, Tryz.ntmps77
  go_wp2
  go_loopw [16] (fun i wr => ∃ k : Nat, k ≤ len ∧ i = .int .i64 k ∧ ∃ cur, Holds wr w.heap.size 61 cur ∧ cur.size = len * 2 ∧ TldsTo k cur ts ∧ Below w.heap.size w wr) (fun i _ => len - (intOf i).toNat)
  case atStart => exact ⟨0, Nat.zero_le _, rfl, _, heap_alloc_new _ _, size_madeCells _ _, fun i _ h => by omega, (Below.refl _ _).alloc (Nat.le_refl _) _⟩
  case round =>
    obtain ⟨k, hk, rfl, cur, hg, hcs, hc, hb⟩ := hrel
    by_cases hlt : k < len
    · obtain ⟨b, off, rfl, h1, hbl, c0, c1, _⟩ := IsTlds.at (IsTlds.below HRW.out hb) (i := k) (by omega)
      have HT : Hid (∀ W, Calls Tryz.prog 78 #[.agg #[.int .i64 ts[k].tk, .int .i64 ts[k].wh]] W fun e w' => e = .returned (.agg #[.int .i64 ts[k].tk, .int .i64 ts[k].wh]) ∧ Below W.heap.size W w') := fun W => asItIsTold ts[k].tk ts[k].wh W
      have hga := fun o => hg.below ((Below.refl wr.heap.size wr).alloc (Nat.le_refl _) o)
      have hba := fun o => hb.alloc hb.size o
      have HGA : Hid _ := hga
      have HBA : Hid _ := hba
      clear hga hba
      go_wp2_with fail
      refine (HT.out _).mono ?_
      rintro e w1 ⟨rfl, hw1⟩
      have HG1 := (HGA.out _).below hw1
      have HB1 : Hid _ := bcall (HBA.out _) (by have := hb.size; simp; omega) hw1
      have hf0 := HG1.frozen (k * 2)
      have hf1 := HG1.frozen (k * 2 + 1)
      have hd0 : w1.cell? ⟨w.heap.size, k * 2, none⟩ = some cur[k * 2] := by rw [HG1.cell]; simp
      have hd1 : w1.cell? ⟨w.heap.size, k * 2 + 1, none⟩ = some cur[k * 2 + 1] := by rw [HG1.cell]; simp
      have H2 : Hid _ := HG1.set2 (k * 2) (.int .i64 ts[k].tk) (.int .i64 ts[k].wh) (by omega)
      clear hw1
      go_wp2_with fail
      go_roundw
      case rel =>
        obtain ⟨cur', q, qs, qo, q0, q1⟩ := H2.out
        refine ⟨k + 1, by omega, by go_num, cur', q, by omega, fun i hi hik => ?_, (HB1.out.setCell (Nat.le_refl _) _).setCell (Nat.le_refl _) _⟩
        by_cases e : i = k
        · subst e
          exact ⟨q0, q1⟩
        · obtain ⟨d0, d1⟩ := hc i hi (by omega)
          exact ⟨by rw [qo _ (by omega)]; exact d0, by rw [qo _ (by omega)]; exact d1⟩
      case measure => simp [intOf]; omega
    · have hkl : k = len := by omega
      subst hkl
      go_wp2
      go_ret
      refine ⟨⟨_, rfl, ⟨by rw [flatT_len, hz], .inr ⟨w.heap.size, k, cur, rfl, Nat.le_refl _, hg, Nat.le_refl _, by unfold maxLen; omega, by omega, ?_⟩⟩⟩, hb⟩
      rw [List.take_of_length_le (by simp [hcs])]
      refine List.ext_getElem? fun n => ?_
      by_cases hn : n < ts.length * 2
      · obtain ⟨i, j, hj, rfl⟩ : ∃ i j, j < 2 ∧ n = i * 2 + j := ⟨n / 2, n % 2, Nat.mod_lt _ (by omega), by omega⟩
        have hi : i < ts.length := by omega
        rw [flatT_at _ i j hi hj, Array.getElem?_toList]
        obtain ⟨d0, d1⟩ := hc i hi (by omega)
        rcases (by omega : j = 0 ∨ j = 1) with rfl | rfl <;> first | exact d0 | exact d1
      · rw [List.getElem?_eq_none (by simp [hcs]; omega), List.getElem?_eq_none (by rw [flatT_len]; omega)]

theorem fiveOf {w : World} {N : Nat} {t : TypeId} {v0 v1 v2 v3 v4 : Value} (h : Holds w N t #[v0, v1, v2, v3, v4]) :
    w.cell? ⟨N, 0, none⟩ = some v0 ∧ w.cell? ⟨N, 1, none⟩ = some v1 ∧ w.cell? ⟨N, 2, none⟩ = some v2 ∧ w.cell? ⟨N, 3, none⟩ = some v3 ∧ w.cell? ⟨N, 4, none⟩ = some v4 ∧ ∀ i, w.frozen? ⟨N, i, none⟩ = false :=
  ⟨by rw [h.cell]; rfl, by rw [h.cell]; rfl, by rw [h.cell]; rfl, by rw [h.cell]; rfl, by rw [h.cell]; rfl, fun i => h.frozen i⟩
theorem boxes2_new (w : World) (tA tB : TypeId) (A B : Array Value) : Holds ((w.alloc (.cells A tA)).alloc (.cells B tB)) w.heap.size tA A ∧ Holds ((w.alloc (.cells A tA)).alloc (.cells B tB)) (w.heap.size + 1) tB B := by
  refine ⟨(show Holds (w.alloc (.cells A tA)) w.heap.size tA A from heap_alloc_new _ _).below ((Below.refl _ _).alloc (Nat.le_refl _) _), ?_⟩
  have h : Holds ((w.alloc (.cells A tA)).alloc (.cells B tB)) (w.alloc (.cells A tA)).heap.size tB B := heap_alloc_new _ _
  rw [World.size_alloc] at h
  exact h

set_option maxHeartbeats 800000 in
theorem copyRule (ev at_ fr to_ : Int) (a : Option Addr) (len cap : Nat) (zs : List Int) (w : World) (hr : IsRow .i64 w a len cap zs) (hs : len ≤ 1048576) :
    Calls Tryz.prog 74 #[.agg #[.int .i64 ev, .int .i64 at_, .int .i64 fr, .int .i64 to_, .slice a len cap]] w fun e w' => (∃ v, e = .returned (.agg #[.int .i64 ev, .int .i64 at_, .int .i64 fr, .int .i64 to_, v]) ∧ w'.ownsRow w.heap.size 3 1 v len (zs.map (Value.int .i64))) ∧ Below w.heap.size w w' := by
  have HT : Hid (∀ w, IsRow .i64 w a len cap zs → Calls Tryz.prog 75 #[.slice a len cap, .func (.func 76) #[] #[]] w fun e w' => (∃ v, e = .returned v ∧ w'.ownsRow w.heap.size 3 1 v len (zs.map (Value.int .i64))) ∧ Below w.heap.size w w') := fun w hr => copyInts a len cap zs w hr hs
  have HR : Hid (IsRow .i64 w a len cap zs) := hr
  clear hr hs
  go_enter Tryz.func74, Tryz.ntmps74
  go_wp2_with fail
  refine (HT.out _ (by exact (IsRow.alloc HR.out _).alloc _)).mono ?_
  rintro e w1 ⟨⟨v, rfl, hn⟩, hb⟩
  obtain ⟨a', c', rfl⟩ := own_form hn
  have hbx := boxes2_new w 73 73 #[.int .i64 ev, .int .i64 at_, .int .i64 fr, .int .i64 to_, .slice a len cap] #[.int .i64 0, .int .i64 0, .int .i64 0, .int .i64 0, .slice none 0 0]
  obtain ⟨a0, a1, a2, a3, a4, af⟩ := fiveOf (hbx.1.below hb)
  obtain ⟨b0, b1, b2, b3, b4, bf⟩ := fiveOf (hbx.2.below hb)
  have hlo : ∀ b, (Value.slice a' len c').ownBlock = some b → w.heap.size + 1 + 1 ≤ b := fun b h => by have := (World.ownsRow.lt hn b h).1; simpa using this
  have HLO : Hid _ := hlo
  have hn' : w1.ownsRow w.heap.size 3 1 (.slice a' len c') len (zs.map (Value.int .i64)) := Cal.own_base hn (by simp; omega)
  have HN : Hid _ := hn'
  have HB : Hid _ := bcall (((Below.refl w.heap.size w).alloc (Nat.le_refl _) _).alloc (by simp) _) (by simp; omega) hb
  clear hn hb hbx hlo hn'
  go_wp2_with fail
  refine bodyPost_ret (v := .agg #[.int .i64 ev, .int .i64 at_, .int .i64 fr, .int .i64 to_, .slice a' len c']) ?_ rfl ?_
  · simp [results, Tryz.results74, go_sem, b0, b1, b2, b3, b4]
  · have ne : ∀ k, k < w.heap.size + 1 + 1 → (Value.slice a' len c').ownBlock ≠ some k := fun k hk e => by have := HLO.out k e; omega
    refine ⟨⟨_, rfl, ?_⟩, ?_⟩
    · exact own_elseV (own_elseV (own_elseV (own_elseV (own_elseV (own_elseV HN.out (ne _ (by simp only; omega)) _) (ne _ (by simp only; omega)) _) (ne _ (by simp only; omega)) _) (ne _ (by simp only; omega)) _) (ne _ (by simp only; omega)) _) (ne _ (by simp only; omega)) _
    · exact (((((HB.out.setCell (by simp only; omega) _).setCell (by simp only; omega) _).setCell (by simp only; omega) _).setCell (by simp only; omega) _).setCell (by simp only; omega) _).setCell (by simp only; omega) _

/-- What was copied, up to k: the numbers of rule i are g i. -/
def RulsUpV (wr : World) (N k : Nat) (cur : Array Value) (rs : List Rul) (g : Nat → Value) : Prop :=
  (∀ i (h : i < rs.length), i < k → cur[i * 5]? = some (.int .i64 rs[i].ev) ∧ cur[i * 5 + 1]? = some (.int .i64 rs[i].at_) ∧ cur[i * 5 + 2]? = some (.int .i64 rs[i].fr) ∧ cur[i * 5 + 3]? = some (.int .i64 rs[i].to_) ∧ cur[i * 5 + 4]? = some (g i) ∧ wr.ownsRow N 3 1 (g i) rs[i].but.length (rs[i].but.map (Value.int .i64)) ∧ ∀ b, (g i).ownBlock = some b → N < b ∧ b < wr.heap.size) ∧
  ∀ i j, i < j → j < k → ∀ b c, (g i).ownBlock = some b → (g j).ownBlock = some c → b < c

set_option maxHeartbeats 1600000 in
theorem copyRules (a : Option Addr) (len cap : Nat) (rs : List Rul) (w : World) (hr : IsRuls w a len cap rs) (hs : len ≤ 1048576) (hsm : ∀ i (h : i < rs.length), rulSmall rs[i]) :
    Calls Tryz.prog 73 #[.slice a len cap, .func (.func 74) #[] #[]] w fun e w' => (∃ v vs, e = .returned v ∧ Cal.GathV w' w.heap.size v vs rs) ∧ Below w.heap.size w w' := by
  obtain ⟨hz, hm⟩ := IsRecs.len hr
  have HRW : Hid (IsRuls w a len cap rs) := hr
  clear hr
  by_cases h0 : len = 0
  · subst h0
    have hz0 : rs = [] := List.length_eq_zero_iff.1 hz
    subst hz0
    clear HRW hz
    go_enter Tryz.func73, Tryz.ntmps73
    go_wp2
    go_ret
    exact ⟨⟨_, [], rfl, rfl, World.ownsRow_nil _ _ _ _, fun i h => by simp at h, fun i j hi => by simp at hi⟩, Below.refl _ _⟩
  have hd0 : ((len : Int) == 0) = false := by simp; omega
  have hmk := run_make_recs (P := Tryz.prog) 28 73 _ 5 56 Tryz.underlying28 info_CalRule .i64 .i64 len (by omega) (by omega)
  go_enter Tryz.func73, Tryz.ntmps73
  go_wp2
  go_loopw [16] (fun i wr => ∃ k : Nat, k ≤ len ∧ i = .int .i64 k ∧ ∃ cur g, Holds wr w.heap.size 73 cur ∧ cur.size = len * 5 ∧ RulsUpV wr w.heap.size k cur rs g ∧ Below w.heap.size w wr) (fun i _ => len - (intOf i).toNat)
  case atStart => exact ⟨0, Nat.zero_le _, rfl, _, fun _ => .slice none 0 0, heap_alloc_new _ _, size_madeCells _ _, ⟨fun i _ h => by omega, fun i j _ h => by omega⟩, (Below.refl _ _).alloc (Nat.le_refl _) _⟩
  case round =>
    obtain ⟨k, hk, rfl, cur, f, hg, hcs, hc, hb⟩ := hrel
    have HC : Hid (RulsUpV wr w.heap.size k cur rs f) := hc
    clear hc
    by_cases hlt : k < len
    · obtain ⟨b, off, rfl, h1, hbl, a', l', c', c0, c1, c2, c3, c4, hrow, _⟩ := IsRuls.at (IsRuls.below HRW.out hb) (i := k) (by omega)
      have hl := hrow.len
      have HT : Hid (∀ o, Calls Tryz.prog 74 #[.agg #[.int .i64 rs[k].ev, .int .i64 rs[k].at_, .int .i64 rs[k].fr, .int .i64 rs[k].to_, .slice a' l' c']] (wr.alloc o) fun e w' => (∃ v, e = .returned (.agg #[.int .i64 rs[k].ev, .int .i64 rs[k].at_, .int .i64 rs[k].fr, .int .i64 rs[k].to_, v]) ∧ w'.ownsRow (wr.alloc o).heap.size 3 1 v l' (rs[k].but.map (Value.int .i64))) ∧ Below (wr.alloc o).heap.size (wr.alloc o) w') := fun o => copyRule rs[k].ev rs[k].at_ rs[k].fr rs[k].to_ a' l' c' rs[k].but (wr.alloc o) (hrow.alloc o) (by have := hsm k (by omega); unfold rulSmall at this; omega)
      have hga := fun o => hg.below ((Below.refl wr.heap.size wr).alloc (Nat.le_refl _) o)
      have hba := fun o => hb.alloc hb.size o
      have HGA : Hid _ := hga
      have HBA : Hid _ := hba
      have hgl := hg.lt
      clear hga hba
      go_wp2_with fail
      refine (HT.out _).mono ?_
      rintro e w1 ⟨⟨v2, rfl, hrow2⟩, hw1⟩
      obtain ⟨a2, k2, rfl⟩ := own_form hrow2
      have hlo := fun x hx => World.ownsRow.lt hrow2 x hx
      have HLO : Hid _ := hlo
      have hrow3 := Cal.own_base hrow2 (base' := w.heap.size) (by simp; omega)
      have HROW : Hid _ := hrow3
      have HG1 := (HGA.out _).below hw1
      have hbw : Below wr.heap.size wr w1 := bcall ((Below.refl wr.heap.size wr).alloc (Nat.le_refl _) _) (by simp) hw1
      have HBW : Hid _ := hbw
      have HB1 : Hid _ := bcall hb hb.size hbw
      clear hlo hrow2 hrow3 hbw hw1
      have hf0 := HG1.frozen (k * 5)
      have hf1 := HG1.frozen (k * 5 + 1)
      have hf2 := HG1.frozen (k * 5 + 2)
      have hf3 := HG1.frozen (k * 5 + 3)
      have hf4 := HG1.frozen (k * 5 + 4)
      have hd0 : w1.cell? ⟨w.heap.size, k * 5, none⟩ = some cur[k * 5] := by rw [HG1.cell]; simp
      have hd1 : w1.cell? ⟨w.heap.size, k * 5 + 1, none⟩ = some cur[k * 5 + 1] := by rw [HG1.cell]; simp
      have hd2 : w1.cell? ⟨w.heap.size, k * 5 + 2, none⟩ = some cur[k * 5 + 2] := by rw [HG1.cell]; simp
      have hd3 : w1.cell? ⟨w.heap.size, k * 5 + 3, none⟩ = some cur[k * 5 + 3] := by rw [HG1.cell]; simp
      have hd4 : w1.cell? ⟨w.heap.size, k * 5 + 4, none⟩ = some cur[k * 5 + 4] := by rw [HG1.cell]; simp
      have H5 : Hid _ := HG1.set5 (k * 5) (.int .i64 rs[k].ev) (.int .i64 rs[k].at_) (.int .i64 rs[k].fr) (.int .i64 rs[k].to_) (.slice a2 l' k2) (by omega)
      go_wp2_with fail
      go_roundw
      case rel =>
        obtain ⟨cur', q, qs, qo, q0, q1, q2, q3, q4⟩ := H5.out
        refine ⟨k + 1, by omega, by go_num, cur', fun i => if i = k then .slice a2 l' k2 else f i, q, by omega, ⟨fun i hi hik => ?_, fun i j hij hj => ?_⟩, below_set5 HB1.out (Nat.le_refl _) _ _ _ _ _ _⟩
        · by_cases e : i = k
          · subst e
            rw [hl.1]
            simp only [if_true]
            have ne : (Value.slice a2 l' k2).ownBlock ≠ some w.heap.size := fun e => by have := (HLO.out _ e).1; simp at this; omega
            refine ⟨q0, q1, q2, q3, q4, own_elseV (own_elseV (own_elseV (own_elseV (own_elseV HROW.out ne _) ne _) ne _) ne _) ne _, fun b hb => ?_⟩
            have h1 := HLO.out b hb
            simp at h1
            exact ⟨by omega, by simp; omega⟩
          · obtain ⟨d0, d1, d2, d3, d4, hrow3, hb3⟩ := HC.out.1 i hi (by omega)
            simp only [if_neg e]
            have ne : (f i).ownBlock ≠ some w.heap.size := fun e => by have := (hb3 _ e).1; omega
            refine ⟨?_, ?_, ?_, ?_, ?_, ?_, fun b hb => ?_⟩
            · rw [qo _ (by omega)]; exact d0
            · rw [qo _ (by omega)]; exact d1
            · rw [qo _ (by omega)]; exact d2
            · rw [qo _ (by omega)]; exact d3
            · rw [qo _ (by omega)]; exact d4
            · exact own_elseV (own_elseV (own_elseV (own_elseV (own_elseV (own_below hrow3 HBW.out) ne _) ne _) ne _) ne _) ne _
            · have h1 := hb3 b hb
              exact ⟨h1.1, by have := HBW.out.size; simp; omega⟩
        · intro b c hb hc
          by_cases e : j = k
          · subst e
            simp only [if_true, if_neg (show ¬ i = j by omega)] at hb hc
            have h1 := ((HC.out.1 i (by omega) hij).2.2.2.2.2.2 b hb).2
            have h2 := (HLO.out c hc).1
            simp at h2
            omega
          · simp only [if_neg e, if_neg (show ¬ i = k by omega)] at hb hc
            exact HC.out.2 i j hij (by omega) b c hb hc
      case measure => simp [intOf]; omega
    · have hkl : k = len := by omega
      subst hkl
      go_wp2
      go_ret
      refine ⟨⟨.slice (some ⟨w.heap.size, 0, none⟩) k k, List.ofFn fun i : Fin rs.length => f i, rfl, by simp, ?_, fun i hi => ?_, fun i j hi hj hij b c => ?_⟩, hb⟩
      · refine ⟨Cal.flatR_len _ _ (by simp), .inr ⟨w.heap.size, k, cur, by rw [hz], Nat.le_refl _, hg, by omega, by unfold maxLen; omega, by omega, ?_⟩⟩
        rw [List.take_of_length_le (by simp [hcs]; omega)]
        refine List.ext_getElem? fun n => ?_
        by_cases hn : n < rs.length * 5
        · obtain ⟨i, j, hj, rfl⟩ : ∃ i j, j < 5 ∧ n = i * 5 + j := ⟨n / 5, n % 5, Nat.mod_lt _ (by omega), by omega⟩
          have hi : i < rs.length := by omega
          rw [Cal.flatR_at _ _ i j (by simp) hi hj, List.getElem_ofFn, Array.getElem?_toList]
          obtain ⟨d0, d1, d2, d3, d4, _⟩ := HC.out.1 i hi (by omega)
          rcases (by omega : j = 0 ∨ j = 1 ∨ j = 2 ∨ j = 3 ∨ j = 4) with rfl | rfl | rfl | rfl | rfl <;> first | exact d0 | exact d1 | exact d2 | exact d3 | exact d4
        · rw [List.getElem?_eq_none (by simp [hcs]; omega), List.getElem?_eq_none (by rw [Cal.flatR_len _ _ (by simp)]; omega)]
      · rw [List.getElem_ofFn]
        obtain ⟨_, _, _, _, _, _, _, _, _, _, _, _, _, hrow, x1, x2, x3, x4⟩ := IsRuls.at HRW.out hi
        exact ⟨(HC.out.1 i hi (by omega)).2.2.2.2.2.1, x1, x2, x3, x4, hrow.wf⟩
      · simp only [List.getElem_ofFn]
        exact HC.out.2 i j hij (by simp at hj; omega) b c
end Pl
end Go.Proofs.YtghocdiddolinaaGreatDoor
