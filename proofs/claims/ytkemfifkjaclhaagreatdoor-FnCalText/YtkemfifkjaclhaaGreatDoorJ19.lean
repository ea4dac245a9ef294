/- The model's CalRead: what it answers. -/
import Derived.Test.YtkemfifkjaclhaaGreatDoorJ4
import Derived.Test.YtkemfifkjaclhaaGreatDoorJ17
import Derived.Test.YtkemfifkjaclhaaGreatDoorJ18
import Derived.Deep.AppendLies
namespace Go.Proofs.YtkemfifkjaclhaaGreatDoor
set_option linter.unusedVariables false
set_option linter.unusedSimpArgs false
open Go.RowKit Go
namespace Cal
/-- What is good in an entry. -/
def GoodR (e : Rul) : Prop := (Lit.int .i64 e.ev).wf = true ∧ (Lit.int .i64 e.at_).wf = true ∧ (Lit.int .i64 e.fr).wf = true ∧ (Lit.int .i64 e.to_).wf = true ∧ ∀ z ∈ e.but, (Lit.int .i64 z).wf = true
/-- The slice v gathers the entries es, in blocks from base on, no two rows in one. -/
def Gath (w : World) (base : Nat) (v : Value) (es : List Rul) : Prop :=
  ∃ vs : List Value, ∃ hv : vs.length = es.length, w.ownsRow base 50 5 v es.length (flatR es vs) ∧
    (∀ i (h : i < es.length), w.ownsRow base 3 1 (vs[i]'(by omega)) es[i].but.length (es[i].but.map (Value.int .i64)) ∧ GoodR es[i]) ∧
    ∀ i j (hi : i < vs.length) (hj : j < vs.length), i < j → ∀ b c, vs[i].ownBlock = some b → vs[j].ownBlock = some c → b < c
theorem Gath.nil (w : World) (base : Nat) : Gath w base (.slice none 0 0) [] := ⟨[], rfl, World.ownsRow_nil _ _ _ _, fun i h => by simp at h, fun i j hi => by simp at hi⟩

/-- What was laid as rows of entries or of numbers stands. -/
structure SameT (W W' : World) : Prop where
  size : W.heap.size ≤ W'.heap.size
  rows : ∀ (k : Nat) (c : Array Value) (fz : Nat × Nat), W.heap[k]? = some (.cells c 50 fz) → W'.heap[k]? = some (.cells c 50 fz)
  nums : ∀ (k : Nat) (c : Array Value) (fz : Nat × Nat), W.heap[k]? = some (.cells c 3 fz) → W'.heap[k]? = some (.cells c 3 fz)
theorem own_rows {w w' : World} {base : Nat} {e : TypeId} {size : Nat} {v : Value} {n : Nat} {xs : List Value} (h : w.ownsRow base e size v n xs) (hk : ∀ (k : Nat) (c : Array Value) (fz : Nat × Nat), w.heap[k]? = some (.cells c e fz) → w'.heap[k]? = some (.cells c e fz)) : w'.ownsRow base e size v n xs := by
  refine ⟨h.1, ?_⟩
  rcases h.2 with h | ⟨g, cap, cur, h1, h2, h3, h4⟩
  · exact .inl h
  · exact .inr ⟨g, cap, cur, h1, h2, hk _ _ _ h3, h4⟩
theorem Gath.same {w w' : World} {base : Nat} {v : Value} {es : List Rul} (h : Gath w base v es) (hs : SameT w w') : Gath w' base v es := by
  obtain ⟨vs, hv, h1, h2, h3⟩ := h
  exact ⟨vs, hv, own_rows h1 hs.rows, fun i hi => ⟨own_rows (h2 i hi).1 hs.nums, (h2 i hi).2⟩, h3⟩
theorem SameT.below {w w' : World} (h : Below w.heap.size w w') : SameT w w' :=
  ⟨h.size, fun k c fz hk => (h.block k (Array.getElem?_eq_some_iff.1 hk).1).trans hk, fun k c fz hk => (h.block k (Array.getElem?_eq_some_iff.1 hk).1).trans hk⟩
theorem SameT.grown {w w' : World} {row : Option Nat} (hg : w.grownBy w' row) (hr : ∀ r, row = some r → ∀ c fz, w.heap[r]? ≠ some (.cells c 50 fz) ∧ w.heap[r]? ≠ some (.cells c 3 fz)) : SameT w w' :=
  ⟨hg.size, fun k c fz hk => (hg.block k (Array.getElem?_eq_some_iff.1 hk).1 (fun e => (hr k e.symm c fz).1 hk)).trans hk, fun k c fz hk => (hg.block k (Array.getElem?_eq_some_iff.1 hk).1 (fun e => (hr k e.symm c fz).2 hk)).trans hk⟩


theorem gath_ruls {w : World} {base : Nat} {v : Value} {es : List Rul} (h : Gath w base v es) : ∃ a cap, v = .slice a es.length cap ∧ IsRuls w a es.length cap es := by
  obtain ⟨vs, hv, h1, h2, _⟩ := h
  have hrow : ∀ i (hi : i < es.length), ∃ a l c, vs[i]'(by omega) = .slice a l c ∧ IsRow .i64 w a l c es[i].but := fun i hi => by
    obtain ⟨h3, h4⟩ := h2 i hi
    have hr := Row.owned h3
    obtain ⟨a, c, hf⟩ := hr.form
    rw [List.length_map] at hf
    rw [hf] at hr
    exact ⟨a, _, c, hf, (isRow_of_row hr h4.2.2.2.2).1⟩
  rcases h1.2 with ⟨rfl, h0⟩ | ⟨g, cap, cur, rfl, hb, hg, hle, hmx, hsz, htk⟩
  · have : es = [] := List.length_eq_zero_iff.1 h0
    subst this
    exact ⟨none, 0, rfl, rfl, Nat.le_refl _, Nat.zero_le _, fun h => by simp at h⟩
  · refine ⟨_, cap, rfl, rfl, hle, hmx, fun _ => ⟨g, 0, rfl, (Array.getElem?_eq_some_iff.1 hg).1, fun i hi => ?_⟩⟩
    obtain ⟨a, l, c, hvi, hri⟩ := hrow i hi
    refine ⟨cellsR es[i] (vs[i]'(by omega)), rfl, fun j hj => ?_, a, l, c, by rw [hvi]; rfl, hri, (h2 i hi).2.1, (h2 i hi).2.2.1, (h2 i hi).2.2.2.1, (h2 i hi).2.2.2.2.1⟩
    · have hj5 : j < 5 := by simpa [cellsR] using hj
      have hf := flatR_at es vs i j hv hi hj5
      rw [List.getElem?_eq_getElem hj] at hf
      rw [cell_of_row _ _ _ _ _ _ hg, Nat.zero_add]
      rw [← htk, List.getElem?_take] at hf
      split at hf
      · simpa using hf
      · cases hf
end Cal
end Go.Proofs.YtkemfifkjaclhaaGreatDoor

namespace Go.Proofs.YtkemfifkjaclhaaGreatDoor
set_option linter.unusedVariables false
set_option linter.unusedSimpArgs false
open Go.RowKit Go
namespace Cal

/-- What is asked of the model's reading. -/
def SpecCal (s : ByteArray) (w : World) (e : Ending) (w' : World) : Prop :=
  ∃ (a : Option Addr) (l c : Nat) (ok : Bool) (rs : List Rul), e = .returned (.tuple #[.slice a l c, .bool ok]) ∧ Below w.heap.size w w' ∧ IsRuls w' a l c rs ∧ (ok = true → IsCal s rs) ∧ (ok = false → rs = [] ∧ ∀ L, ¬ IsCal s L)
/-- What is asked of the program's reading: what it gives out is its own. -/
def ReadsCal (s : ByteArray) (w : World) (e : Ending) (w' : World) : Prop :=
  ∃ (v : Value) (ok : Bool), e = .returned (.tuple #[v, .bool ok]) ∧ Below w.heap.size w w' ∧ (ok = true → ∃ rs, IsCal s rs ∧ Gath w' w.heap.size v rs) ∧ (ok = false → Gath w' w.heap.size v [] ∧ ∀ L, ¬ IsCal s L)
/-- What a text reads as. -/
def Fact (s : ByteArray) (ok : Bool) (es : List Rul) : Prop := (ok = true → IsCal s es) ∧ (ok = false → es = [] ∧ ∀ L, ¬ IsCal s L)
theorem reads_fact {s : ByteArray} {w w' : World} {e : Ending} {ok : Bool} {es : List Rul} (h : ReadsCal s w e w') (hf : Fact s ok es) : ∃ v, e = .returned (.tuple #[v, .bool ok]) ∧ Gath w' w.heap.size v es ∧ Below w.heap.size w w' := by
  obtain ⟨v, ok2, rfl, hb, h1, h2⟩ := h
  cases ok2 with
  | true =>
    obtain ⟨rs, ht, hg⟩ := h1 rfl
    cases ok with
    | true => rw [(hf.1 rfl).one ht]; exact ⟨v, rfl, hg, hb⟩
    | false => exact absurd ht ((hf.2 rfl).2 _)
  | false =>
    obtain ⟨hg, hno⟩ := h2 rfl
    cases ok with
    | true => exact absurd (hf.1 rfl) (hno _)
    | false => rw [(hf.2 rfl).1]; exact ⟨_, rfl, hg, hb⟩
end Cal
end Go.Proofs.YtkemfifkjaclhaaGreatDoor

namespace Go.Proofs.YtkemfifkjaclhaaGreatDoor
set_option linter.unusedVariables false
set_option linter.unusedSimpArgs false
open Go.RowKit Go
namespace Cal

def eZ : ByteArray := ⟨#[]⟩
theorem ruls_nil (w : World) (a : Option Addr) : IsRuls w a 0 0 [] := ⟨rfl, Nat.le_refl _, Nat.zero_le _, fun h => by simp at h⟩
theorem inj2 {a b : ByteArray} (h : a.data.toList = b.data.toList) : a = b := by cases a; exact ByteArray.ext (Array.toList_inj.1 h)
theorem bys_inj : ∀ {a b : List ByteArray}, bys a = bys b → a = b := by
  intro a
  induction a with
  | nil => intro b h; cases b with
    | nil => rfl
    | cons => simp [bys] at h
  | cons x a ih => intro b h; cases b with
    | nil => simp [bys] at h
    | cons y b =>
      simp only [bys, List.map_cons, List.cons.injEq] at h
      rw [inj2 h.1, ih (b := b) h.2]
theorem cal_last {s : ByteArray} {ps : List ByteArray} {L : List Rul} (hp : bys ps = cutL 10 s.data.toList) (h : IsCal s L) : ps = L.map rulT ++ [eZ] := by
  have h1 : bys ps = (L.map fun r => (rulT r).data.toList) ++ [[]] := hp.trans (by rw [← h.2.1]; exact cal_lines (cal_all h.1))
  refine bys_inj (h1.trans ?_)
  rw [bys_app]
  simp [bys, eZ]
theorem rul_inj {a b : Rul} (ha : RuleOk a) (hb : RuleOk b) (h : rulT a = rulT b) : a = b := by
  have key : ∀ r, RuleOk r → ruleW (cutL 32 (rulT r).data.toList) = r := fun r hr => by rw [cut_rul hr]; exact (own_form hr).2
  rw [← key a ha, h, key b hb]
theorem ruls_inj : ∀ {a b : List Rul}, (∀ r ∈ a, RuleOk r) → (∀ r ∈ b, RuleOk r) → a.map rulT = b.map rulT → a = b := by
  intro a
  induction a with
  | nil => intro b _ _ h; cases b with
    | nil => rfl
    | cons => simp at h
  | cons x a ih => intro b ha hb h; cases b with
    | nil => simp at h
    | cons y b =>
      simp only [List.map_cons, List.cons.injEq] at h
      rw [rul_inj (ha x (by simp)) (hb y (by simp)) h.1, ih (b := b) (fun r hr => ha r (List.mem_cons_of_mem _ hr)) (fun r hr => hb r (List.mem_cons_of_mem _ hr)) h.2]
theorem cal_of {s : ByteArray} {ps : List ByteArray} {es : List Rul} (hp : bys ps = cutL 10 s.data.toList) (h : ps = es.map rulT ++ [eZ]) (hok : calOk es = true) (hs : s.size ≤ 800) : IsCal s es := by
  refine ⟨hok, lines_cal (hp.symm.trans ?_), hs⟩
  subst h; rw [bys_app]; simp [bys, eZ]
theorem news5 {W : World} {o : Obj} {v0 v1 v2 v3 v4 : Value} {t : TypeId} : ∀ j u, [v0, v1, v2, v3, v4][j]? = some u → ((W.alloc o).alloc (.cells #[v0, v1, v2, v3, v4] t)).cell? ((⟨W.heap.size + 1, 0, none⟩ : Addr).add j) = some u := by
  have hb := heap_alloc_new (W.alloc o) (.cells #[v0, v1, v2, v3, v4] t)
  rw [World.size_alloc] at hb
  exact World.news_of_block hb

set_option maxRecDepth 4000 in
set_option maxHeartbeats 4000000 in
theorem specCalRead (s : ByteArray) (w : World) (hs : s.size ≤ 16777216) :
    Calls Tryz.prog 6 #[.string s] w fun e w' => SpecCal s w e w' := by
  have HC : Hid (∀ w, Calls Tryz.prog 20 #[.string s, .int .u8 10] w fun e w' => ∃ v ps, e = .returned v ∧ bys ps = cutL 10 s.data.toList ∧ Row w' v (sv ps) ∧ Below w.heap.size w w') := fun w => l41Cut s 10 w hs
  have HLL : Hid (∀ (x : ByteArray) (w : World), x.size ≤ 16777216 → Calls Tryz.prog 21 #[.string x] w fun e w' => RulePost x w e w') := fun x w h => l41Rule x w h
  have HCO : Hid (∀ a len cap rs w, IsRuls w a len cap rs → Calls Tryz.prog 11 #[.slice a len cap] w fun e w' => e = .returned (.bool (calOk rs)) ∧ Below w.heap.size w w') := fun a len cap rs w h => specCalOk a len cap rs w h
  go_enter Tryz.func6, Tryz.ntmps6
  go_wp2_with fail
  refine (HC.out _).mono ?_
  rintro e w1 ⟨v, ps, rfl, hps, hrow, hw1⟩
  have hne : 0 < ps.length := by
    cases ps with
    | nil => exact absurd hps.symm (cutL_ne _ _)
    | cons => simp
  have hlen := sv_len ps
  have hmx := hrow.max
  obtain ⟨a, cap, rfl⟩ := hrow.form
  rw [hlen] at hrow hmx
  obtain ⟨b, off, rfl, hcap, hbl, _⟩ := hrow.at (k := 0) (by simpa [sv] using hne)
  rw [hlen]
  have HCELL : Hid (∀ k (h : k < ps.length), w1.cell? ⟨b, off + k, none⟩ = some (.string ps[k])) := fun k h => by
    obtain ⟨b', off', e', _, _, hc'⟩ := hrow.at (k := k) (by simpa [sv] using h)
    simp only [Option.some.injEq, Addr.mk.injEq, and_true] at e'
    obtain ⟨rfl, rfl⟩ := e'
    rw [hc', sv_at]
  have HPS : Hid (bys ps = cutL 10 s.data.toList) := hps
  have HSZ : Hid (∀ k (h : k < ps.length), ps[k].size ≤ 16777216) := fun k hk => by
    have hm : (ps[k]).data.toList ∈ cutL 10 s.data.toList := by rw [← hps]; exact List.mem_map.2 ⟨_, List.getElem_mem hk, rfl⟩
    have := cutL_len' 10 _ _ hm
    simp at this
    have h2 : ps[k].size ≤ s.size := this
    omega
  have hpl : ps.length ≤ 16777217 := words_many hps hs
  have HBW1 : Hid (Below w.heap.size w w1) := hw1
  clear hrow hps hlen hw1
  obtain ⟨n, hn⟩ : ∃ n, ps.length = n + 1 := ⟨ps.length - 1, by omega⟩
  have hc0 := HCELL.out n (by omega)
  rw [hn]
  have hn1 : ((n + 1 : Nat) : Int) - 1 = n := by omega
  by_cases hbig : 800 < s.size
  · have hd : decide ((800 : Int) < (s.size : Int)) = true := decide_eq_true (by omega)
    go_wp2_with fail
    refine bodyPost_ret (v := .tuple #[.slice (some ⟨w1.heap.size, 0, none⟩) 0 0, .bool false]) ?_ rfl ?_
    · simp [results, Tryz.results6, go_sem]
    · exact ⟨_, _, _, false, [], rfl, HBW1.out.alloc HBW1.out.size _, ruls_nil _ _, (fun h => by cases h), fun _ => ⟨rfl, fun L h => by have := h.2.2; omega⟩⟩
  have hd : decide ((800 : Int) < (s.size : Int)) = false := decide_eq_false (by omega)
  by_cases hl : ps[n].toList = []
  case neg =>
    have hl2 : (ps[n].toList == []) = false := by simpa using hl
    have HNO : Hid (∀ L, ¬ IsCal s L) := fun L h => hl (by
      have h1 := cal_last HPS.out h
      have h2 : n = L.length := by have := congrArg List.length h1; simp at this; omega
      subst h2
      have h3 : ps[L.length]? = some eZ := by rw [h1]; simp
      rw [List.getElem?_eq_getElem (by omega)] at h3
      rw [Option.some.inj h3]; rw [ByteArray.toList_eq]; rfl)
    go_wp2_with fail
    refine bodyPost_ret (v := .tuple #[.slice (some ⟨w1.heap.size, 0, none⟩) 0 0, .bool false]) ?_ rfl ?_
    · simp [results, Tryz.results6, go_sem]
    · exact ⟨_, _, _, false, [], rfl, HBW1.out.alloc HBW1.out.size _, ruls_nil _ _, (fun h => by cases h), fun _ => ⟨rfl, HNO.out⟩⟩
  have hl2 : (ps[n].toList == []) = true := by simp [hl]
  have HL0 : Hid (ps[n] = eZ) := inj2 (by rw [← ByteArray.toList_eq, hl]; rfl)
  go_wp2_with fail
  go_loopw [6, 7] (fun x i wr => ∃ (es : List Rul) (av : Option Addr) (cv : Nat), x = .slice av es.length cv ∧ i = .int .i64 (es.length : Nat) ∧ es.length ≤ n ∧ GathM wr w1.heap.size (.slice av es.length cv) es ∧ es.map rulT = ps.take es.length ∧ (∀ e ∈ es, RuleOk e) ∧ Below w1.heap.size w1 wr) (fun _ i _ => n - (intOf i).toNat)
  case atStart =>
    exact ⟨[], _, _, rfl, rfl, Nat.zero_le _, ⟨[], rfl, Acc.empty _ _ _ (by simp), fun i h => by simp at h⟩, rfl, (fun e he => by cases he), (Below.refl _ _).alloc (Nat.le_refl _) _⟩
  case round =>
    obtain ⟨es, av, cv, rfl, rfl, hle, hG, hE, hok, hB⟩ := hrel
    have HB : Hid (Below w1.heap.size w1 wr) := hB
    have HG : Hid _ := hG
    have HE : Hid (es.map rulT = ps.take es.length) := hE
    have HOK : Hid (∀ e ∈ es, RuleOk e) := hok
    clear hB hG hE hok
    by_cases hlt : es.length < n
    · have hc := (HB.out.cell (p := ⟨b, off + es.length, none⟩) hbl).trans (HCELL.out es.length (by omega))
      go_wp2_with fail
      refine (HLL.out _ _ (HSZ.out es.length (by omega))).mono ?_
      rintro e w2 ⟨ev, at_, fr, to_, a, l, c, ok, rfl, hw2, hyes, hno⟩
      cases ok with
      | false =>
        have HNO : Hid _ := hno rfl
        clear hno hyes
        have HB2 : Hid (Below w.heap.size w w2) := HBW1.out.trans ((bcall HB.out HB.out.size hw2).mono HBW1.out.size)
        clear hw2
        have HNN : Hid (∀ L, ¬ IsCal s L) := fun L h => by
          have h1 := cal_last HPS.out h
          have h2 : n = L.length := by have := congrArg List.length h1; simp at this; omega
          have h3 : ps[es.length]? = some (rulT (L[es.length]'(by omega))) := by rw [h1, List.getElem?_append_left (by simp; omega), List.getElem?_map, List.getElem?_eq_getElem (by omega)]; rfl
          rw [List.getElem?_eq_getElem (by omega)] at h3
          exact HNO.out _ (cal_all h.1 _ (List.getElem_mem (by omega : es.length < L.length))) (Option.some.inj h3).symm
        go_wp2_with fail
        refine bodyPost_ret (v := .tuple #[.slice (some ⟨w2.heap.size + 1, 0, none⟩) 0 0, .bool false]) ?_ rfl ?_
        · simp [results, Tryz.results6, go_sem]
        · exact ⟨_, _, _, false, [], rfl, (HB2.out.alloc HB2.out.size _).alloc (by have := HB2.out.size; simp; omega) _, ruls_nil _ _, (fun h => by cases h), fun _ => ⟨rfl, HNN.out⟩⟩
      | true =>
        obtain ⟨r, hrul, hrok, hrt, hfar⟩ := hyes rfl
        clear hyes hno
        obtain ⟨a', l', c', hx, hr, hz⟩ := hrul
        simp only [List.cons.injEq, Value.int.injEq, Value.slice.injEq, and_true, true_and] at hx
        obtain ⟨rfl, rfl, rfl, rfl, rfl, rfl, rfl⟩ := hx
        have HENT : Hid (RulIs w2 (cellsR r (.slice a l c)) r) := ⟨a, l, c, rfl, hr, hz⟩
        have HB2 : Hid (Below w1.heap.size w1 w2) := bcall HB.out HB.out.size hw2
        have HG2 : Hid (GathM w2 w1.heap.size (.slice av es.length cv) es) := GathM.below HG.out hw2
        have HFAR : Hid (0 < l → ∀ b off, a = some ⟨b, off, none⟩ → (Value.slice av es.length cv).ownBlock ≠ some b) := fun hl b off e h => by
          obtain ⟨vs, hv, h1, _⟩ := HG.out
          have := acc_own h1 h
          have := hfar hl b off e
          omega
        have HR : Hid (RuleOk r ∧ rulT r = ps[es.length]) := ⟨hrok, hrt⟩
        clear hr hz hw2 hfar hrok hrt
        obtain ⟨vs, hv, hA, hall⟩ := GathM.below (GathM.below HG2.out ((Below.refl _ _).alloc (Nat.le_refl _) (.cells #[.int .i64 r.ev, .int .i64 r.at_, .int .i64 r.fr, .int .i64 r.to_, .slice a l c] 50))) ((Below.refl _ _).alloc (Nat.le_refl _) (.cells #[.int .i64 r.ev, .int .i64 r.at_, .int .i64 r.fr, .int .i64 r.to_, .slice a l c] 50))
        have HALL : Hid _ := hall
        have HA : Hid _ := hA
        clear hall hA
        go_wp2_with (at_builtin; refine wp_acc_at rfl _ _ 24 rfl w1.heap.size 50 _ 5 56 Tryz.underlying24 info_CalRule rfl (by decide) (.slice av es.length cv) es.length (flatR es vs) rfl HA.out ⟨w2.heap.size + 1, 0, none⟩ 1 1 [.int .i64 r.ev, .int .i64 r.at_, .int .i64 r.fr, .int .i64 r.to_, .slice a l c] rfl (by decide) rfl news5 (by simp [Value.oneCell']) (by unfold maxLen; omega) (by omega) (by have := HB2.out.size; simp; omega) ?_; intro v' w3 hA3 hB3 hk3 ho3; have HK3 : Hid _ := hk3; have HA3 : Hid _ := hA3; have HB3 : Hid _ := hB3; have HO3 : Hid _ := ho3; clear hk3 hA3 hB3 ho3)
        have hent2 : RulIs ((w2.alloc (.cells #[.int .i64 r.ev, .int .i64 r.at_, .int .i64 r.fr, .int .i64 r.to_, .slice a l c] 50)).alloc (.cells #[.int .i64 r.ev, .int .i64 r.at_, .int .i64 r.fr, .int .i64 r.to_, .slice a l c] 50)) (cellsR r (.slice a l c)) r := RulIs.lasts _ _ _ _ ((Below.refl _ _).alloc (Nat.le_refl _) _) (RulIs.lasts _ _ _ _ ((Below.refl _ _).alloc (Nat.le_refl _) _) HENT.out)
        have hG3 := gathM_push hv HALL.out hent2 HFAR.out HA3.out HB3.out.size HK3.out HO3.out
        obtain ⟨av3, cv3, rfl, _⟩ := gathM_ruls hG3
        go_roundw
        case rel =>
          refine ⟨es ++ [r], av3, cv3, rfl, by simp, by simp; omega, hG3, ?_, ?_, ?_⟩
          · rw [List.map_append, HE.out, List.length_append, List.length_singleton, List.take_succ_eq_append_getElem (by omega : es.length < ps.length), List.map_singleton, HR.out.2]
          · intro x hx
            rcases List.mem_append.1 hx with hx | hx
            · exact HOK.out x hx
            · simp only [List.mem_singleton] at hx; subst hx; exact HR.out.1
          · exact ((HB2.out.alloc HB2.out.size _).alloc (by have := HB2.out.size; simp; omega) _).trans HB3.out
        case measure => simp [intOf]; omega
    · have hqe : es.length = n := by omega
      have HBW : Hid (Below w.heap.size w wr) := HBW1.out.trans (HB.out.mono HBW1.out.size)
      obtain ⟨a2, c2, hf, hruls⟩ := gathM_ruls HG.out
      simp only [Value.slice.injEq, true_and] at hf
      obtain ⟨rfl, rfl⟩ := hf
      have HRU : Hid _ := hruls
      clear hruls
      have HPE : Hid (ps = es.map rulT ++ [eZ]) := by
        show ps = _
        rw [HE.out, hqe, ← HL0.out, ← List.take_succ_eq_append_getElem (by omega : n < ps.length), ← hn, List.take_length]
      clear hqe
      have hqn : ¬ ((es.length : Int) < (n : Int)) := by omega
      go_wp2_with fail
      refine (HCO.out _ _ _ es _ HRU.out).mono ?_
      rintro e w2 ⟨rfl, hw2⟩
      have HB2 : Hid (Below w.heap.size w w2) := bcall HBW.out HBW.out.size hw2
      have HR2 : Hid (IsRuls w2 av es.length cv es) := IsRuls.below HRU.out hw2
      clear hw2
      by_cases hco : calOk es = true
      · have HCK : Hid _ := hco
        rw [hco]
        clear hco
        go_wp2_with fail
        refine bodyPost_ret (v := .tuple #[.slice av es.length cv, .bool true]) ?_ rfl ?_
        · simp [results, Tryz.results6, go_sem]
        · exact ⟨_, _, _, true, es, rfl, HB2.out, HR2.out, fun _ => cal_of HPS.out HPE.out HCK.out (by omega), (fun h => by cases h)⟩
      · have hco : calOk es = false := by simpa using hco
        have HNN : Hid (∀ L, ¬ IsCal s L) := fun L h => by
          have h1 := cal_last HPS.out h
          rw [HPE.out] at h1
          have h2 := ruls_inj HOK.out (cal_all h.1) (List.append_cancel_right h1)
          rw [h2, h.1] at hco
          cases hco
        rw [hco]
        clear hco
        go_wp2_with fail
        refine bodyPost_ret (v := .tuple #[.slice (some ⟨w2.heap.size, 0, none⟩) 0 0, .bool false]) ?_ rfl ?_
        · simp [results, Tryz.results6, go_sem]
        · exact ⟨_, _, _, false, [], rfl, HB2.out.alloc HB2.out.size _, ruls_nil _ _, (fun h => by cases h), fun _ => ⟨rfl, HNN.out⟩⟩
end Cal
end Go.Proofs.YtkemfifkjaclhaaGreatDoor
