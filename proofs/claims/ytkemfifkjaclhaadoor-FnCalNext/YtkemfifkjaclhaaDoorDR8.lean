/- The reader of drawn inputs: any rules; rules and ticks. -/
import Derived.Test.YtkemfifkjaclhaaDoorDR7
namespace Go.Proofs.YtkemfifkjaclhaaDoor
set_option linter.unusedVariables false
set_option linter.unusedSimpArgs false
open Go.RowKit Go
namespace Dr

/-- Drawn rules, as they are read afterwards. -/
def AnyPosted (R F : Nat) (a : Option Addr) (len cap : Nat) (bs : List Int) (p : Int) (w : World) (e : Ending) (w' : World) : Prop :=
  ∃ (rs : List Rul) (v : Value) (p' : Int), e = .returned v ∧ GathD w' R F v rs ∧ rs.length ≤ 6 ∧ Rd w' R a len cap bs p' ∧ p ≤ p' ∧ p' ≤ p + 120 ∧ Keeps R w w'
theorem acc_base {w : World} {F F' : Nat} {e : TypeId} {size : Nat} {v : Value} {n : Nat} {xs : List Value} (h : Acc w F e size v n xs) (hF : F' ≤ F) : Acc w F' e size v n xs := by
  rcases h with h | ⟨h1, h2⟩
  · exact .inl h
  · refine .inr ⟨h1, ?_⟩
    rcases h2 with h2 | ⟨g, cap, cur, e, h3, h4⟩
    · exact .inl h2
    · exact .inr ⟨g, cap, cur, e, Nat.le_trans hF h3, h4⟩
theorem GathD.base {w : World} {R F F' : Nat} {v : Value} {es : List Rul} (h : GathD w R F v es) (hF : F' ≤ F) : GathD w R F' v es := by
  obtain ⟨vs, hv, h1, h2⟩ := h
  exact ⟨vs, hv, acc_base h1 hF, h2⟩

set_option maxRecDepth 4000 in
theorem l43Any (R : Nat) (a : Option Addr) (len cap : Nat) (bs : List Int) (p : Int) (w : World) (h : Rd w R a len cap bs p) (hp : p ≤ 999999000) :
    Calls Tryd.prog 17 #[.pointer (some ⟨R, 0, none⟩)] w fun e w' => AnyPosted R w.heap.size a len cap bs p w e w' := by
  have HQ : Hid (Calls Tryd.prog 30 #[.pointer (some ⟨R, 0, none⟩)] w fun e w' => RulesPosted R a len cap bs p w e w') := l43Rules R a len cap bs p w h (by omega)
  have hlt := h.lt
  go_enter Tryd.func17, Tryd.ntmps17
  go_wp2_with fail
  refine Calls.mono HQ.out ?_
  rintro e w1 ⟨rs, v, p1, rfl, hD, hsm, hn1, hn3, hr1, hp1, hp2, hk1⟩
  have D1 : Hid (GathD w1 R w.heap.size v rs) := hD
  have R1 : Hid _ := hr1
  have K1 : Hid (Keeps R w w1) := hk1
  have SM : Hid (∀ r ∈ rs, SmallR r) := hsm
  have HP : Hid (Calls Tryd.prog 25 #[.pointer (some ⟨R, 0, none⟩), .int .i64 20] w1 fun e w' => (∃ v : Int, e = .returned (.int .i64 v) ∧ Picked 20 v) ∧ Rd w' R a len cap bs (p1 + 1) ∧ Keeps R w1 w') := pick R a len cap bs p1 20 w1 hr1 (by omega) (by omega)
  obtain ⟨av, cv, rfl, _⟩ := Cal.gathM_ruls hD.gath
  clear hD hr1 hk1 hsm HQ h
  go_wp2_with fail
  refine Calls.mono HP.out ?_
  rintro e w2 ⟨⟨x, rfl, hx1, hx2, _⟩, hr2, hk2⟩
  have D2 : Hid (GathD w2 R w.heap.size (.slice av rs.length cv) rs) := GathD.keeps D1.out hk2 hlt
  have R2 : Hid _ := hr2
  have K2 : Hid (Keeps R w w2) := K1.out.trans hk2
  obtain ⟨av', cv', hf, hru⟩ := Cal.gathM_ruls D2.out.gath
  simp only [Value.slice.injEq, true_and] at hf
  obtain ⟨rfl, rfl⟩ := hf
  have HS : Hid (Calls Tryd.prog 31 #[.pointer (some ⟨R, 0, none⟩), .slice av rs.length cv] w2 fun e w' => Spoilt R a len cap bs (p1 + 1) w2 e w') := l43Spoil R a len cap bs (p1 + 1) av rs.length cv rs w2 hr2 (by omega) hru hn1 hn3 SM.out
  clear hr2 hk2 hru HP
  by_cases h0 : x = 0
  · subst h0
    go_wp2_with fail
    refine Calls.mono HS.out ?_
    rintro e w3 ⟨rs3, v3, p3, rfl, hD3, hn, hr3, hq1, hq2, hk3⟩
    have HF : Hid _ := And.intro hD3 (And.intro hr3 hk3)
    clear hD3 hr3 hk3
    have hs2 := K2.out.size
    go_wp2_with fail
    go_ret
    exact ⟨rs3, v3, p3, rfl, GathD.base HF.out.1 hs2, hn, HF.out.2.1, by omega, by omega, K2.out.trans HF.out.2.2⟩
  · go_wp2_with fail
    go_ret
    exact ⟨rs, _, p1 + 1, rfl, D2.out, by omega, R2.out, by omega, by omega, K2.out⟩

/-- What a drawing of rules and a tick answers. -/
def Drawn (w : World) (e : Ending) (w' : World) : Prop :=
  ∃ (rs : List Rul) (a : Option Addr) (c : Nat) (t : Int), e = .returned (.tuple #[.slice a rs.length c, .int .i64 t]) ∧ IsRuls w' a rs.length c rs ∧ rs.length ≤ 6 ∧ -1099511627776 ≤ t ∧ t ≤ 1099511627776 ∧ Below w.heap.size w w'
theorem keeps_below {R : Nat} {w w1 w2 : World} (h : Below w.heap.size w w1) (hk : Keeps R w1 w2) (hR : w.heap.size ≤ R) : Below w.heap.size w w2 := h.trans (hk.below hR h.size)
set_option maxRecDepth 4000 in
theorem dDrawCalDue (a : Option Addr) (len cap : Nat) (bs : List Int) (w : World) (h : IsRow .u8 w a len cap bs) :
    Calls Tryd.prog 13 #[.slice a len cap] w fun e w' => Drawn w e w' := by
  have HO : Hid (Calls Tryd.prog 16 #[.slice a len cap] w fun e w' => e = .returned (.pointer (some ⟨w.heap.size, 0, none⟩)) ∧ (∃ len' bs', Rd w' w.heap.size a len' cap bs' 0) ∧ Below w.heap.size w w') := l1Open a len cap bs w h
  clear h
  go_enter Tryd.func13, Tryd.ntmps13
  go_wp2_with fail
  refine Calls.mono HO.out ?_
  rintro e w1 ⟨rfl, ⟨len', bs', hr1⟩, hb1⟩
  have HA : Hid (Calls Tryd.prog 17 #[.pointer (some ⟨w.heap.size, 0, none⟩)] w1 fun e w' => AnyPosted w.heap.size w1.heap.size a len' cap bs' 0 w1 e w') := l43Any w.heap.size a len' cap bs' 0 w1 hr1 (by omega)
  have hlt := hr1.lt
  have B1 : Hid (Below w.heap.size w w1) := hb1
  clear hr1 hb1 HO
  go_wp2_with fail
  refine Calls.mono HA.out ?_
  rintro e w2 ⟨rs, v, p2, rfl, hD, hn, hr2, hq1, hq2, hk2⟩
  have D2 : Hid _ := hD
  have HT : Hid (Calls Tryd.prog 18 #[.pointer (some ⟨w.heap.size, 0, none⟩)] w2 fun e w' => (∃ t : Int, e = .returned (.int .i64 t) ∧ -1099511627776 ≤ t ∧ t ≤ 1099511627776) ∧ Rd w' w.heap.size a len' cap bs' (p2 + 4) ∧ Keeps w.heap.size w2 w') := l43Tick w.heap.size a len' cap bs' p2 w2 hr2 (by omega)
  have B2 : Hid (Below w.heap.size w w2) := keeps_below B1.out hk2 (Nat.le_refl _)
  obtain ⟨av, cv, rfl, _⟩ := Cal.gathM_ruls hD.gath
  clear hD hr2 hk2 HA
  go_wp2_with fail
  refine Calls.mono HT.out ?_
  rintro e w3 ⟨⟨t, rfl, ht1, ht2⟩, hr3, hk3⟩
  obtain ⟨av', cv', hf, hru⟩ := Cal.gathM_ruls (GathD.keeps D2.out hk3 hlt).gath
  simp only [Value.slice.injEq, true_and] at hf
  obtain ⟨rfl, rfl⟩ := hf
  have HF : Hid _ := And.intro hru (keeps_below B2.out hk3 (Nat.le_refl _))
  clear hru hr3 hk3 HT
  go_wp2_with fail
  refine bodyPost_ret (v := .tuple #[.slice av rs.length cv, .int .i64 t]) ?_ rfl ?_
  · simp [results, Tryd.results13, go_sem]
  · exact ⟨rs, av, cv, t, rfl, HF.out.1, hn, ht1, ht2, HF.out.2⟩
set_option maxRecDepth 4000 in
theorem dDrawCalNext (a : Option Addr) (len cap : Nat) (bs : List Int) (w : World) (h : IsRow .u8 w a len cap bs) :
    Calls Tryd.prog 5 #[.slice a len cap] w fun e w' => Drawn w e w' := by
  have HO : Hid (Calls Tryd.prog 16 #[.slice a len cap] w fun e w' => e = .returned (.pointer (some ⟨w.heap.size, 0, none⟩)) ∧ (∃ len' bs', Rd w' w.heap.size a len' cap bs' 0) ∧ Below w.heap.size w w') := l1Open a len cap bs w h
  clear h
  go_enter Tryd.func5, Tryd.ntmps5
  go_wp2_with fail
  refine Calls.mono HO.out ?_
  rintro e w1 ⟨rfl, ⟨len', bs', hr1⟩, hb1⟩
  have HA : Hid (Calls Tryd.prog 17 #[.pointer (some ⟨w.heap.size, 0, none⟩)] w1 fun e w' => AnyPosted w.heap.size w1.heap.size a len' cap bs' 0 w1 e w') := l43Any w.heap.size a len' cap bs' 0 w1 hr1 (by omega)
  have hlt := hr1.lt
  have B1 : Hid (Below w.heap.size w w1) := hb1
  clear hr1 hb1 HO
  go_wp2_with fail
  refine Calls.mono HA.out ?_
  rintro e w2 ⟨rs, v, p2, rfl, hD, hn, hr2, hq1, hq2, hk2⟩
  have D2 : Hid _ := hD
  have HT : Hid (Calls Tryd.prog 18 #[.pointer (some ⟨w.heap.size, 0, none⟩)] w2 fun e w' => (∃ t : Int, e = .returned (.int .i64 t) ∧ -1099511627776 ≤ t ∧ t ≤ 1099511627776) ∧ Rd w' w.heap.size a len' cap bs' (p2 + 4) ∧ Keeps w.heap.size w2 w') := l43Tick w.heap.size a len' cap bs' p2 w2 hr2 (by omega)
  have B2 : Hid (Below w.heap.size w w2) := keeps_below B1.out hk2 (Nat.le_refl _)
  obtain ⟨av, cv, rfl, _⟩ := Cal.gathM_ruls hD.gath
  clear hD hr2 hk2 HA
  go_wp2_with fail
  refine Calls.mono HT.out ?_
  rintro e w3 ⟨⟨t, rfl, ht1, ht2⟩, hr3, hk3⟩
  obtain ⟨av', cv', hf, hru⟩ := Cal.gathM_ruls (GathD.keeps D2.out hk3 hlt).gath
  simp only [Value.slice.injEq, true_and] at hf
  obtain ⟨rfl, rfl⟩ := hf
  have HF : Hid _ := And.intro hru (keeps_below B2.out hk3 (Nat.le_refl _))
  clear hru hr3 hk3 HT
  go_wp2_with fail
  refine bodyPost_ret (v := .tuple #[.slice av rs.length cv, .int .i64 t]) ?_ rfl ?_
  · simp [results, Tryd.results5, go_sem]
  · exact ⟨rs, av, cv, t, rfl, HF.out.1, hn, ht1, ht2, HF.out.2⟩

/-- What a drawing of rules and two ticks answers. -/
def Drawn2 (w : World) (e : Ending) (w' : World) : Prop :=
  ∃ (rs : List Rul) (a : Option Addr) (c : Nat) (t u : Int), e = .returned (.tuple #[.slice a rs.length c, .int .i64 t, .int .i64 u]) ∧ IsRuls w' a rs.length c rs ∧ rs.length ≤ 6 ∧ (-5 ≤ t ∧ t ≤ 94) ∧ (-5 ≤ u ∧ u ≤ 194) ∧ Below w.heap.size w w'
set_option maxRecDepth 4000 in
theorem dDrawCalCount (a : Option Addr) (len cap : Nat) (bs : List Int) (w : World) (h : IsRow .u8 w a len cap bs) :
    Calls Tryd.prog 10 #[.slice a len cap] w fun e w' => Drawn2 w e w' := by
  have HO : Hid (Calls Tryd.prog 16 #[.slice a len cap] w fun e w' => e = .returned (.pointer (some ⟨w.heap.size, 0, none⟩)) ∧ (∃ len' bs', Rd w' w.heap.size a len' cap bs' 0) ∧ Below w.heap.size w w') := l1Open a len cap bs w h
  clear h
  go_enter Tryd.func10, Tryd.ntmps10
  go_wp2_with fail
  refine Calls.mono HO.out ?_
  rintro e w1 ⟨rfl, ⟨len', bs', hr1⟩, hb1⟩
  have HA : Hid (Calls Tryd.prog 17 #[.pointer (some ⟨w.heap.size, 0, none⟩)] w1 fun e w' => AnyPosted w.heap.size w1.heap.size a len' cap bs' 0 w1 e w') := l43Any w.heap.size a len' cap bs' 0 w1 hr1 (by omega)
  have HP : Hid (∀ (p n : Int) (w' : World), Rd w' w.heap.size a len' cap bs' p → p ≤ 999999999 → n ≤ 1000000000 → Calls Tryd.prog 25 #[.pointer (some ⟨w.heap.size, 0, none⟩), .int .i64 n] w' fun e w'' => (∃ v : Int, e = .returned (.int .i64 v) ∧ Picked n v) ∧ Rd w'' w.heap.size a len' cap bs' (p + 1) ∧ Keeps w.heap.size w' w'') := fun p n w' h1 h2 h3 => pick w.heap.size a len' cap bs' p n w' h1 h2 h3
  have hlt := hr1.lt
  have B1 : Hid (Below w.heap.size w w1) := hb1
  clear hr1 hb1 HO
  go_wp2_with fail
  refine Calls.mono HA.out ?_
  rintro e w2 ⟨rs, v, p2, rfl, hD, hn, hr2, hq1, hq2, hk2⟩
  have D2 : Hid _ := hD
  have R2 : Hid _ := hr2
  have B2 : Hid (Below w.heap.size w w2) := keeps_below B1.out hk2 (Nat.le_refl _)
  obtain ⟨av, cv, rfl, _⟩ := Cal.gathM_ruls hD.gath
  clear hD hr2 hk2 HA
  go_wp2_with fail
  refine (HP.out p2 100 _ R2.out (by omega) (by omega)).mono ?_
  rintro e w3 ⟨⟨x, rfl, hx1, hx2, _⟩, hr3, hk3⟩
  have hx2 := hx2 (by omega)
  have D3 : Hid (GathD w3 w.heap.size w1.heap.size (.slice av rs.length cv) rs) := GathD.keeps D2.out hk3 hlt
  have R3 : Hid _ := hr3
  have B3 : Hid (Below w.heap.size w w3) := keeps_below B2.out hk3 (Nat.le_refl _)
  have hwx : IntKind.i64.wrap (x - 5) = x - 5 := by rw [IntKind.wrap_i64]; omega
  clear hr3 hk3 D2 R2 B2
  go_wp2_with fail
  refine (HP.out (p2 + 1) 200 _ R3.out (by omega) (by omega)).mono ?_
  rintro e w4 ⟨⟨y, rfl, hy1, hy2, _⟩, hr4, hk4⟩
  have hy2 := hy2 (by omega)
  obtain ⟨av', cv', hf, hru⟩ := Cal.gathM_ruls (GathD.keeps D3.out hk4 hlt).gath
  simp only [Value.slice.injEq, true_and] at hf
  obtain ⟨rfl, rfl⟩ := hf
  have HF : Hid _ := And.intro hru (keeps_below B3.out hk4 (Nat.le_refl _))
  have hwy : IntKind.i64.wrap (y - 5) = y - 5 := by rw [IntKind.wrap_i64]; omega
  clear hru hr4 hk4
  go_wp2_with fail
  refine bodyPost_ret (v := .tuple #[.slice av rs.length cv, .int .i64 (x - 5), .int .i64 (y - 5)]) ?_ rfl ?_
  · simp [results, Tryd.results10, go_sem]
  · exact ⟨rs, av, cv, x - 5, y - 5, rfl, HF.out.1, hn, by omega, by omega, HF.out.2⟩
end Dr
end Go.Proofs.YtkemfifkjaclhaaDoor
