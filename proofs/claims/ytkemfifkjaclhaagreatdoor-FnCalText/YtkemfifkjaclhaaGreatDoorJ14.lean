/- append onto a slice of strings or of numbers that the call itself gathers. -/
import Derived.Test.YtkemfifkjaclhaaGreatDoorJ9
import Derived.Test.YtkemfifkjaclhaaGreatDoorJ10
import Derived.Test.YtkemfifkjaclhaaGreatDoorJ12
import Derived.Test.YtkemfifkjaclhaaGreatDoorJ13
import Derived.Test.YtkemfifkjaclhaaGreatDoorJ3
namespace Go.Proofs.YtkemfifkjaclhaaGreatDoor
set_option linter.unusedVariables false
set_option linter.unusedSimpArgs false
open Go.RowKit Go
namespace Dr
open Pl (wp_callTwo)

def sixB : List ByteArray := [⟨#[32]⟩, ⟨#[48]⟩, ⟨#[10]⟩, ⟨#[120]⟩, ⟨#[45]⟩, ⟨#[98, 117, 116]⟩]
def elevB : List ByteArray := [⟨#[]⟩, ⟨#[10]⟩, ⟨#[101, 118, 101, 114, 121, 32, 49, 32, 97, 116, 32, 48, 32, 102, 114, 111, 109, 32, 48, 32, 116, 111, 32, 53]⟩, ⟨#[101, 118, 101, 114, 121, 32, 49, 32, 97, 116, 32, 48, 32, 102, 114, 111, 109, 32, 48, 32, 116, 111, 32, 53, 32, 98, 117, 116, 10]⟩, ⟨#[101, 118, 101, 114, 121, 32, 48, 32, 97, 116, 32, 48, 32, 102, 114, 111, 109, 32, 48, 32, 116, 111, 32, 53, 10]⟩, ⟨#[101, 118, 101, 114, 121, 32, 50, 32, 97, 116, 32, 50, 32, 102, 114, 111, 109, 32, 48, 32, 116, 111, 32, 53, 10]⟩, ⟨#[101, 118, 101, 114, 121, 32, 49, 32, 97, 116, 32, 48, 32, 102, 114, 111, 109, 32, 54, 32, 116, 111, 32, 53, 10]⟩, ⟨#[101, 118, 101, 114, 121, 32, 48, 49, 32, 97, 116, 32, 48, 32, 102, 114, 111, 109, 32, 48, 32, 116, 111, 32, 53, 10]⟩, ⟨#[101, 118, 101, 114, 121, 32, 49, 32, 97, 116, 32, 48, 32, 102, 114, 111, 109, 32, 48, 32, 116, 111, 32, 53, 32, 98, 117, 116, 32, 51, 32, 51, 10]⟩, ⟨#[101, 118, 101, 114, 121, 32, 49, 32, 97, 116, 32, 48, 32, 102, 114, 111, 109, 32, 48, 32, 116, 111, 32, 53, 32, 98, 117, 116, 32, 51, 32, 52, 10]⟩, ⟨#[101, 118, 101, 114, 121, 32, 49, 32, 32, 97, 116, 32, 48, 32, 102, 114, 111, 109, 32, 48, 32, 116, 111, 32, 53, 10]⟩]
theorem elevB_size : ∀ x ∈ elevB, x.size ≤ 40 := by decide
theorem sixB_size : ∀ x ∈ sixB, x.size ≤ 8 := by decide
def frame6 (T xs : Nat → Value) : Act := { tmps := #[T 0, T 1, xs 11, T 3, T 4, T 5, T 6, T 7, T 8, T 9, T 10, T 11, T 12, T 13, T 14, T 15, T 16, T 17, T 18, T 19, xs 0, xs 1, xs 2, xs 3, xs 4, xs 5, xs 6, xs 7, xs 8, xs 9, xs 10, T 31, T 32, T 33, T 34, T 35, T 36, T 37, T 38, T 39, T 40, T 41, T 42], defers := [] }
def Ok6 (R k base : Nat) (S : ByteArray) : Nat → Value → World → Prop
  | 0, v, _ => v = .string S
  | 1, v, _ => v = .int .i64 (k : Int)
  | 2, v, _ => ∃ A : ByteArray, v = .string A ∧ A.size ≤ S.size
  | 3, v, _ => v = .pointer (some ⟨R, 0, none⟩)
  | 4, v, W => ∃ b, v = .slice (some ⟨b, 0, none⟩) 6 6 ∧ base ≤ b ∧ b < W.heap.size ∧ ∀ i (hi : i < sixB.length), W.cell? ⟨b, i, none⟩ = some (.string sixB[i])
  | 5, v, _ => ∃ X : ByteArray, v = .string X ∧ X.size ≤ 8
  | 6, v, _ => ∃ Y : ByteArray, v = .string Y ∧ Y.size ≤ S.size + 8
  | 7, v, _ => v = .string S
  | 8, v, _ => v = .int .i64 (k : Int)
  | 9, v, _ => ∃ A : ByteArray, v = .string A ∧ A.size ≤ S.size
  | 10, v, _ => ∃ Z : ByteArray, v = .string Z ∧ Z.size ≤ 2 * S.size + 8
  | 11, v, _ => ∃ Z : ByteArray, v = .string Z ∧ Z.size ≤ 2 * S.size + 8
  | _ + 12, _, _ => True
theorem Ok6.mono {R k base : Nat} {S : ByteArray} {v : Value} {W W' : World} (hk : Near base W W') : ∀ j, Ok6 R k base S j v W → Ok6 R k base S j v W'
  | 0, h => h
  | 1, h => h
  | 2, h => h
  | 3, h => h
  | 4, h => by obtain ⟨b, e, h1, h2, hc⟩ := (show ∃ b, v = .slice (some ⟨b, 0, none⟩) 6 6 ∧ base ≤ b ∧ b < W.heap.size ∧ ∀ i (hi : i < sixB.length), W.cell? ⟨b, i, none⟩ = some (.string sixB[i]) from h); exact ⟨b, e, h1, Nat.lt_of_lt_of_le h2 hk.1, fun i hi => (hk.cell h1 h2).trans (hc i hi)⟩
  | 5, h => h
  | 6, h => h
  | 7, h => h
  | 8, h => h
  | 9, h => h
  | 10, h => h
  | 11, h => h
  | _ + 12, h => trivial
def Inv6 (T : Nat → Value) (R k base : Nat) (a : Option Addr) (len cap : Nat) (bs : List Int) (p : Int) (S : ByteArray) (w0 : World) (listed : Array Bool) (act : Act) (W : World) : Prop :=
  ∃ xs, act = frame6 T xs ∧ Keeps R w0 W ∧ base ≤ W.heap.size ∧ (listed.getD 5 false = false → Rd W R a len cap bs p) ∧ ∀ j, j < 12 → listed.getD j false = true → Ok6 R k base S j (xs j) W
theorem Inv6.put {T : Nat → Value} {R k base : Nat} {a : Option Addr} {len cap : Nat} {bs : List Int} {p : Int} {S : ByteArray} {w0 W W' : World} {listed : Array Bool} {xs : Nat → Value} (hR : R < base) (hK : Keeps R w0 W) (hz : base ≤ W.heap.size) (hF : ∀ j, j < 12 → listed.getD j false = true → Ok6 R k base S j (xs j) W)
    (i : Nat) (v : Value) {act : Act} (ha : act = frame6 T (upd xs i v)) (hk : Keeps R W W') (hrd : (listed.setIfInBounds i true).getD 5 false = false → Rd W' R a len cap bs p) (hok : Ok6 R k base S i v W') : Inv6 T R k base a len cap bs p S w0 (listed.setIfInBounds i true) act W' := by
  refine ⟨upd xs i v, ha, hK.trans hk, Nat.le_trans hz hk.size, hrd, fun j hj hl => ?_⟩
  by_cases e : j = i
  · subst e; rw [upd_same]; exact hok
  · rw [upd_else xs v e]; exact Ok6.mono (Near.of_keeps hR hk) j (hF j hj (by rwa [RI.up_else e] at hl))

theorem ext_le (s : ByteArray) (i j : Nat) : (s.extract i j).size ≤ s.size := by
  have : (s.extract i j).data.size ≤ s.data.size := by rw [ByteArray.data_extract, Array.size_extract]; omega
  exact this
theorem wp_frame2 {P : Program} {Q : Exit → Act → World → Prop} {c : Code} {w : World} (act : Act) (fr : (Nat → Value) → (Nat → Value) → Act) (g : (Nat → Value) → Nat → Value) (hact : act = fr (fun j => act.tmps.getD j undef) (g (fun j => act.tmps.getD j undef))) (h : ∀ T : Nat → Value, T = (fun j => act.tmps.getD j undef) → c.wp P Q (fr T (g T)) w) : c.wp P Q act w := by
  rw [hact]; exact h _ rfl
theorem calW_size {rs : List Rul} : (calW rs).size ≤ 1300 := by
  unfold calW
  split
  · rename_i h
    have hr := calOk_rules h
    have h4 : rs.length ≤ 4 := by
      have := calOk_all (rs := rs) (fun i hi => ruleOk_yes (hr i hi))
      rw [h] at this
      have := of_decide_eq_true this.symm
      omega
    have := calT_size hr rs.length (Nat.le_refl _)
    rw [List.take_length] at this
    omega
  · decide

set_option maxRecDepth 4000 in
set_option maxHeartbeats 4000000 in
theorem dDrawCalRead (a : Option Addr) (len cap : Nat) (bs : List Int) (w : World) (h : IsRow .u8 w a len cap bs) :
    Calls Tryz.prog 4 #[.slice a len cap] w fun e w' => (∃ s : ByteArray, e = .returned (.string s) ∧ s.size ≤ 10000) ∧ Below w.heap.size w w' := by
  have HO : Hid (Calls Tryz.prog 13 #[.slice a len cap] w fun e w' => e = .returned (.pointer (some ⟨w.heap.size, 0, none⟩)) ∧ (∃ len' bs', Rd w' w.heap.size a len' cap bs' 0) ∧ Below w.heap.size w w') := l1Open a len cap bs w h
  clear h
  go_enter Tryz.func4, Tryz.ntmps4
  go_wp2_with fail
  refine Calls.mono HO.out ?_
  rintro e w1 ⟨rfl, ⟨len', bs', hr1⟩, hb1⟩
  have HQ : Hid (Calls Tryz.prog 14 #[.pointer (some ⟨w.heap.size, 0, none⟩)] w1 fun e w' => RulesPosted w.heap.size a len' cap bs' 0 w1 e w') := l43Rules w.heap.size a len' cap bs' 0 w1 hr1 (by omega)
  have hlt := hr1.lt
  have B1 : Hid (Below w.heap.size w w1) := hb1
  have HP : Hid (∀ (p n : Int) (w' : World), Rd w' w.heap.size a len' cap bs' p → p ≤ 999999999 → n ≤ 1000000000 → Calls Tryz.prog 15 #[.pointer (some ⟨w.heap.size, 0, none⟩), .int .i64 n] w' fun e w'' => (∃ v : Int, e = .returned (.int .i64 v) ∧ Picked n v) ∧ Rd w'' w.heap.size a len' cap bs' (p + 1) ∧ Keeps w.heap.size w' w'') := fun p n w' h1 h2 h3 => pick w.heap.size a len' cap bs' p n w' h1 h2 h3
  clear hr1 hb1 HO
  go_wp2_with fail
  refine Calls.mono HQ.out ?_
  rintro e w2 ⟨rs, v, p2, rfl, hD, hsm, hn1, hn3, hr2, hq1, hq2, hk2⟩
  obtain ⟨av, cv, rfl, hru⟩ := Cal.gathM_ruls hD.gath
  have HW : Hid (Calls Tryz.prog 10 #[.slice av rs.length cv] w2 fun e w' => e = .returned (.string (calW rs)) ∧ Below w2.heap.size w2 w') := specCalWrite av rs.length cv rs w2 hru
  have R2 : Hid _ := hr2
  have B2 : Hid (Below w.heap.size w w2) := keeps_below B1.out hk2 (Nat.le_refl _)
  have hS := calW_size (rs := rs)
  generalize calW rs = S at HW hS
  clear hD hsm hr2 hk2 hru HQ
  go_wp2_with fail
  refine Calls.mono HW.out ?_
  rintro e w3 ⟨rfl, hb3⟩
  have R3 : Hid (Rd w3 w.heap.size a len' cap bs' p2) := R2.out.below hb3
  have B3 : Hid (Below w.heap.size w w3) := bcall B2.out B2.out.size hb3
  clear hb3 HW R2 B2
  go_wp2_with fail
  refine (HP.out p2 5 _ R3.out (by omega) (by omega)).mono ?_
  rintro e w4 ⟨⟨x, rfl, hx1, hx2, _⟩, hr4, hk4⟩
  have hx2 := hx2 (by omega)
  have R4 : Hid _ := hr4
  have B4 : Hid (Below w.heap.size w w4) := keeps_below B3.out hk4 (Nat.le_refl _)
  clear hr4 hk4 R3 B3
  by_cases c1 : x = 1
  · subst c1
    go_wp2_with fail
    refine (rdOf w.heap.size a len' cap bs' (p2 + 1) w4.heap.size elevB _ (R4.out.alloc _) (by omega) (fun i hi => (World.cell?_alloc_new _ _ _ _).trans (by
      have : i < 11 := hi
      rcases (by omega : i = 0 ∨ i = 1 ∨ i = 2 ∨ i = 3 ∨ i = 4 ∨ i = 5 ∨ i = 6 ∨ i = 7 ∨ i = 8 ∨ i = 9 ∨ i = 10) with rfl | rfl | rfl | rfl | rfl | rfl | rfl | rfl | rfl | rfl | rfl <;> rfl)) (by simp) (by have := R4.out.lt; omega) (by decide) (by decide)).mono ?_
    rintro e w5 ⟨⟨s, hs, rfl⟩, hk5⟩
    have hsz := elevB_size s hs
    have HB : Hid (Below w.heap.size w w5) := keeps_below (B4.out.alloc B4.out.size _) hk5 (Nat.le_refl _)
    clear hk5 hs
    go_wp2_with fail
    go_ret
    exact ⟨⟨s, rfl, by omega⟩, HB.out⟩
  by_cases c2 : x = 2
  · subst c2
    go_wp2_with fail
    refine (HP.out (p2 + 1) 2 _ R4.out (by omega) (by omega)).mono ?_
    rintro e w5 ⟨⟨y, rfl, hy1, hy2, _⟩, hr5, hk5⟩
    have hy2 := hy2 (by omega)
    obtain ⟨yn, rfl⟩ : ∃ m : Nat, y = (m : Int) := ⟨y.toNat, by omega⟩
    have hwy : IntKind.i64.wrap (4 + (yn : Int)) = ((4 + yn : Nat) : Int) := by rw [IntKind.wrap_i64]; omega
    have HM : Hid (∀ W, Calls Tryz.prog 17 #[.string ⟨#[101, 118, 101, 114, 121, 32, 49, 32, 97, 116, 32, 48, 32, 102, 114, 111, 109, 32, 48, 32, 116, 111, 32, 49, 10]⟩, .int .i64 ((4 + yn : Nat) : Int)] W fun e w' => (∃ x : ByteArray, e = .returned (.string x) ∧ x.size ≤ 125) ∧ w' = W) := fun W => l1Many _ (4 + yn) W (by omega) (by omega) (by decide)
    have HB : Hid (Below w.heap.size w w5) := keeps_below B4.out hk5 (Nat.le_refl _)
    clear hr5 hk5
    generalize 4 + yn = nn at HM hwy
    go_wp2_with fail
    refine (HM.out _).mono ?_
    rintro e w6 ⟨⟨s, rfl, hsz⟩, hw6⟩
    subst w6
    go_wp2_with fail
    go_ret
    exact ⟨⟨s, rfl, by omega⟩, HB.out⟩
  by_cases c0 : x = 0
  · subst c0
    have hwl : IntKind.i64.wrap ((S.size : Int) + 1) = (S.size : Int) + 1 := by rw [IntKind.wrap_i64]; omega
    go_wp2_with fail
    refine (HP.out (p2 + 1) ((S.size : Int) + 1) _ R4.out (by omega) (by omega)).mono ?_
    rintro e w5 ⟨⟨y, rfl, hy1, hy2, _⟩, hr5, hk5⟩
    have hy2 := hy2 (by omega)
    obtain ⟨k, rfl⟩ : ∃ m : Nat, y = (m : Int) := ⟨y.toNat, by omega⟩
    have hkS : k ≤ S.size := by omega
    have R5 : Hid _ := hr5
    have B5 : Hid (Below w.heap.size w w5) := keeps_below B4.out hk5 (Nat.le_refl _)
    clear hr5 hk5 R4 B4
    go_wp2_with fail
    have hRb : w.heap.size < w5.heap.size := R5.out.lt
    have hd0 : Below w5.heap.size w5 w5.drew := (Below.refl _ _).drew
    refine wp_region_noPanic (wp_frame2 _ frame6 (fun T i => if i = 11 then T 2 else undef) (by kernel_rfl) fun T hT => ?_)
    have t3 : T 3 = .pointer (some ⟨w.heap.size, 0, none⟩) := by rw [hT]; rfl
    have t4 : T 4 = .string S := by rw [hT]; rfl
    have t5 : T 5 = .int .i64 (k : Int) := by rw [hT]; rfl
    clear hT
    refine RI.wp_region_inv2 (by kernel_rfl) (by kernel_rfl) (Inv6 T w.heap.size k w5.heap.size a len' cap bs' (p2 + 1 + 1) S w5) ⟨_, rfl, Keeps.of_below hd0, Nat.le_refl _, fun _ => R5.out.below hd0, fun j _ h => by rw [RI.up_new] at h; cases h⟩ (fun i o listed act W hi hs hl haft hcl hinv => ?_) (fun listed act W hs hall hinv => ?_)
    case refine_2 =>
      obtain ⟨xs, rfl, hK, hz, hrd, hF⟩ := hinv
      obtain ⟨Z, d11, hZ⟩ : ∃ Z : ByteArray, xs 11 = .string Z ∧ Z.size ≤ 2 * S.size + 8 := hF 11 (by decide) (by have := hall 11 (by decide); simpa [Array.getD, hs] using this)
      have HB : Hid (Below w.heap.size w W) := keeps_below B5.out hK (Nat.le_refl _)
      clear hK hrd hF hall
      simp only [frame6, d11]
      refine NoPanic.normal ?_
      go_wp2_with fail
      go_ret
      exact ⟨⟨Z, rfl, by omega⟩, HB.out⟩
    obtain ⟨xs, rfl, hK, hz, hrd, hF⟩ := hinv
    have hi12 : i < 12 := (Array.getElem?_eq_some_iff.1 hi).1
    rcases (show i = 0 ∨ i = 1 ∨ i = 2 ∨ i = 3 ∨ i = 4 ∨ i = 5 ∨ i = 6 ∨ i = 7 ∨ i = 8 ∨ i = 9 ∨ i = 10 ∨ i = 11 by omega) with rfl | rfl | rfl | rfl | rfl | rfl | rfl | rfl | rfl | rfl | rfl | rfl
    · have ho := Option.some.inj hi
      subst ho
      exact RI.op_val (d := some 20) (v := .string S) hi (by kernel_rfl) rfl (by simp [go_sem, frame6, t4]) (Inv6.put hRb hK hz hF 0 (.string S) (by kernel_rfl) (Keeps.refl _ _) (fun h => hrd (by rwa [RI.up_else (by decide)] at h)) rfl)
    · have ho := Option.some.inj hi
      subst ho
      exact RI.op_val (d := some 21) (v := .int .i64 (k : Int)) hi (by kernel_rfl) rfl (by simp [go_sem, frame6, t5]) (Inv6.put hRb hK hz hF 1 (.int .i64 (k : Int)) (by kernel_rfl) (Keeps.refl _ _) (fun h => hrd (by rwa [RI.up_else (by decide)] at h)) rfl)
    · have ho := Option.some.inj hi
      subst ho
      have d0 : xs 0 = .string S := hF 0 (by decide) (RI.dep haft 0 (by kernel_rfl))
      have d1 : xs 1 = .int .i64 (k : Int) := hF 1 (by decide) (RI.dep haft 1 (by kernel_rfl))
      exact RI.op_val (d := some 22) (v := .string (S.extract 0 k)) hi (by kernel_rfl) rfl (by simp [go_sem, frame6, d0, d1, hkS]) (Inv6.put hRb hK hz hF 2 (.string (S.extract 0 k)) (by kernel_rfl) (Keeps.refl _ _) (fun h => hrd (by rwa [RI.up_else (by decide)] at h)) ⟨_, rfl, ext_le _ _ _⟩)
    · have ho := Option.some.inj hi
      subst ho
      exact RI.op_val (d := some 23) (v := .pointer (some ⟨w.heap.size, 0, none⟩)) hi (by kernel_rfl) rfl (by simp [go_sem, frame6, t3]) (Inv6.put hRb hK hz hF 3 (.pointer (some ⟨w.heap.size, 0, none⟩)) (by kernel_rfl) (Keeps.refl _ _) (fun h => hrd (by rwa [RI.up_else (by decide)] at h)) rfl)
    · have ho := Option.some.inj hi
      subst ho
      clear t3 t4 t5
      have l5 : listed.getD 5 false = false := hcl.not 20 (by kernel_rfl) hl
      refine RI.op_one hi (by kernel_rfl) fun KK hKK => ?_
      simp only [frame6]
      go_simp
      have hal : Keeps w.heap.size W (W.alloc (.cells #[.string ⟨#[32]⟩, .string ⟨#[48]⟩, .string ⟨#[10]⟩, .string ⟨#[120]⟩, .string ⟨#[45]⟩, .string ⟨#[98, 117, 116]⟩] 9)) := Keeps.of_below ((Below.refl _ _).alloc (Nat.le_refl _) _)
      refine hKK _ _ (Inv6.put hRb hK hz hF 4 (.slice (some ⟨W.heap.size, 0, none⟩) 6 6) (by kernel_rfl) hal (fun _ => (hrd l5).alloc _) ⟨W.heap.size, rfl, hz, by simp, fun i hi => (World.cell?_alloc_new _ _ _ _).trans ?_⟩)
      have : i < 6 := hi
      rcases (by omega : i = 0 ∨ i = 1 ∨ i = 2 ∨ i = 3 ∨ i = 4 ∨ i = 5) with rfl | rfl | rfl | rfl | rfl | rfl <;> rfl
    · have ho := Option.some.inj hi
      subst ho
      have d3 : xs 3 = .pointer (some ⟨w.heap.size, 0, none⟩) := hF 3 (by decide) (RI.dep haft 3 (by kernel_rfl))
      obtain ⟨b, d4, hb1, hb2, hc⟩ : ∃ b, xs 4 = .slice (some ⟨b, 0, none⟩) 6 6 ∧ w5.heap.size ≤ b ∧ b < W.heap.size ∧ ∀ i (hi : i < sixB.length), W.cell? ⟨b, i, none⟩ = some (.string sixB[i]) := hF 4 (by decide) (RI.dep haft 4 (by kernel_rfl))
      refine RI.op_one hi (by kernel_rfl) fun KK hKK => ?_
      refine wp_callTwo (rdOf w.heap.size a len' cap bs' (p2 + 1 + 1) b sixB W (hrd (RI.not_up hl)) (by omega) hc hb2 (by omega) (by decide) (by decide)) (fun e w' h => by obtain ⟨⟨x, _, h⟩, _⟩ := h; exact ⟨_, h⟩) (enters_of Tryz.func16 (by kernel_rfl) rfl) _ _ _ (d := some 25) rfl (by rfl) ((show _ = xs 3 by kernel_rfl).trans d3) ((show _ = xs 4 by kernel_rfl).trans d4) ?_
      rintro r w6 ⟨⟨X, hX, he⟩, hk6⟩
      cases he
      exact hKK _ _ (Inv6.put hRb hK hz hF 5 _ (by kernel_rfl) hk6 (fun h => by rw [RI.up_same (by rw [hs]; decide)] at h; cases h) ⟨X, rfl, sixB_size X hX⟩)
    · have ho := Option.some.inj hi
      subst ho
      obtain ⟨y2, d2, hy2⟩ : ∃ A : ByteArray, xs 2 = .string A ∧ A.size ≤ S.size := hF 2 (by decide) (RI.dep haft 2 (by kernel_rfl))
      obtain ⟨y5, d5, hy5⟩ : ∃ X : ByteArray, xs 5 = .string X ∧ X.size ≤ 8 := hF 5 (by decide) (RI.dep haft 5 (by kernel_rfl))
      have hcc : ¬ 9223372036854775807 < y2.size + y5.size := by omega
      exact RI.op_val (d := some 26) (v := .string (y2 ++ y5)) hi (by kernel_rfl) rfl (by simp [go_sem, frame6, d2, d5, hcc]) (Inv6.put hRb hK hz hF 6 (.string (y2 ++ y5)) (by kernel_rfl) (Keeps.refl _ _) (fun h => hrd (by rwa [RI.up_else (by decide)] at h)) ⟨_, rfl, by rw [ByteArray.size_append]; omega⟩)
    · have ho := Option.some.inj hi
      subst ho
      exact RI.op_val (d := some 27) (v := .string S) hi (by kernel_rfl) rfl (by simp [go_sem, frame6, t4]) (Inv6.put hRb hK hz hF 7 (.string S) (by kernel_rfl) (Keeps.refl _ _) (fun h => hrd (by rwa [RI.up_else (by decide)] at h)) rfl)
    · have ho := Option.some.inj hi
      subst ho
      exact RI.op_val (d := some 28) (v := .int .i64 (k : Int)) hi (by kernel_rfl) rfl (by simp [go_sem, frame6, t5]) (Inv6.put hRb hK hz hF 8 (.int .i64 (k : Int)) (by kernel_rfl) (Keeps.refl _ _) (fun h => hrd (by rwa [RI.up_else (by decide)] at h)) rfl)
    · have ho := Option.some.inj hi
      subst ho
      have d7 : xs 7 = .string S := hF 7 (by decide) (RI.dep haft 7 (by kernel_rfl))
      have d8 : xs 8 = .int .i64 (k : Int) := hF 8 (by decide) (RI.dep haft 8 (by kernel_rfl))
      exact RI.op_val (d := some 29) (v := .string (S.extract k S.size)) hi (by kernel_rfl) rfl (by simp [go_sem, frame6, d7, d8, hkS]) (Inv6.put hRb hK hz hF 9 (.string (S.extract k S.size)) (by kernel_rfl) (Keeps.refl _ _) (fun h => hrd (by rwa [RI.up_else (by decide)] at h)) ⟨_, rfl, ext_le _ _ _⟩)
    · have ho := Option.some.inj hi
      subst ho
      obtain ⟨y6, d6, hy6⟩ : ∃ Y : ByteArray, xs 6 = .string Y ∧ Y.size ≤ S.size + 8 := hF 6 (by decide) (RI.dep haft 6 (by kernel_rfl))
      obtain ⟨y9, d9, hy9⟩ : ∃ A : ByteArray, xs 9 = .string A ∧ A.size ≤ S.size := hF 9 (by decide) (RI.dep haft 9 (by kernel_rfl))
      have hcc : ¬ 9223372036854775807 < y6.size + y9.size := by omega
      exact RI.op_val (d := some 30) (v := .string (y6 ++ y9)) hi (by kernel_rfl) rfl (by simp [go_sem, frame6, d6, d9, hcc]) (Inv6.put hRb hK hz hF 10 (.string (y6 ++ y9)) (by kernel_rfl) (Keeps.refl _ _) (fun h => hrd (by rwa [RI.up_else (by decide)] at h)) ⟨_, rfl, by rw [ByteArray.size_append]; omega⟩)
    · have ho := Option.some.inj hi
      subst ho
      obtain ⟨y10, d10, hy10⟩ : ∃ Z : ByteArray, xs 10 = .string Z ∧ Z.size ≤ 2 * S.size + 8 := hF 10 (by decide) (RI.dep haft 10 (by kernel_rfl))
      exact RI.op_val (d := some 2) (v := .string y10) hi (by kernel_rfl) rfl (by simp [go_sem, frame6, d10]) (Inv6.put hRb hK hz hF 11 (.string y10) (by kernel_rfl) (Keeps.refl _ _) (fun h => hrd (by rwa [RI.up_else (by decide)] at h)) ⟨_, rfl, hy10⟩)
  · go_wp2_with fail
    go_ret
    exact ⟨⟨S, rfl, by omega⟩, B4.out⟩

set_option maxRecDepth 4000 in
theorem dDrawCalWrite (a : Option Addr) (len cap : Nat) (bs : List Int) (w : World) (h : IsRow .u8 w a len cap bs) :
    Calls Tryz.prog 9 #[.slice a len cap] w fun e w' => (∃ (rs : List Rul) (av : Option Addr) (cv : Nat), e = .returned (.slice av rs.length cv) ∧ IsRuls w' av rs.length cv rs) ∧ Below w.heap.size w w' := by
  have HO : Hid (Calls Tryz.prog 13 #[.slice a len cap] w fun e w' => e = .returned (.pointer (some ⟨w.heap.size, 0, none⟩)) ∧ (∃ len' bs', Rd w' w.heap.size a len' cap bs' 0) ∧ Below w.heap.size w w') := l1Open a len cap bs w h
  clear h
  go_enter Tryz.func9, Tryz.ntmps9
  go_wp2_with fail
  refine Calls.mono HO.out ?_
  rintro e w1 ⟨rfl, ⟨len', bs', hr1⟩, hb1⟩
  have HA : Hid (Calls Tryz.prog 25 #[.pointer (some ⟨w.heap.size, 0, none⟩)] w1 fun e w' => AnyPosted w.heap.size w1.heap.size a len' cap bs' 0 w1 e w') := l43Any w.heap.size a len' cap bs' 0 w1 hr1 (by omega)
  have B1 : Hid (Below w.heap.size w w1) := hb1
  clear hr1 hb1 HO
  go_wp2_with fail
  refine Calls.mono HA.out ?_
  rintro e w2 ⟨rs, v, p2, rfl, hD, hn, hr2, hq1, hq2, hk2⟩
  obtain ⟨av, cv, rfl, hru⟩ := Cal.gathM_ruls hD.gath
  have HF : Hid _ := And.intro hru (keeps_below B1.out hk2 (Nat.le_refl _))
  clear hD hr2 hk2 HA hru
  go_wp2_with fail
  go_ret
  exact ⟨⟨rs, av, cv, rfl, HF.out.1⟩, HF.out.2⟩
end Dr
end Go.Proofs.YtkemfifkjaclhaaGreatDoor

namespace Go.Proofs.YtkemfifkjaclhaaGreatDoor
set_option linter.unusedVariables false
set_option linter.unusedSimpArgs false
open Go.RowKit

theorem Tryz.infoS : (Tryz.prog.info? 9).map (fun i => (i.zero, i.size, i.bytes)) = some (some (.string ByteArray.empty), 1, 16) := by kernel_rfl

/-- One string is appended. -/
theorem wp_acc_str {w : World} {ops : Array Oper} {rest : List Oper} {o : Oper} {a : Act} {Q : Exit → Act → World → Prop} (hgd : o.guard = none) (s x : Operand)
    (ho : o.op = .call { callee := .builtin .append, args := #[s, x], argTypes := #[37, 37] })
    (F : Nat) (v : Value) (n : Nat) (xs : List ByteArray) (hs : a.eval s = v) (hacc : Acc w F 9 1 v n (sv xs))
    (ad : Addr) (c : Nat) (str : ByteArray) (hx : a.eval x = .slice (some ad) 1 c) (hc : w.cell? ad = some (.string str))
    (hn : n ≤ 1099511627776) (hF : F ≤ w.heap.size)
    (h : ∀ v' w', Acc w' F 9 1 v' (n + 1) (sv (xs ++ [str])) → Below F w w' → wpList Tryz.prog ops Q rest (a.put o.dst v') w') : wpList Tryz.prog ops Q (o :: rest) a w := by
  refine wp_acc hgd s x 37 ho F 9 _ 1 16 Tryz.underlying37 Tryz.infoS rfl (by decide) v n (sv xs) hs hacc ad 1 c [.string str] hx (by decide) rfl ?_ ?_ (by unfold maxLen; omega) (by omega) hF ?_
  · intro j u hj
    match j, hj with
    | 0, hj => simp at hj; subst hj; simpa [Addr.add] using hc
  · intro u hu; simp at hu; subst hu; rfl
  · intro v' w' h1 h2
    exact h v' w' (by rw [sv_app]; exact h1) h2
end Go.Proofs.YtkemfifkjaclhaaGreatDoor
