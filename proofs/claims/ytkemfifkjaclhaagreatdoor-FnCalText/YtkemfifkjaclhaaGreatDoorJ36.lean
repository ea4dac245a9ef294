/- What a claim's reading of byte slices says of the memory. -/
import Derived.Test.YtkemfifkjaclhaaGreatDoorJ14
import Derived.Test.YtkemfifkjaclhaaGreatDoorJ19
import Derived.Test.YtkemfifkjaclhaaGreatDoorJ34
import Derived.Test.YtkemfifkjaclhaaGreatDoorJ35
import Derived.Test.YtkemfifkjaclhaaGreatDoorRows
import Derived.Test.YtkemfifkjaclhaaGreatDoorJ2
import Derived.WalkKit
import Derived.ProofKit
import Derived.OpenShut
import Derived.ShutString
import Derived.ChangeOld
import Derived.Below
import Derived.Lib.SmallJoins
namespace Go.Proofs.YtkemfifkjaclhaaGreatDoor
set_option linter.unusedVariables false
set_option linter.unusedSimpArgs false
open Go.RowKit Go

theorem decB_few : ∀ (k n : Nat), 1 ≤ k → n < 10 ^ k → (decB n).size ≤ k
  | 0, _, h, _ => by omega
  | k + 1, n, _, hn => by
    by_cases h : n < 10
    · rw [decB_small h]; show 1 ≤ _; omega
    · have hk : 1 ≤ k := by
        cases k with
        | zero => simp at hn; omega
        | succ k => omega
      rw [decB_more h, ByteArray.size_append]
      have := decB_few k (n / 10) hk (by rw [Nat.pow_succ] at hn; omega)
      show _ + 1 ≤ _
      omega
theorem itoB_few {n : Int} (h0 : 0 ≤ n) (h1 : n ≤ 100000) : (itoB n).size ≤ 6 := by
  obtain ⟨u, rfl⟩ : ∃ u : Nat, n = (u : Int) := ⟨n.toNat, by omega⟩
  rw [itoB_nat]
  exact decB_few 6 u (by omega) (by omega)
theorem numsT_few (l : List Int) (h : ∀ n ∈ l, 0 ≤ n ∧ n ≤ 100000) (b : ByteArray) : (numsT b l).size ≤ b.size + 7 * l.length := by
  induction l generalizing b with
  | nil => simp [numsT]
  | cons x t ih =>
    have h1 := ih (fun n hn => h n (List.mem_cons_of_mem _ hn)) (b ++ spB ++ itoB x)
    have h2 := itoB_few (h x (by simp)).1 (h x (by simp)).2
    have h3 : spB.size = 1 := rfl
    have e : numsT b (x :: t) = numsT (b ++ spB ++ itoB x) t := rfl
    rw [e, List.length_cons]
    rw [ByteArray.size_append, ByteArray.size_append] at h1
    omega
theorem rulT_few {r : Rul} (h : RuleOk r) : (rulT r).size ≤ 140 := by
  have hb : ∀ n ∈ r.but, 0 ≤ n ∧ n ≤ 100000 := fun n hn => by
    obtain ⟨i, hi, rfl⟩ := List.mem_iff_getElem.1 hn
    have hh := h.2.2.2.2.2 i hi
    have e : r.but.getD i 0 = r.but[i] := getD_at _ _ hi
    unfold butAt at hh
    rw [e] at hh
    omega
  have h1 := numsT_few r.but hb (if r.but = [] then headT r else headT r ++ w5B)
  have h8 : r.but.length ≤ 8 := h.2.2.2.2.1
  obtain ⟨⟨e1, e2⟩, ⟨a1, a2⟩, ⟨f1, f2⟩, ⟨t1, t2⟩, _, _⟩ := h
  have s1 := itoB_few (n := r.ev) (by omega) (by omega)
  have s2 := itoB_few (n := r.at_) (by omega) (by omega)
  have s3 := itoB_few (n := r.fr) (by omega) (by omega)
  have s4 := itoB_few (n := r.to_) (by omega) (by omega)
  have z1 : w1B.size = 6 := rfl
  have z2 : w2B.size = 4 := rfl
  have z3 : w3B.size = 6 := rfl
  have z4 : w4B.size = 4 := rfl
  have z5 : w5B.size = 4 := rfl
  have hh : (headT r).size ≤ 44 := by unfold headT; simp only [ByteArray.size_append]; omega
  have : (if r.but = [] then headT r else headT r ++ w5B).size ≤ 48 := by
    split
    · omega
    · rw [ByteArray.size_append]; omega
  unfold rulT
  omega
theorem calT_few {rs : List Rul} (h : ∀ i (hi : i < rs.length), RuleOk rs[i]) : ∀ q, q ≤ rs.length → (calT (rs.take q)).size ≤ 141 * q := by
  intro q
  induction q with
  | zero => intro _; simp only [List.take_zero, calT, List.foldl_nil]; exact Nat.le_refl 0
  | succ q ih =>
    intro hq
    have e : rs.take (q + 1) = rs.take q ++ [rs[q]] := (List.take_append_getElem (by omega)).symm
    rw [e, calT_snoc, ByteArray.size_append, ByteArray.size_append]
    have h1 := ih (by omega)
    have h2 := rulT_few (h q (by omega))
    have h3 := nlB_size
    omega
theorem calOk_len {rs : List Rul} (h : calOk rs = true) : 1 ≤ rs.length ∧ rs.length ≤ 4 := by
  simp only [calOk, Bool.and_eq_true, decide_eq_true_eq] at h
  omega
namespace Cal
/-- What is written of rules that are ok is their text. -/
theorem isCal_write {rs : List Rul} (h : calOk rs = true) : IsCal (calW rs) rs := by
  have e : calW rs = calT rs := by unfold calW; rw [if_pos h]
  refine ⟨h, e.symm, ?_⟩
  rw [e]
  have := calT_few (calOk_rules h) rs.length (Nat.le_refl _)
  rw [List.take_length] at this
  have := calOk_len h
  omega
theorem noCal (L : List Rul) : ¬ IsCal ⟨#[]⟩ L := by
  rintro ⟨h, e, _⟩
  have hl := (calOk_len h).1
  have e2 : L = L.take (L.length - 1) ++ [L[L.length - 1]] := by
    rw [List.take_append_getElem (by omega)]
    rw [show L.length - 1 + 1 = L.length by omega, List.take_length]
  rw [e2, calT_snoc] at e
  have := congrArg ByteArray.size e
  rw [ByteArray.size_append, ByteArray.size_append, nlB_size] at this
  have hz : (⟨#[]⟩ : ByteArray).size = 0 := rfl
  omega
theorem fact_any (s : ByteArray) : ∃ ok es, Fact s ok es := by
  by_cases h : ∃ L, IsCal s L
  · obtain ⟨L, hL⟩ := h
    exact ⟨true, L, ⟨fun _ => hL, (fun h => by cases h)⟩⟩
  · exact ⟨false, [], ⟨(fun h => by cases h), fun _ => ⟨rfl, fun L hL => h ⟨L, hL⟩⟩⟩⟩
theorem fact_write (rs : List Rul) : Fact (calW rs) (calOk rs) (if calOk rs = true then rs else []) := by
  cases h : calOk rs with
  | true => exact ⟨fun _ => by rw [if_pos rfl]; exact isCal_write h, fun h => by cases h⟩
  | false =>
    have e : calW rs = ⟨#[]⟩ := by unfold calW; rw [if_neg (by rw [h]; decide)]
    exact ⟨fun h => (by cases h), fun _ => ⟨if_neg (by decide), fun L => by rw [e]; exact noCal L⟩⟩
theorem spec_fact {s : ByteArray} {w w' : World} {e : Ending} {ok : Bool} {es : List Rul} (h : SpecCal s w e w') (hf : Fact s ok es) : ∃ a c, e = .returned (.tuple #[.slice a es.length c, .bool ok]) ∧ IsRuls w' a es.length c es ∧ Below w.heap.size w w' := by
  obtain ⟨a, l, c, ok2, rs, rfl, hb, hr, h1, h2⟩ := h
  have hl := (IsRecs.len hr).1
  have key : ok2 = ok ∧ rs = es := by
    cases ok2 with
    | true =>
      have hc := h1 rfl
      cases ok with
      | true => exact ⟨rfl, ((hf.1 rfl).one hc).symm⟩
      | false => exact absurd hc ((hf.2 rfl).2 _)
    | false =>
      obtain ⟨hr0, hno⟩ := h2 rfl
      cases ok with
      | true => exact absurd (hf.1 rfl) (hno _)
      | false => exact ⟨rfl, by rw [hr0, (hf.2 rfl).1]⟩
  obtain ⟨rfl, rfl⟩ := key
  subst hl
  exact ⟨a, c, rfl, hr, hb⟩
theorem impl_fact {s : ByteArray} {w w' : World} {e : Ending} {ok : Bool} {es : List Rul} (h : ReadsCal s w e w') (hf : Fact s ok es) : ∃ a c, e = .returned (.tuple #[.slice a es.length c, .bool ok]) ∧ IsRuls w' a es.length c es ∧ Below w.heap.size w w' := by
  obtain ⟨v, rfl, hG, hb⟩ := reads_fact h hf
  obtain ⟨a, c, rfl, hr⟩ := gath_ruls hG
  exact ⟨a, c, rfl, hr, hb⟩
end Cal

set_option maxRecDepth 4000 in
set_option maxHeartbeats 4000000 in
theorem lawCalText (a : Option Addr) (l c : Nat) (bs : List Int) (a2 : Option Addr) (l2 c2 : Nat) (bs2 : List Int) (w : World) (h : IsRow .u8 w a l c bs) (h2 : IsRow .u8 w a2 l2 c2 bs2) (hE : ErrT w) (hS : Errs w) (hT : Tab w) :
    Calls Tryz.prog 3 #[.slice a l c, .slice a2 l2 c2] w fun e w' => e = .returned (.bool true) ∧ Below w.heap.size w w' := by
  have hl := h.len.2
  have hl2 := h2.len.2
  unfold maxLen at hl hl2
  by_cases hb1 : 1048576 < l
  · have d1 : decide ((1048576 : Int) < (l : Int)) = true := decide_eq_true (by omega)
    clear h h2
    go_enter Tryz.func3, Tryz.ntmps3
    go_wp2_with fail
    go_ret
    exact ⟨rfl, Below.refl _ _⟩
  have d1 : decide ((1048576 : Int) < (l : Int)) = false := decide_eq_false (by omega)
  by_cases hb2 : 1048576 < l2
  · have d2 : decide ((1048576 : Int) < (l2 : Int)) = true := decide_eq_true (by omega)
    clear h h2
    go_enter Tryz.func3, Tryz.ntmps3
    go_wp2_with fail
    go_ret
    exact ⟨rfl, Below.refl _ _⟩
  have d2 : decide ((1048576 : Int) < (l2 : Int)) = false := decide_eq_false (by omega)
  have HD : Hid (Calls Tryz.prog 4 #[.slice a l c] w fun e w' => (∃ s : ByteArray, e = .returned (.string s) ∧ s.size ≤ 10000) ∧ Below w.heap.size w w') := Dr.dDrawCalRead a l c bs w h
  have HD2 : Hid (∀ W, Below w.heap.size w W → Calls Tryz.prog 9 #[.slice a2 l2 c2] W fun e w' => (∃ (rs : List Rul) (av : Option Addr) (cv : Nat), e = .returned (.slice av rs.length cv) ∧ IsRuls w' av rs.length cv rs) ∧ Below W.heap.size W w') := fun W hb => Dr.dDrawCalWrite a2 l2 c2 bs2 W (h2.below hb)
  have HE : Hid (∀ W, Below w.heap.size w W → ErrT W) := fun W hb => hE.below hb
  have HT : Hid (∀ W, Below w.heap.size w W → Tab W) := fun W hb => hT.below hb
  have HR : Hid (∀ s W, Below w.heap.size w W → Calls Tryz.prog 5 #[.string s] W fun e w' => Cal.ReadsCal s W e w') := fun s W hb => Cal.implCalRead s W (hS.below hb) (hT.below hb) (hE.below hb)
  have HSR : Hid (∀ s W, s.size ≤ 16777216 → Calls Tryz.prog 6 #[.string s] W fun e w' => Cal.SpecCal s W e w') := fun s W hs => Cal.specCalRead s W hs
  have HW : Hid (∀ av cv rs W, IsRuls W av rs.length cv rs → Below w.heap.size w W → Calls Tryz.prog 8 #[.slice av rs.length cv] W fun e w' => e = .returned (.string (calW rs)) ∧ Below W.heap.size W w') := fun av cv rs W hr hb => implCalWrite av rs.length cv rs W hr (hE.below hb) (hT.below hb)
  have HQ : Hid (∀ x y cx cy rs W, IsRuls W x rs.length cx rs → IsRuls W y rs.length cy rs → Calls Tryz.prog 7 #[.slice x rs.length cx, .slice y rs.length cy] W fun e w' => e = .returned (.bool true) ∧ Below W.heap.size W w') := fun x y cx cy rs W h1 h2 => Wc.wcRules x y rs.length cx cy rs W h1 h2
  clear h h2 hE hS hT
  go_enter Tryz.func3, Tryz.ntmps3
  go_wp2_with fail
  refine Calls.mono HD.out ?_
  rintro e w1 ⟨⟨s, rfl, hs⟩, hbw⟩
  have B1 : Hid (Below w.heap.size w w1) := hbw
  clear hbw HD
  obtain ⟨ok, es, hf⟩ := Cal.fact_any s
  have FA : Hid (Cal.Fact s ok es) := hf
  have CW : Hid (ok = true → calW es = s) := fun h => by
    have hc := hf.1 h
    unfold calW
    rw [if_pos hc.1]; exact hc.2.1
  clear hf
  go_wp2_with fail
  refine (HR.out s _ B1.out).mono ?_
  rintro e w2 hrd
  obtain ⟨ar, cr, rfl, hru, hb2'⟩ := Cal.impl_fact hrd FA.out
  have RU : Hid (∀ W, Below w2.heap.size w2 W → IsRuls W ar es.length cr es) := fun W hb => hru.below hb
  have B2 : Hid (Below w.heap.size w w2) := bcall B1.out B1.out.size hb2'
  clear hrd hru hb2' B1
  go_wp2_with fail
  refine (HSR.out s _ (by omega)).mono ?_
  rintro e w3 hrd
  obtain ⟨aq, cq, rfl, hrs, hb3⟩ := Cal.spec_fact hrd FA.out
  have X3 : Hid (Below w2.heap.size w2 w3) := hb3
  have B3 : Hid (Below w.heap.size w w3) := bcall B2.out B2.out.size hb3
  have RS : Hid (IsRuls w3 aq es.length cq es) := hrs
  clear hrd hrs hb3
  go_upto_region 6 with fail
  go_cut [51] (fun c wx => c = .bool false ∧ Below w.heap.size w wx)
  case first =>
    go_wp2_with fail
    refine (HQ.out _ _ _ _ es _ (RU.out _ X3.out) RS.out).mono ?_
    rintro e w4 ⟨rfl, hb4⟩
    have X4 : Hid (Below w2.heap.size w2 w4) := bcall X3.out X3.out.size hb4
    have B4 : Hid (Below w.heap.size w w4) := bcall B3.out B3.out.size hb4
    clear hb4 X3 B3 RS
    cases ok
    · go_wp2_with fail
      go_meet
      case rel => exact ⟨by first | rfl | trivial, B4.out⟩
    · go_wp2_with fail
      refine (HW.out _ _ es _ (RU.out _ X4.out) B4.out).mono ?_
      rintro e w5 ⟨rfl, hb5⟩
      have B5 : Hid (Below w.heap.size w w5) := bcall B4.out B4.out.size hb5
      clear hb5
      rw [CW.out (by first | rfl | trivial)]
      go_wp2_with fail
      go_meet
      case rel => exact ⟨by first | trivial | simp, B5.out⟩
  case rest =>
    obtain ⟨rfl, hB⟩ := hcut
    rename World => wc
    have B5 : Hid (Below w.heap.size w wc) := hB
    clear hB X3 B3 RS RU CW FA B2
    go_wp2_with fail
    refine (HD2.out _ B5.out).mono ?_
    rintro e w6 ⟨⟨ds, ad, cd, rfl, hdr⟩, hb6⟩
    have RD : Hid (∀ W, Below w6.heap.size w6 W → IsRuls W ad ds.length cd ds) := fun W hb => hdr.below hb
    have B6 : Hid (Below w.heap.size w w6) := bcall B5.out B5.out.size hb6
    clear hdr hb6 B5 HD2
    go_wp2_with fail
    refine (HW.out _ _ ds _ (RD.out _ (Below.refl _ _)) B6.out).mono ?_
    rintro e w7 ⟨rfl, hb7⟩
    have X7 : Hid (Below w6.heap.size w6 w7) := hb7
    have B7 : Hid (Below w.heap.size w w7) := bcall B6.out B6.out.size hb7
    clear hb7
    obtain ⟨oo, e2, hfd, hoo, he2⟩ : ∃ (oo : Bool) (e2 : List Rul), Cal.Fact (calW ds) oo e2 ∧ calOk ds = oo ∧ (oo = true → e2 = ds) := ⟨calOk ds, _, Cal.fact_write ds, rfl, fun h => if_pos h⟩
    have FD : Hid (Cal.Fact (calW ds) oo e2) := hfd
    have E2 : Hid (oo = true → e2 = ds) := he2
    clear hfd he2
    have SW : Hid (∀ W, Below w6.heap.size w6 W → Calls Tryz.prog 10 #[.slice ad ds.length cd] W fun e w' => e = .returned (.string (calW ds)) ∧ Below W.heap.size W w') := fun W hb => specCalWrite ad ds.length cd ds W (RD.out W hb)
    have SO : Hid (∀ W, Below w6.heap.size w6 W → Calls Tryz.prog 11 #[.slice ad ds.length cd] W fun e w' => e = .returned (.bool oo) ∧ Below W.heap.size W w') := fun W hb => hoo ▸ specCalOk ad ds.length cd ds W (RD.out W hb)
    have IO : Hid (∀ W, Below w6.heap.size w6 W → Calls Tryz.prog 12 #[.slice ad ds.length cd] W fun e w' => e = .returned (.bool oo) ∧ Below W.heap.size W w') := fun W hb => hoo ▸ implCalOk ad ds.length cd ds W (RD.out W hb) (HE.out W (bcall B6.out B6.out.size hb))
    clear hoo
    obtain ⟨u, hu⟩ : ∃ u, Hid (u = calW ds) := ⟨_, rfl⟩
    rw [← hu.out] at FD SW ⊢
    go_wp2_with fail
    refine (HR.out u _ B7.out).mono ?_
    rintro e w8 hrd
    obtain ⟨ab, cb, rfl, hrb, hb8⟩ := Cal.impl_fact hrd FD.out
    have RB : Hid (∀ W, Below w8.heap.size w8 W → IsRuls W ab e2.length cb e2) := fun W hb => hrb.below hb
    have X8 : Hid (Below w6.heap.size w6 w8) := bcall X7.out X7.out.size hb8
    have B8 : Hid (Below w.heap.size w w8) := bcall B7.out B7.out.size hb8
    clear hrd hrb hb8 X7 B7 FD HR HSR HW
    go_wp2_with fail
    refine (SW.out _ X8.out).mono ?_
    rintro e w9 ⟨rfl, hb9⟩
    have Y9 : Hid (Below w8.heap.size w8 w9) := hb9
    have X9 : Hid (Below w6.heap.size w6 w9) := bcall X8.out X8.out.size hb9
    have B9 : Hid (Below w.heap.size w w9) := bcall B8.out B8.out.size hb9
    clear hb9 X8 B8 SW
    go_wp2_with fail
    refine (SO.out _ X9.out).mono ?_
    rintro e x1 ⟨rfl, hc1⟩
    have Y1 : Hid (Below w8.heap.size w8 x1) := bcall Y9.out Y9.out.size hc1
    have X1 : Hid (Below w6.heap.size w6 x1) := bcall X9.out X9.out.size hc1
    have C1 : Hid (Below w.heap.size w x1) := bcall B9.out B9.out.size hc1
    clear hc1 X9 B9 Y9
    cases oo
    · go_wp2_with fail
      refine (IO.out _ X1.out).mono ?_
      rintro e x2 ⟨rfl, hc2⟩
      have X2 : Hid (Below w6.heap.size w6 x2) := bcall X1.out X1.out.size hc2
      have C2 : Hid (Below w.heap.size w x2) := bcall C1.out C1.out.size hc2
      clear hc2
      go_wp2_with fail
      refine (SO.out _ X2.out).mono ?_
      rintro e x3 ⟨rfl, hc3⟩
      have C3 : Hid (Below w.heap.size w x3) := bcall C2.out C2.out.size hc3
      clear hc3
      go_wp2_with fail
      go_ret
      exact ⟨rfl, C3.out⟩
    · obtain rfl := E2.out (by first | rfl | trivial)
      go_wp2_with fail
      refine (HQ.out _ _ _ _ _ _ (RB.out _ Y1.out) (RD.out _ X1.out)).mono ?_
      rintro e x2 ⟨rfl, hc2⟩
      have X2 : Hid (Below w6.heap.size w6 x2) := bcall X1.out X1.out.size hc2
      have C2 : Hid (Below w.heap.size w x2) := bcall C1.out C1.out.size hc2
      clear hc2
      go_wp2_with fail
      refine (IO.out _ X2.out).mono ?_
      rintro e x3 ⟨rfl, hc3⟩
      have X3 : Hid (Below w6.heap.size w6 x3) := bcall X2.out X2.out.size hc3
      have C3 : Hid (Below w.heap.size w x3) := bcall C2.out C2.out.size hc3
      clear hc3
      go_wp2_with fail
      refine (SO.out _ X3.out).mono ?_
      rintro e x4 ⟨rfl, hc4⟩
      have C4 : Hid (Below w.heap.size w x4) := bcall C3.out C3.out.size hc4
      clear hc4
      go_wp2_with fail
      go_ret
      exact ⟨rfl, C4.out⟩
end Go.Proofs.YtkemfifkjaclhaaGreatDoor

namespace Go.Proofs.YtkemfifkjaclhaaGreatDoor
set_option linter.unusedVariables false
set_option linter.unusedSimpArgs false
open Go.ChangeShapes Go.WideShapes Go.ChangeAt Go.RowKit Go.Joins Go Go.Deep

theorem own : ownKnob Tryz.prog.godebug = none := by kernel_rfl
theorem laidOut : laidOutB Tryz.prog = true := by kernel_rfl

theorem isBytes_of {H : Type} {enc : TypeId × Value → H} {W : World} {base : Nat} {spare : Nat → Bool} {held : Bool} {n : Nat} {a : Option Addr} {l c : Nat} {y : DataW H × List MemPlace} (hf : DataW.trod enc Tryz.prog W base spare held n 22 [.slice a l c] = some y) : ∃ zs, IsRow .u8 W a l c zs := by
  rcases open_ints Tryz.underlying22 Tryz.underlying5 (by kernel_rfl) hf with ⟨hcs, _⟩ | ⟨x, l', c', zs, hcs, _, hl, hm, hz, hy, hcell, hwz⟩
  · simp at hcs
    obtain ⟨rfl, rfl, rfl⟩ := hcs
    exact ⟨[], rfl, Nat.le_refl _, by unfold maxLen; omega, fun h => by omega, fun n hn => by cases hn⟩
  · simp at hcs
    obtain ⟨rfl, rfl, rfl⟩ := hcs
    have hzl : l ≤ zs.length := by rw [hz]; split <;> omega
    refine ⟨zs.take l, by simp; omega, hl, hm, fun h => ?_, fun n hn => hwz n (List.mem_of_mem_take hn)⟩
    obtain ⟨b, off, spot⟩ := x
    have h0 := hcell 0 (by omega)
    have hspot : spot = none := by simpa [Addr.add] using World.cell?_spot h0
    subst hspot
    refine ⟨b, off, rfl, ?_, fun i hi => ?_⟩
    · exact World.block_lt_of_cell? W _ h0
    · have := hcell i (by omega)
      rw [List.getD_eq_getElem?_getD, List.getElem?_take, if_pos hi, ← List.getD_eq_getElem?_getD]
      have e : (⟨b, off, none⟩ : Addr).add i = ⟨b, off + i, none⟩ := by simp only [Addr.add]; split <;> simp_all
      rw [e] at this; exact this
end Go.Proofs.YtkemfifkjaclhaaGreatDoor
