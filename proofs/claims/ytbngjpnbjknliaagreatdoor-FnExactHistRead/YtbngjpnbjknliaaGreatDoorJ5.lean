/- Plain: the words of an entry's text, read back. -/
import Derived.Test.YtbngjpnbjknliaaGreatDoorJ4
import Derived.Test.YtbngjpnbjknliaaGreatDoorJ1
namespace Go.Proofs.YtbngjpnbjknliaaGreatDoor
set_option linter.unusedVariables false
set_option linter.unusedSimpArgs false
open Go.RowKit

def negOk (d : List UInt8) : Bool := numBody d && !decide (d = [48])
theorem negOk_f {d : List UInt8} (h : numBody d = false) : negOk d = false := by simp [negOk, h]
theorem negOk_t {d : List UInt8} (h : numBody d = true) (g : decide (d = [48]) = false) : negOk d = true := by simp only [negOk, h, g]; rfl

set_option maxHeartbeats 1000000 in
theorem l1Num_neg (s d : ByteArray) (w : World) (hs : s.size ≤ maxLen) (h1s : 1 < s.size) (h2s : ((s[0].toNat : Int) == 45) = true) (HX : Hid (d = s.extract 1 s.size)) (HY : Hid (s.size - 1 = d.size)) :
    Calls Tryz.prog 20 #[.string s] w fun e w' => (∃ n, e = .returned (.tuple #[.int .i64 n, .bool (negOk d.data.toList)]) ∧ (negOk d.data.toList = true → n = - digVal 0 d.data.toList)) ∧ w' = w := by
  unfold maxLen at hs
  have hy := HY.out
  have hds : d.size ≤ 9223372036854775807 := by omega
  clear hy
  by_cases hl : 1 ≤ d.size ∧ d.size ≤ 4
  · obtain ⟨hl1, hl2⟩ := hl
    have d0 : 0 < d.size := by omega
    by_cases hz : 1 < d.size ∧ d[0] = 48
    · obtain ⟨hz1, hz2⟩ := hz
      have HF : Hid (numBody d.data.toList = false) := numBody_zero (by simpa using hz1) (by rw [head_at d d0, hz2])
      have hz3 : ((d[0].toNat : Int) == 48) = true := by rw [show (48 : Int) = ((48 : Nat) : Int) from rfl, byte_eq (by decide)]; simpa using hz2
      clear hz2
      go_enter Tryz.func20, Tryz.ntmps20
      go_wp2_with fail
      rw [← HX.out, HY.out]
      refine (l1In_t _ _ _ _ (by omega) (by omega)).mono ?_
      rintro e w' ⟨rfl, rfl⟩
      go_wp2_with fail
      go_ret2
      exact ⟨⟨_, by rw [negOk_f HF.out]; rfl, fun h => by rw [negOk_f HF.out] at h; cases h⟩, rfl⟩
    · have hz' : ∀ h : 1 < d.size, ((d[0].toNat : Int) == 48) = false := fun h => by
        rw [show (48 : Int) = ((48 : Nat) : Int) from rfl, byte_eq (by decide)]
        simpa using fun e => hz ⟨h, e⟩
      have HZ : Hid (¬ (1 < d.data.toList.length ∧ d.data.toList.head? = some 48)) := fun h => hz ⟨by simpa using h.1, by have := h.2; rw [head_at d d0] at this; simpa using this⟩
      clear hz
      by_cases h1 : 1 < d.size
      · have hz2 := hz' h1
        have hq : (d.toList == [48]) = false := by rw [ByteArray.toList_eq, beq_eq_false_iff_ne]; intro h; have := congrArg List.length h; simp at this; omega
        have HQ : Hid (decide (d.data.toList = [48]) = false) := by rw [ByteArray.toList_eq] at hq; exact decide_eq_false (beq_eq_false_iff_ne.1 hq)
        clear hz'
        go_enter Tryz.func20, Tryz.ntmps20
        go_wp2_with fail
        rw [← HX.out, HY.out]
        refine (l1In_t _ _ _ _ (by omega) (by omega)).mono ?_
        rintro e w' ⟨rfl, rfl⟩
        go_wp2_with fail
        go_loop [6, 7] (fun n i => ∃ k : Nat, k ≤ d.size ∧ i = .int .i64 k ∧ n = .int .i64 (digVal 0 (d.data.toList.take k)) ∧ ∀ j (hj : j < d.size), j < k → isDig d[j] = true) (fun _ i => d.size - (intOf i).toNat)
        case atStart => exact ⟨0, Nat.zero_le _, rfl, rfl, fun j hj h => by omega⟩
        case round =>
          obtain ⟨k, hk, rfl, rfl, ha⟩ := hrel
          have HA : Hid (∀ j (hj : j < d.size), j < k → isDig d[j] = true) := ha
          obtain ⟨b0, b1⟩ := dig_bd hk hl2 ha
          clear ha
          by_cases hlt : k < d.size
          · by_cases hd : isDig d[k] = true
            · have HD : Hid (isDig d[k] = true) := hd
              obtain ⟨c1, c2⟩ := isDig_bd hd
              have c1 : (48 : Int) ≤ (d[k].toNat : Int) := by omega
              have c2 : (d[k].toNat : Int) ≤ 57 := by omega
              clear hd
              go_wp2
              go_round
              case rel => exact ⟨k + 1, by omega, by go_num, dig_val hlt HD.out b0 b1, dig_step hlt HA.out HD.out⟩
              case measure => simp [intOf]; omega
            · have hd0 : isDig d[k] = false := by simpa using hd
              have HF : Hid (numBody d.data.toList = false) := numBody_at (k := k) (by simpa using hlt) (by rw [bget d k hlt]; exact hd0)
              rcases digNot hd0 with c1 | c1
              · clear hd hd0
                go_wp2
                go_ret2
                exact ⟨⟨_, by rw [negOk_f HF.out]; rfl, fun h => by rw [negOk_f HF.out] at h; cases h⟩, rfl⟩
              · have c2 : ¬ ((d[k].toNat : Int) < 48) := by omega
                clear hd hd0
                go_wp2
                go_ret2
                exact ⟨⟨_, by rw [negOk_f HF.out]; rfl, fun h => by rw [negOk_f HF.out] at h; cases h⟩, rfl⟩
          · have hke : d.data.toList.take k = d.data.toList := List.take_of_length_le (by simp; omega)
            have HF : Hid (numBody d.data.toList = true) := numBody_good (by simpa using hl1) (by simpa using hl2) HZ.out (fun i hi => by rw [bget d i (by simpa using hi)]; exact HA.out i _ (by simp at hi; omega))
            rw [hke] at b0 b1
            rw [hke]
            clear hke
            go_wp2
            go_ret2
            exact ⟨⟨_, by rw [negOk_t HF.out HQ.out]; rfl, fun _ => rfl⟩, rfl⟩

      · clear hz'
        by_cases hq : d.data.toList = [48]
        · have HF : Hid (negOk d.data.toList = false) := by rw [hq]; rfl
          have hq' : (d.toList == [48]) = true := by rw [ByteArray.toList_eq]; simpa using hq
          clear hq
          go_enter Tryz.func20, Tryz.ntmps20
          go_wp2_with fail
          rw [← HX.out, HY.out]
          refine (l1In_t _ _ _ _ (by omega) (by omega)).mono ?_
          rintro e w' ⟨rfl, rfl⟩
          go_wp2_with fail
          go_ret2
          exact ⟨⟨_, by rw [HF.out]; rfl, fun h => by rw [HF.out] at h; cases h⟩, rfl⟩
        · have HQ : Hid (decide (d.data.toList = [48]) = false) := decide_eq_false hq
          have hq' : (d.toList == [48]) = false := by rw [ByteArray.toList_eq]; simpa using hq
          clear hq
          go_enter Tryz.func20, Tryz.ntmps20
          go_wp2_with fail
          rw [← HX.out, HY.out]
          refine (l1In_t _ _ _ _ (by omega) (by omega)).mono ?_
          rintro e w' ⟨rfl, rfl⟩
          go_wp2_with fail
          go_loop [6, 7] (fun n i => ∃ k : Nat, k ≤ d.size ∧ i = .int .i64 k ∧ n = .int .i64 (digVal 0 (d.data.toList.take k)) ∧ ∀ j (hj : j < d.size), j < k → isDig d[j] = true) (fun _ i => d.size - (intOf i).toNat)
          case atStart => exact ⟨0, Nat.zero_le _, rfl, rfl, fun j hj h => by omega⟩
          case round =>
            obtain ⟨k, hk, rfl, rfl, ha⟩ := hrel
            have HA : Hid (∀ j (hj : j < d.size), j < k → isDig d[j] = true) := ha
            obtain ⟨b0, b1⟩ := dig_bd hk hl2 ha
            clear ha
            by_cases hlt : k < d.size
            · by_cases hd : isDig d[k] = true
              · have HD : Hid (isDig d[k] = true) := hd
                obtain ⟨c1, c2⟩ := isDig_bd hd
                have c1 : (48 : Int) ≤ (d[k].toNat : Int) := by omega
                have c2 : (d[k].toNat : Int) ≤ 57 := by omega
                clear hd
                go_wp2
                go_round
                case rel => exact ⟨k + 1, by omega, by go_num, dig_val hlt HD.out b0 b1, dig_step hlt HA.out HD.out⟩
                case measure => simp [intOf]; omega
              · have hd0 : isDig d[k] = false := by simpa using hd
                have HF : Hid (numBody d.data.toList = false) := numBody_at (k := k) (by simpa using hlt) (by rw [bget d k hlt]; exact hd0)
                rcases digNot hd0 with c1 | c1
                · clear hd hd0
                  go_wp2
                  go_ret2
                  exact ⟨⟨_, by rw [negOk_f HF.out]; rfl, fun h => by rw [negOk_f HF.out] at h; cases h⟩, rfl⟩
                · have c2 : ¬ ((d[k].toNat : Int) < 48) := by omega
                  clear hd hd0
                  go_wp2
                  go_ret2
                  exact ⟨⟨_, by rw [negOk_f HF.out]; rfl, fun h => by rw [negOk_f HF.out] at h; cases h⟩, rfl⟩
            · have hke : d.data.toList.take k = d.data.toList := List.take_of_length_le (by simp; omega)
              have HF : Hid (numBody d.data.toList = true) := numBody_good (by simpa using hl1) (by simpa using hl2) HZ.out (fun i hi => by rw [bget d i (by simpa using hi)]; exact HA.out i _ (by simp at hi; omega))
              rw [hke] at b0 b1
              rw [hke]
              clear hke
              go_wp2
              go_ret2
              exact ⟨⟨_, by rw [negOk_t HF.out HQ.out]; rfl, fun _ => rfl⟩, rfl⟩

  · have HF : Hid (numBody d.data.toList = false) := numBody_len (by simpa using hl)
    have hl' : (d.size : Int) < 1 ∨ (4 : Int) < (d.size : Int) := by omega
    clear hl
    go_enter Tryz.func20, Tryz.ntmps20
    go_wp2_with fail
    rw [← HX.out, HY.out]
    refine (l1In_f _ _ _ _ (by omega)).mono ?_
    rintro e w' ⟨rfl, rfl⟩
    go_wp2_with fail
    go_ret2
    exact ⟨⟨_, by rw [negOk_f HF.out]; rfl, fun h => by rw [negOk_f HF.out] at h; cases h⟩, rfl⟩

theorem extract1 (s : ByteArray) (h : 1 ≤ s.size) : (s.extract 1 s.size).data.toList = s.data.toList.tail ∧ s.size - 1 = (s.extract 1 s.size).size := by
  constructor
  · rw [ByteArray.data_extract, Array.toList_extract]; simp [List.extract]; rw [List.take_of_length_le (by simp)]
  · simp
theorem l1Num (s : ByteArray) (w : World) (hs : s.size ≤ maxLen) :
    Calls Tryz.prog 20 #[.string s] w fun e w' => (∃ n, e = .returned (.tuple #[.int .i64 n, .bool (numOk s.data.toList)]) ∧ (numOk s.data.toList = true → n = numVal s.data.toList)) ∧ w' = w := by
  cases hn : numNeg s.data.toList
  · refine (l1Num_pos s w hs hn).mono ?_
    rintro e w' ⟨⟨n, rfl, h⟩, rfl⟩
    have e1 : numOk s.data.toList = numBody s.data.toList := by simp [numOk, hn]
    exact ⟨⟨n, by rw [e1], fun g => by rw [e1] at g; rw [h g]; simp [numVal, hn]⟩, rfl⟩
  · have hn' := hn
    simp only [numNeg, Bool.and_eq_true, decide_eq_true_eq] at hn'
    obtain ⟨h1, h2⟩ := hn'
    have h1' : 1 < s.size := by simpa using h1
    rw [head_at s (by omega)] at h2
    obtain ⟨x1, x2⟩ := extract1 s (by omega)
    refine (l1Num_neg s (s.extract 1 s.size) w hs h1' (by rw [show (45 : Int) = ((45 : Nat) : Int) from rfl, byte_eq (by decide)]; simpa using h2) rfl x2).mono ?_
    rintro e w' ⟨⟨n, rfl, h⟩, rfl⟩
    rw [x1] at h
    rw [x1]
    have e1 : numOk s.data.toList = negOk s.data.toList.tail := by simp [numOk, hn, negOk]
    exact ⟨⟨n, by rw [e1], fun g => by rw [e1] at g; rw [h g]; simp [numVal, hn]⟩, rfl⟩
end Go.Proofs.YtbngjpnbjknliaaGreatDoor

namespace Go.Proofs.YtbngjpnbjknliaaGreatDoor
set_option linter.unusedVariables false
set_option linter.unusedSimpArgs false
open Go.RowKit

/-- The slice v, of n elements of 'size' cells, gathers xs: it is empty without room, or owns a row among the blocks from F on. -/
def Acc (w : World) (F : Nat) (e : TypeId) (size : Nat) (v : Value) (n : Nat) (xs : List Value) : Prop :=
  (n = 0 ∧ xs = [] ∧ ∃ a, v = .slice a 0 0 ∧ ∀ x, a = some x → x.spot = none ∧ x.block < w.heap.size) ∨ w.ownsRow F e size v n xs

theorem Acc.nil (w : World) (F : Nat) (e : TypeId) (size : Nat) : Acc w F e size (.slice none 0 0) 0 [] := .inl ⟨rfl, rfl, none, rfl, fun _ h => by cases h⟩
theorem Acc.empty {w : World} (F : Nat) (e : TypeId) (size : Nat) {b off : Nat} (h : b < w.heap.size) : Acc w F e size (.slice (some ⟨b, off, none⟩) 0 0) 0 [] := .inl ⟨rfl, rfl, _, rfl, fun x h' => by cases h'; exact ⟨rfl, h⟩⟩
theorem Acc.below {w w' : World} {F : Nat} {e : TypeId} {size : Nat} {v : Value} {n : Nat} {xs : List Value} (h : Acc w F e size v n xs) (hb : Below w.heap.size w w') : Acc w' F e size v n xs := by
  rcases h with ⟨rfl, rfl, a, rfl, h⟩ | h
  · exact .inl ⟨rfl, rfl, a, rfl, fun x hx => ⟨(h x hx).1, Nat.lt_of_lt_of_le (h x hx).2 hb.size⟩⟩
  · exact .inr (own_below h hb)
theorem Acc.alloc {w : World} {F : Nat} {e : TypeId} {size : Nat} {v : Value} {n : Nat} {xs : List Value} (h : Acc w F e size v n xs) (o : Obj) : Acc (w.alloc o) F e size v n xs := h.below ((Below.refl _ _).alloc (Nat.le_refl _) _)
theorem Acc.row {w : World} {F : Nat} {e : TypeId} {v : Value} {n : Nat} {xs : List Value} (h : Acc w F e 1 v n xs) : Row w v xs := by
  rcases h with ⟨rfl, rfl, a, rfl, h⟩ | h
  · cases a with
    | none => exact Row.nil w
    | some x =>
      obtain ⟨b, off, spot⟩ := x
      obtain ⟨hs, hb⟩ := h _ rfl
      simp only at hs hb
      subst hs
      exact .inr ⟨b, off, 0, rfl, Nat.le_refl _, Nat.zero_le _, hb, fun i x hx => by simp at hx⟩
  · exact Row.owned h

theorem append_empty {P : Program} (w : World) (t ty e : TypeId) (i : TypeInfo) (z : Value) (ht : P.underlying t = some (.slice e)) (hi : P.info? e = some i) (hz : i.zero = some z)
    (b : Option Addr) (a : Addr) (m c : Nat) (news : List Value) (hl : news.length = m * i.size) (hnews : ∀ j v, news[j]? = some v → w.cell? (a.add j) = some v)
    (h0 : 0 < m) (h63 : (m : Int) ≤ 9223372036854775807) (h48 : m * i.bytes ≤ 140737488355328) :
    (Builtin.append_ #[t, t] ty #[.slice b 0 0, .slice (some a) m c]).run P w = (Builtin.append_ #[t, t] ty #[.slice none 0 0, .slice (some a) m c]).run P w := by
  cases b with
  | none => rfl
  | some b =>
    rw [run_append_nil w t ty e i z ht hi hz a m c news hl hnews h0 h63 (by omega)]
    have := run_append_grow w t ty e i z ht hi hz b 0 0 [] (by simp) (by simp) a m c news hl hnews (by omega) (by simpa using h63) (growslice_fits (by omega) (by rw [Nat.zero_add]; exact h48))
    simpa using this

theorem run_acc {P : Program} (w : World) (F : Nat) (t ty e : TypeId) (i : TypeInfo) (z : Value) (size bytes : Nat) (ht : P.underlying t = some (.slice e)) (hi : P.info? e = some i) (hz : i.zero = some z)
    (hsize : i.size = size) (hby : i.bytes = bytes) (hzs : z.cells.size = size) (hsz : 0 < size)
    (v : Value) (n : Nat) (xs : List Value) (hacc : Acc w F e size v n xs)
    (a : Addr) (m c : Nat) (news : List Value) (hm : 0 < m) (hl : news.length = m * size) (hnews : ∀ j u, news[j]? = some u → w.cell? (a.add j) = some u) (h1 : ∀ u ∈ news, u.oneCell' = true)
    (h63 : n + m ≤ maxLen) (hbytes : (n + m) * bytes ≤ 140737488355328) (hF : F ≤ w.heap.size) :
    ∃ v' w', (Builtin.append_ #[t, t] ty #[v, .slice (some a) m c]).run P w = .ok v' w' ∧ w'.ownsRow F e size v' (n + m) (xs ++ news) ∧ Below F w w' := by
  rcases hacc with ⟨rfl, rfl, b, rfl, _⟩ | hown
  · have h63' : (m : Int) ≤ 9223372036854775807 := by unfold maxLen at h63; omega
    rw [append_empty w t ty e i z ht hi hz b a m c news (by rw [hsize]; exact hl) hnews hm h63' (by rw [hby]; simpa using hbytes)]
    obtain ⟨v', w', hr, h2, h3, _⟩ := run_append_own (P := P) w F t ty e i z size bytes ht hi hz hsize hby hzs hsz (.slice none 0 0) 0 [] (World.ownsRow_nil _ _ _ _) a m c news hl hnews h1 h63 hbytes hF
    exact ⟨v', w', hr, h2, (Below.refl F w).grown h3 hF (fun k hk => by cases hk)⟩
  · obtain ⟨v', w', hr, h2, h3, _⟩ := run_append_own (P := P) w F t ty e i z size bytes ht hi hz hsize hby hzs hsz v n xs hown a m c news hl hnews h1 h63 hbytes hF
    exact ⟨v', w', hr, h2, (Below.refl F w).grown h3 hF (fun k hk => (hown.lt k hk).1)⟩

theorem wp_acc {P : Program} {w : World} {ops : Array Oper} {rest : List Oper} {o : Oper} {a : Act} {Q : Exit → Act → World → Prop} (hgd : o.guard = none) (s x : Operand) (t : TypeId)
    (ho : o.op = .call { callee := .builtin .append, args := #[s, x], argTypes := #[t, t] })
    (F : Nat) (e : TypeId) (z : Value) (size bytes : Nat) (ht : P.underlying t = some (.slice e)) (hinfo : (P.info? e).map (fun i => (i.zero, i.size, i.bytes)) = some (some z, size, bytes))
    (hzs : z.cells.size = size) (hsz : 0 < size)
    (v : Value) (n : Nat) (xs : List Value) (hs : a.eval s = v) (hacc : Acc w F e size v n xs)
    (ad : Addr) (m c : Nat) (news : List Value) (hx : a.eval x = .slice (some ad) m c) (hm : 0 < m) (hl : news.length = m * size) (hnews : ∀ j u, news[j]? = some u → w.cell? (ad.add j) = some u) (h1 : ∀ u ∈ news, u.oneCell' = true)
    (h63 : n + m ≤ maxLen) (hbytes : (n + m) * bytes ≤ 140737488355328) (hF : F ≤ w.heap.size)
    (h : ∀ v' w', Acc w' F e size v' (n + m) (xs ++ news) → Below F w w' → wpList P ops Q rest (a.put o.dst v') w') : wpList P ops Q (o :: rest) a w := by
  obtain ⟨i, hi, hzz⟩ := Option.map_eq_some_iff.1 hinfo
  simp only [Prod.mk.injEq] at hzz
  obtain ⟨hz, hsize, hby⟩ := hzz
  refine wpList_plain hgd fun K hK => ?_
  obtain ⟨v', w', hr, h2, h3⟩ := run_acc (P := P) w F t o.type e i z size bytes ht hi hz hsize hby hzs hsz v n xs hacc ad m c news hm hl hnews h1 h63 hbytes hF
  unfold Oper.wp execOp
  simp only [ho, resolve, invoke, builtin, Sem.run_bind, Sem.run_pure, Result.andThen_ok, List.map_toArray, List.map_cons, List.map_nil, hs, hx, hr]
  exact hK _ _ (h v' w' (.inr h2) h3)

theorem Tryz.infoS : (Tryz.prog.info? 9).map (fun i => (i.zero, i.size, i.bytes)) = some (some (.string ByteArray.empty), 1, 16) := by kernel_rfl
theorem Tryz.infoI : (Tryz.prog.info? 3).map (fun i => (i.zero, i.size, i.bytes)) = some (some (.int .i64 0), 1, 8) := by kernel_rfl

/-- One string is appended. -/
theorem wp_acc_str {w : World} {ops : Array Oper} {rest : List Oper} {o : Oper} {a : Act} {Q : Exit → Act → World → Prop} (hgd : o.guard = none) (s x : Operand)
    (ho : o.op = .call { callee := .builtin .append, args := #[s, x], argTypes := #[28, 28] })
    (F : Nat) (v : Value) (n : Nat) (xs : List ByteArray) (hs : a.eval s = v) (hacc : Acc w F 9 1 v n (sv xs))
    (ad : Addr) (c : Nat) (str : ByteArray) (hx : a.eval x = .slice (some ad) 1 c) (hc : w.cell? ad = some (.string str))
    (hn : n ≤ 1099511627776) (hF : F ≤ w.heap.size)
    (h : ∀ v' w', Acc w' F 9 1 v' (n + 1) (sv (xs ++ [str])) → Below F w w' → wpList Tryz.prog ops Q rest (a.put o.dst v') w') : wpList Tryz.prog ops Q (o :: rest) a w := by
  refine wp_acc hgd s x 28 ho F 9 _ 1 16 Tryz.underlying28 Tryz.infoS rfl (by decide) v n (sv xs) hs hacc ad 1 c [.string str] hx (by decide) rfl ?_ ?_ (by unfold maxLen; omega) (by omega) hF ?_
  · intro j u hj
    match j, hj with
    | 0, hj => simp at hj; subst hj; simpa [Addr.add] using hc
  · intro u hu; simp at hu; subst hu; rfl
  · intro v' w' h1 h2
    exact h v' w' (by rw [sv_app]; exact h1) h2
end Go.Proofs.YtbngjpnbjknliaaGreatDoor

namespace Go.Proofs.YtbngjpnbjknliaaGreatDoor
set_option linter.unusedVariables false
set_option linter.unusedSimpArgs false

def cutL (c : UInt8) : List UInt8 → List (List UInt8)
  | [] => [[]]
  | x :: l => if x = c then [] :: cutL c l else match cutL c l with
    | h :: t => (x :: h) :: t
    | [] => [[x]]
def wordsL (l : List UInt8) : List (List UInt8) := (cutL 32 l).filter (fun x => !x.isEmpty)

theorem cutL_ne (c : UInt8) (l : List UInt8) : cutL c l ≠ [] := by
  cases l with
  | nil => simp [cutL]
  | cons x l => simp only [cutL]; split <;> (try split) <;> simp
theorem cutL_none (c : UInt8) : ∀ (l : List UInt8), (∀ x ∈ l, x ≠ c) → cutL c l = [l] := by
  intro l
  induction l with
  | nil => intro _; rfl
  | cons x l ih =>
    intro h
    rw [cutL, if_neg (h x (by simp)), ih (fun y hy => h y (by simp [hy]))]
theorem cutL_piece (c : UInt8) : ∀ (a b : List UInt8), (∀ x ∈ a, x ≠ c) → cutL c (a ++ c :: b) = a :: cutL c b := by
  intro a
  induction a with
  | nil => intro b _; simp [cutL]
  | cons x a ih =>
    intro b h
    rw [List.cons_append, cutL, if_neg (h x (by simp)), ih b (fun y hy => h y (by simp [hy]))]
/-- The piece from 'from' on up to k, and what is left behind it. -/
theorem cutL_step (c : UInt8) (l : List UInt8) (fr k : Nat) (hk : k < l.length) (hf : fr ≤ k) (hc : l[k] = c) (hn : ∀ j (hj : j < l.length), fr ≤ j → j < k → l[j] ≠ c) :
    cutL c (l.drop fr) = (l.drop fr).take (k - fr) :: cutL c (l.drop (k + 1)) := by
  have e : l.drop fr = (l.drop fr).take (k - fr) ++ c :: l.drop (k + 1) := by
    conv => lhs; rw [← List.take_append_drop (k - fr) (l.drop fr)]
    congr 1
    rw [List.drop_drop, show fr + (k - fr) = k from by omega, List.drop_eq_getElem_cons hk, hc]
  conv => lhs; rw [e]
  refine cutL_piece c _ _ ?_
  intro x hx
  obtain ⟨i, hi, rfl⟩ := List.mem_iff_getElem.1 hx
  rw [List.getElem_take, List.getElem_drop]
  simp at hi
  exact hn _ _ (by omega) (by omega)
theorem cutL_last (c : UInt8) (l : List UInt8) (fr : Nat) (hn : ∀ j (hj : j < l.length), fr ≤ j → l[j] ≠ c) : cutL c (l.drop fr) = [l.drop fr] := by
  refine cutL_none c _ ?_
  intro x hx
  obtain ⟨i, hi, rfl⟩ := List.mem_iff_getElem.1 hx
  rw [List.getElem_drop]
  exact hn _ _ (by omega)
end Go.Proofs.YtbngjpnbjknliaaGreatDoor

namespace Go.Proofs.YtbngjpnbjknliaaGreatDoor
set_option linter.unusedVariables false
set_option linter.unusedSimpArgs false
open Go.RowKit

/-- The bytes of strings. -/
def bys (ss : List ByteArray) : List (List UInt8) := ss.map (fun s => s.data.toList)

/-- What l1Cut's loop keeps. -/
structure CutRel (s : ByteArray) (c : UInt8) (w wr : World) (v : Value) (fr k : Nat) (ps : List ByteArray) : Prop where
  hk : k ≤ s.size
  hf : fr ≤ k
  hn : ps.length ≤ k
  own : Acc wr w.heap.size 9 1 v ps.length (sv ps)
  cut : cutL c s.data.toList = bys ps ++ cutL c (s.data.toList.drop fr)
  no : ∀ j (hj : j < s.size), fr ≤ j → j < k → s[j] ≠ c
  bel : Below w.heap.size w wr

theorem ext_data (s : ByteArray) (a b : Nat) : (s.extract a b).data.toList = (s.data.toList.drop a).take (b - a) := by
  rw [ByteArray.data_extract, Array.toList_extract]
theorem bys_app (a b : List ByteArray) : bys (a ++ b) = bys a ++ bys b := by simp [bys]
theorem CutRel.start (s : ByteArray) (c : UInt8) (w : World) : CutRel s c w (w.alloc (.cells #[] 9)) (.slice (some ⟨w.heap.size, 0, none⟩) 0 0) 0 0 [] :=
  ⟨Nat.zero_le _, Nat.zero_le _, Nat.zero_le _, Acc.empty _ _ _ (by simp), by simp [bys], fun j _ _ h => by omega, (Below.refl _ _).alloc (Nat.le_refl _) _⟩
theorem CutRel.on {s : ByteArray} {c : UInt8} {w wr : World} {v : Value} {fr k : Nat} {ps : List ByteArray} (h : CutRel s c w wr v fr k ps) (hk : k < s.size) (hc : s[k] ≠ c) : CutRel s c w wr v fr (k + 1) ps :=
  ⟨hk, Nat.le_succ_of_le h.hf, Nat.le_succ_of_le h.hn, h.own, h.cut, fun j hj h1 h2 => by
    by_cases e : j = k
    · subst e; exact hc
    · exact h.no j hj h1 (by omega), h.bel⟩
theorem CutRel.cutAt {s : ByteArray} {c : UInt8} {w wr w1 : World} {v v1 : Value} {fr k : Nat} {ps : List ByteArray} (h : CutRel s c w wr v fr k ps) (hk : k < s.size) (hc : s[k] = c)
    (o : Obj) (hown : Acc w1 w.heap.size 9 1 v1 (ps.length + 1) (sv (ps ++ [s.extract fr k]))) (hg : Below w.heap.size (wr.alloc o) w1) : CutRel s c w w1 v1 (k + 1) (k + 1) (ps ++ [s.extract fr k]) := by
  have hst := cutL_step c s.data.toList fr k (by simpa using hk) h.hf (by rw [bget s k hk]; exact hc) (fun j hj h1 h2 => by rw [bget s j (by simpa using hj)]; exact h.no j _ h1 h2)
  refine ⟨hk, Nat.le_refl _, by have := h.hn; simp; omega, by simpa using hown, ?_, fun j _ h1 h2 => by omega, ?_⟩
  · rw [h.cut, hst, bys_app, List.append_assoc]
    congr 1
    simp [bys, ext_data]
  · have hb : Below w.heap.size w (wr.alloc o) := h.bel.alloc h.bel.size _
    exact hb.trans hg
theorem byte_same {a b : UInt8} : ((a.toNat : Int) == (b.toNat : Int)) = decide (a = b) := by
  rw [Bool.eq_iff_iff, beq_iff_eq, decide_eq_true_eq]
  constructor
  · intro h; exact UInt8.toNat_inj.1 (by omega)
  · rintro rfl; rfl

set_option maxHeartbeats 1000000 in
theorem l1Cut (s : ByteArray) (c : UInt8) (w : World) (hs : s.size ≤ 16777216) :
    Calls Tryz.prog 9 #[.string s, .int .u8 c.toNat] w fun e w' => ∃ v ps, e = .returned v ∧ bys ps = cutL c s.data.toList ∧ Row w' v (sv ps) ∧ Below w.heap.size w w' := by
  go_enter Tryz.func9, Tryz.ntmps9
  go_wp2
  go_loopw [5, 6, 7] (fun v f i wr => ∃ (fr k : Nat) (ps : List ByteArray), f = .int .i64 fr ∧ i = .int .i64 k ∧ CutRel s c w wr v fr k ps) (fun _ _ i _ => s.size - (intOf i).toNat)
  case atStart => exact ⟨0, 0, [], rfl, rfl, CutRel.start s c w⟩
  case round =>
    obtain ⟨fr, k, ps, rfl, rfl, hR⟩ := hrel
    have hk := hR.hk
    have hf := hR.hf
    have hn := hR.hn
    have hz := hR.bel.size
    by_cases hlt : k < s.size
    · by_cases hc : s[k] = c
      · have hc' : ((s[k].toNat : Int) == (c.toNat : Int)) = true := by rw [byte_same]; simpa using hc
        have HC : Hid (s[k] = c) := hc
        clear hc
        go_wp2_with (at_builtin; refine wp_acc_str rfl _ _ rfl w.heap.size _ ps.length ps rfl (hR.own.alloc _) ⟨wr.heap.size, 0, none⟩ 1 (s.extract fr k) rfl ?c1 ?c2 ?c3 ?_)
        case c1 => simp
        case c2 => omega
        case c3 => simp; omega
        intro v1 w1 hown hg
        go_wp2
        go_roundw
        case rel => exact ⟨k + 1, k + 1, ps ++ [s.extract fr k], by go_num, by go_num, hR.cutAt hlt HC.out _ hown hg⟩
        case measure => simp [intOf]; omega
      · have hc' : ((s[k].toNat : Int) == (c.toNat : Int)) = false := by rw [byte_same]; simpa using hc
        have HC : Hid (s[k] ≠ c) := hc
        clear hc
        go_wp2
        go_roundw
        case rel => exact ⟨fr, k + 1, ps, rfl, by go_num, hR.on hlt HC.out⟩
        case measure => simp [intOf]; omega
    · have hke : k = s.size := by omega
      have HL : Hid (bys (ps ++ [s.extract fr s.size]) = cutL c s.data.toList) := by
        show bys (ps ++ [s.extract fr s.size]) = cutL c s.data.toList
        rw [hR.cut, bys_app, cutL_last c s.data.toList fr (fun j hj h => by rw [bget s j (by simpa using hj)]; exact hR.no j _ h (by simp at hj; omega))]
        simp [bys, ext_data]
        rw [List.take_of_length_le (by simp)]
      clear hke
      go_wp2_with (at_builtin; refine wp_acc_str rfl _ _ rfl w.heap.size _ ps.length ps rfl (hR.own.alloc _) ⟨wr.heap.size, 0, none⟩ 1 (s.extract fr s.size) rfl ?c1 ?c2 ?c3 ?_)
      case c1 => simp
      case c2 => omega
      case c3 => simp; omega
      intro v1 w1 hown hg
      go_wp2
      go_ret
      have hb : Below w.heap.size w (wr.alloc (.cells #[.string (s.extract fr s.size)] 9)) := hR.bel.alloc hz _
      exact ⟨v1, _, rfl, HL.out, hown.row, hb.trans hg⟩
end Go.Proofs.YtbngjpnbjknliaaGreatDoor

namespace Go.Proofs.YtbngjpnbjknliaaGreatDoor
set_option linter.unusedVariables false
set_option linter.unusedSimpArgs false
open Go

/-- Words with a space between. -/
def jl : List (List UInt8) → List UInt8
  | [] => []
  | [x] => x
  | x :: y :: t => x ++ 32 :: jl (y :: t)
theorem jl_glue (x y : List UInt8) (t : List (List UInt8)) : jl ((x ++ 32 :: y) :: t) = x ++ 32 :: jl (y :: t) := by
  cases t with
  | nil => rfl
  | cons z t => simp [jl]
theorem cut_jl : ∀ (ws : List (List UInt8)), ws ≠ [] → (∀ x ∈ ws, ∀ c ∈ x, c ≠ 32) → cutL 32 (jl ws) = ws := by
  intro ws
  induction ws with
  | nil => intro h; exact absurd rfl h
  | cons x ws ih =>
    intro _ h
    cases ws with
    | nil => exact cutL_none 32 x (h x (by simp))
    | cons y t =>
      show cutL 32 (x ++ 32 :: jl (y :: t)) = _
      rw [cutL_piece 32 x _ (h x (by simp)), ih (by simp) (fun z hz => h z (List.mem_cons_of_mem _ hz))]
theorem fold_jl : ∀ (xs : List ByteArray) (x : ByteArray), (xs.foldl (fun o e => o ++ spB ++ e) x).data.toList = jl (bys (x :: xs)) := by
  intro xs
  induction xs with
  | nil => intro x; rfl
  | cons y t ih =>
    intro x
    rw [List.foldl_cons, ih]
    have e : bys ((x ++ spB ++ y) :: t) = (x.data.toList ++ 32 :: y.data.toList) :: bys t := by simp [bys, spB]
    rw [e, jl_glue]
    rfl

theorem decDigits_dig (u : Nat) : ∀ c ∈ Lib.decDigits u, isDig c = true := by
  induction u using Nat.strongRecOn with
  | _ u ih =>
    have hd : ∀ v, v < 10 → isDig (UInt8.ofNat (48 + v)) = true := by decide
    rw [Lib.decDigits]
    split
    · rename_i h; intro c hc; simp only [List.mem_singleton] at hc; subst hc; exact hd u h
    · intro c hc
      rw [List.mem_append, List.mem_singleton] at hc
      rcases hc with hc | rfl
      · exact ih (u / 10) (by omega) c hc
      · exact hd _ (by omega)
theorem decDigits_val (u : Nat) : digVal 0 (Lib.decDigits u) = u := by
  induction u using Nat.strongRecOn with
  | _ u ih =>
    have hd : ∀ v : Nat, v < 10 → ((UInt8.ofNat (48 + v)).toNat : Int) - 48 = v := by decide
    rw [Lib.decDigits]
    split
    · rename_i h; show 0 * 10 + _ = _; rw [hd u h]; omega
    · rw [digVal_snoc, ih (u / 10) (by omega), hd _ (by omega)]; omega
theorem decDigits_len (u : Nat) : 1 ≤ (Lib.decDigits u).length := by
  rw [Lib.decDigits]; split <;> simp
theorem decDigits_len_le : ∀ (k u : Nat), u < 10 ^ (k + 1) → (Lib.decDigits u).length ≤ k + 1 := by
  intro k
  induction k with
  | zero => intro u h; rw [Lib.decDigits, dif_pos (by simpa using h)]; simp
  | succ k ih =>
    intro u h
    rw [Lib.decDigits]; split
    · simp
    · have := ih (u / 10) (by rw [Nat.pow_succ] at h; omega)
      simp; omega
theorem decDigits_head (u : Nat) (h : 1 ≤ u) : (Lib.decDigits u).head? ≠ some 48 := by
  induction u using Nat.strongRecOn with
  | _ u ih =>
    rw [Lib.decDigits]; split
    · rename_i h1
      have : ∀ v : Nat, v < 10 → 1 ≤ v → UInt8.ofNat (48 + v) ≠ 48 := by decide
      simpa using this u h1 h
    · rw [List.head?_append]
      have h2 := ih (u / 10) (by omega) (by omega)
      have h3 := decDigits_len (u / 10)
      cases hx : Lib.decDigits (u / 10) with
      | nil => rw [hx] at h3; simp at h3
      | cons c l => rw [hx] at h2; simpa using h2
theorem dec_body (u : Nat) (h : u ≤ 9999) : numBody (Lib.decDigits u) = true := by
  refine numBody_good (decDigits_len u) (decDigits_len_le 3 u (by omega)) ?_ (fun i hi => decDigits_dig u _ (List.getElem_mem hi))
  rintro ⟨h1, h2⟩
  by_cases hu : 1 ≤ u
  · exact decDigits_head u hu h2
  · have : u = 0 := by omega
    subst this
    rw [Lib.decDigits, dif_pos (by omega)] at h1; simp at h1
theorem dec_nonneg (u : Nat) : numNeg (Lib.decDigits u) = false := by
  unfold numNeg
  have : (Lib.decDigits u).head? ≠ some 45 := by
    have h := decDigits_dig u
    cases hx : Lib.decDigits u with
    | nil => simp
    | cons c l =>
      rw [hx] at h
      have := isDig_bd (h c (by simp))
      intro e
      simp only [List.head?_cons, Option.some.injEq] at e
      subst e
      simp at this
  simp [this]
theorem itoa_ok (n : Int) (h0 : -9999 ≤ n) (h1 : n ≤ 9999) : numOk (itoB n).data.toList = true ∧ numVal (itoB n).data.toList = n := by
  have e : (itoB n).data.toList = Lib.itoa n := by simp [itoB]
  rw [e]
  by_cases h : n < 0
  · obtain ⟨u, rfl⟩ : ∃ u : Nat, n = -(u : Int) := ⟨n.natAbs, by omega⟩
    have e2 : Lib.itoa (-(u : Int)) = 45 :: Lib.decDigits u := by unfold Lib.itoa; rw [if_pos h]; simp
    rw [e2]
    have hl := decDigits_len u
    have hneg : numNeg (45 :: Lib.decDigits u) = true := by simp [numNeg]; omega
    unfold numOk numVal
    rw [if_pos hneg, if_pos hneg]
    refine ⟨?_, ?_⟩
    · rw [List.tail_cons, dec_body u (by omega), Bool.true_and, Bool.not_eq_true', decide_eq_false_iff_not]
      intro e3
      have := decDigits_val u
      rw [e3] at this
      have : digVal 0 [48] = 0 := by decide
      omega
    · rw [List.tail_cons, decDigits_val]
  · obtain ⟨u, rfl⟩ : ∃ u : Nat, n = (u : Int) := ⟨n.toNat, by omega⟩
    have e2 : Lib.itoa (u : Int) = Lib.decDigits u := by unfold Lib.itoa; rw [if_neg h]; simp
    rw [e2]
    unfold numOk numVal
    rw [dec_nonneg]
    exact ⟨dec_body u (by omega), decDigits_val u⟩
theorem itoa_no (n : Int) : ∀ c ∈ (itoB n).data.toList, c ≠ 32 := by
  have e : (itoB n).data.toList = Lib.itoa n := by simp [itoB]
  rw [e]
  have hd : ∀ u, ∀ c ∈ Lib.decDigits u, c ≠ 32 := fun u c hc e => by
    subst e; have := isDig_bd (decDigits_dig u _ hc); simp at this
  unfold Lib.itoa
  split
  · intro c hc
    rcases List.mem_cons.1 hc with rfl | hc
    · decide
    · exact hd _ c hc
  · exact hd _
end Go.Proofs.YtbngjpnbjknliaaGreatDoor
