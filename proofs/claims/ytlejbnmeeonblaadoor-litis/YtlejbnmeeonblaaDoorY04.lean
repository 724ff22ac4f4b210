/- What a pattern's text is, as a whole, and what stands in all that it fits: plain mathematics. What the document asks of package lit. What the document's own functions (package winnowfanref1) answer: In, With, OfText, Others, Count. What the document's own functions answer: Count. What the document's own functions answer: Parts, EndOf. What the document's own functions answer: WholeOf. -/
import Derived.Test.YtlejbnmeeonblaaDoorY03
import Derived.Test.YtlejbnmeeonblaaDoorY02
import Derived.Test.YtlejbnmeeonblaaDoorY01
import Derived.Deep.LoopGhost
namespace Go.Proofs.YtlejbnmeeonblaaDoor
set_option linter.unusedSimpArgs false
set_option linter.unusedVariables false
set_option maxRecDepth 100000
open Go.RowKit
/-- The one byte of a class. -/
def C4.only (k : C4) : Option UInt8 := if ((List.range 256).filter k.has).length = 1 then ((List.range 256).filter k.has).head?.map (fun b => UInt8.ofNat b) else none
/-- The one text that a pattern fits. -/
def Rx.whl : Rx → Option (List UInt8)
  | .leaf n => if n.op = 1 then n.c.only.map (fun c => [c]) else if n.op = 2 then some [] else none
  | .one _ _ => none
  | .two n a b => if n.op = 3 then a.whl.bind (fun x => b.whl.map (fun y => x ++ y)) else none
/-- The longer one, the first if they are as long. -/
def longer (x y : List UInt8) : List UInt8 := if x.length < y.length then y else x
/-- What stands in all that a pattern fits. -/
def Rx.ned : Rx → List UInt8
  | .leaf n => ((Rx.leaf n).whl).getD []
  | .one n a => if n.op = 6 then a.ned else []
  | .two n a b => match (Rx.two n a b).whl with
    | some x => x
    | none => if n.op = 3 then longer a.ned b.ned else []
/-- The piece of a text from one place to another one. -/
def cut (s : List UInt8) (i j : Nat) : List UInt8 := (s.drop i).take (j - i)
theorem cut_len {s : List UInt8} {i j : Nat} (h : i ≤ j) (hj : j ≤ s.length) : (cut s i j).length = j - i := by
  unfold cut
  rw [List.length_take, List.length_drop]
  omega
theorem cut_trans {s : List UInt8} {i k j : Nat} (h1 : i ≤ k) (h2 : k ≤ j) : cut s i j = cut s i k ++ cut s k j := by
  unfold cut
  have e : j - i = (k - i) + (j - k) := by omega
  rw [e, List.take_add, List.drop_drop]
  congr 3
  omega
theorem cut_self (s : List UInt8) (i : Nat) : cut s i i = [] := by simp [cut]
theorem only_has {k : C4} {c : UInt8} (h : k.only = some c) (b : UInt8) : k.has b.toNat = true ↔ b = c := by
  unfold C4.only at h
  split at h
  · rename_i h1
    obtain ⟨x, hx⟩ : ∃ x, (List.range 256).filter k.has = [x] := List.length_eq_one_iff.1 h1
    rw [hx] at h
    simp at h
    have hm : ∀ y, y < 256 → (k.has y = true ↔ y = x) := by
      intro y hy
      have : y ∈ (List.range 256).filter k.has ↔ y = x := by rw [hx, List.mem_singleton]
      rw [List.mem_filter, List.mem_range] at this
      rw [← this]
      exact ⟨fun h => ⟨hy, h⟩, fun h => h.2⟩
    have hx256 : x < 256 := by
      have : x ∈ (List.range 256).filter k.has := by rw [hx]; simp
      rw [List.mem_filter, List.mem_range] at this
      exact this.1
    rw [hm b.toNat b.toNat_lt, ← h]
    constructor
    · intro e
      rw [← e]
      simp
    · intro e
      rw [e]
      simp
      omega
  · cases h
/-- What a pattern that has a whole fits is that one. -/
theorem whl_fit (s : List UInt8) : ∀ (t : Rx), t.Ok → (∀ n ∈ t.flat, 1 ≤ n.op ∧ n.op ≤ 9) → ∀ (x : List UInt8), t.whl = some x → ∀ i j, Fit s t i j ↔ (j = i + x.length ∧ j ≤ s.length ∧ cut s i j = x)
  | .leaf n, hk, ho, x, hx, i, j => by
    simp only [Rx.whl] at hx
    simp only [Fit]
    by_cases h1 : n.op = 1
    · rw [if_pos h1] at hx ⊢
      cases hc : n.c.only with
      | none => rw [hc] at hx; cases hx
      | some c =>
        rw [hc] at hx
        simp at hx
        subst hx
        constructor
        · rintro ⟨d, hd, hh, rfl⟩
          have hdc := (only_has hc d).1 hh
          subst hdc
          have hlt : i < s.length := by
            rcases Nat.lt_or_ge i s.length with h' | h'
            · exact h'
            · rw [List.getElem?_eq_none h'] at hd; cases hd
          refine ⟨by simp, by omega, ?_⟩
          unfold cut
          rw [List.drop_eq_getElem_cons hlt, show i + 1 - i = 1 from by omega]
          rw [List.getElem?_eq_getElem hlt] at hd
          simp [Option.some.inj hd]
        · rintro ⟨rfl, hj, he⟩
          simp at hj
          have hlt : i < s.length := by omega
          refine ⟨c, ?_, (only_has hc c).2 rfl, by simp⟩
          have h0 := congrArg (fun l => l[0]?) he
          simpa [cut, List.getElem?_take, List.getElem?_drop] using h0
    · rw [if_neg h1] at hx ⊢
      by_cases h2 : n.op = 2
      · rw [if_pos h2] at hx
        rw [if_neg (by omega), if_neg (by omega)]
        simp at hx
        subst hx
        constructor
        · rintro ⟨rfl, hi⟩
          exact ⟨by simp, hi, cut_self _ _⟩
        · rintro ⟨rfl, hj, _⟩
          exact ⟨by simp, by simpa using hj⟩
      · rw [if_neg h2] at hx; cases hx
  | .one n a, hk, ho, x, hx, i, j => by simp [Rx.whl] at hx
  | .two n a b, hk, ho, x, hx, i, j => by
    simp only [Rx.whl] at hx
    by_cases h3 : n.op = 3
    · rw [if_pos h3] at hx
      simp only [Fit, if_pos h3]
      cases hxa : a.whl with
      | none => rw [hxa] at hx; cases hx
      | some xa =>
        cases hxb : b.whl with
        | none => rw [hxa, hxb] at hx; cases hx
        | some xb =>
          rw [hxa, hxb] at hx
          simp at hx
          subst hx
          have fa := whl_fit s a hk.2.1 (fun m hm => ho m (by simp [Rx.flat, hm])) xa hxa
          have fb := whl_fit s b hk.2.2 (fun m hm => ho m (by simp [Rx.flat, hm])) xb hxb
          constructor
          · rintro ⟨k, h1, h2⟩
            obtain ⟨rfl, hk1, e1⟩ := (fa i k).1 h1
            obtain ⟨rfl, hk2, e2⟩ := (fb _ j).1 h2
            refine ⟨by simp; omega, hk2, ?_⟩
            rw [cut_trans (k := i + xa.length) (by omega) (by omega), e1, e2]
          · rintro ⟨rfl, hj, he⟩
            rw [List.length_append] at hj he
            have hc := cut_trans (s := s) (i := i) (k := i + xa.length) (j := i + (xa.length + xb.length)) (by omega) (by omega)
            rw [he] at hc
            have hl := cut_len (s := s) (i := i) (j := i + xa.length) (by omega) (by omega)
            obtain ⟨e1, e2⟩ := List.append_inj hc (by rw [hl]; omega)
            refine ⟨i + xa.length, (fa _ _).2 ⟨rfl, by omega, e1.symm⟩, (fb _ _).2 ⟨by simp; omega, by rw [List.length_append]; omega, ?_⟩⟩
            rw [List.length_append]
            exact e2.symm
    · rw [if_neg h3] at hx; cases hx
theorem longer_cases (x y : List UInt8) : longer x y = x ∨ longer x y = y := by unfold longer; split <;> simp
/-- What is needed stands in all that is fitted. -/
theorem ned_fit (s : List UInt8) : ∀ (t : Rx), t.Ok → (∀ n ∈ t.flat, 1 ≤ n.op ∧ n.op ≤ 9) → ∀ i j, Fit s t i j → ∃ p q, cut s i j = p ++ t.ned ++ q
  | .leaf n, hk, ho, i, j, hf => by
    unfold Rx.ned
    cases hx : (Rx.leaf n).whl with
    | none => exact ⟨[], cut s i j, by simp⟩
    | some x =>
      obtain ⟨_, _, e⟩ := (whl_fit s (.leaf n) hk ho x hx i j).1 hf
      exact ⟨[], [], by simp [e]⟩
  | .one n a, hk, ho, i, j, hf => by
    unfold Rx.ned
    by_cases h6 : n.op = 6
    · rw [if_pos h6]
      simp only [Fit] at hf
      rw [if_neg (by omega), if_pos h6] at hf
      obtain ⟨k, h1, h2⟩ := hf
      have hle : ∀ i j, Fit s a i j → i ≤ j ∧ j ≤ s.length := fit_le s a
      obtain ⟨p, q, e⟩ := ned_fit s a hk.2 (fun m hm => ho m (by simp [Rx.flat, hm])) i k h1
      refine ⟨p, q ++ cut s k j, ?_⟩
      rw [cut_trans (k := k) (hle i k h1).1 (Str.le hle h2).1, e]
      simp
    · rw [if_neg h6]
      exact ⟨[], cut s i j, by simp⟩
  | .two n a b, hk, ho, i, j, hf => by
    unfold Rx.ned
    cases hx : (Rx.two n a b).whl with
    | some x =>
      obtain ⟨_, _, e⟩ := (whl_fit s (.two n a b) hk ho x hx i j).1 hf
      exact ⟨[], [], by simp [e]⟩
    | none =>
      simp only
      by_cases h3 : n.op = 3
      · rw [if_pos h3]
        simp only [Fit, if_pos h3] at hf
        obtain ⟨k, h1, h2⟩ := hf
        rw [cut_trans (k := k) (fit_le s a i k h1).1 (fit_le s b k j h2).1]
        rcases longer_cases a.ned b.ned with e | e
        · rw [e]
          obtain ⟨p, q, e'⟩ := ned_fit s a hk.2.1 (fun m hm => ho m (by simp [Rx.flat, hm])) i k h1
          exact ⟨p, q ++ cut s k j, by rw [e']; simp⟩
        · rw [e]
          obtain ⟨p, q, e'⟩ := ned_fit s b hk.2.2 (fun m hm => ho m (by simp [Rx.flat, hm])) k j h2
          exact ⟨cut s i k ++ p, q, by rw [e']; simp⟩
      · rw [if_neg h3]
        exact ⟨[], cut s i j, by simp⟩
end Go.Proofs.YtlejbnmeeonblaaDoor
namespace Go.Proofs.YtlejbnmeeonblaaDoor
set_option linter.unusedSimpArgs false
set_option linter.unusedVariables false
set_option maxRecDepth 100000
open Go.RowKit
/-- What the document asks of lit.Needed (X: what the library's tables hold). -/
structure LitN (X : World → Prop) : Prop where
  bad : ∀ ns v w, NsIn w v ns → (∀ n ∈ ns, n.wf) → ¬ faultL ns = 0 → Calls Tryd.prog 10 #[v] w fun e w' => e = .returned (.tuple #[.string ⟨#[]⟩, errV (faultL ns)]) ∧ Below w.heap.size w w'
  need : ∀ (t : Rx) v w, X w → t.Ok → NsIn w v t.flat → (∀ n ∈ t.flat, n.wf) → faultL t.flat = 0 → Calls Tryd.prog 10 #[v] w fun e w' => e = .returned (.tuple #[.string ⟨t.ned.toArray⟩, .nilIface]) ∧ Below w.heap.size w w'
/-- Of lit.Whole. -/
structure LitW (X : World → Prop) : Prop where
  bad : ∀ ns v w, NsIn w v ns → (∀ n ∈ ns, n.wf) → ¬ faultL ns = 0 → Calls Tryd.prog 8 #[v] w fun e w' => e = .returned (.tuple #[.string ⟨#[]⟩, .bool false, errV (faultL ns)]) ∧ Below w.heap.size w w'
  whole : ∀ (t : Rx) v w, X w → t.Ok → NsIn w v t.flat → (∀ n ∈ t.flat, n.wf) → faultL t.flat = 0 → Calls Tryd.prog 8 #[v] w fun e w' => e = .returned (.tuple #[.string ⟨(t.whl.getD []).toArray⟩, .bool t.whl.isSome, .nilIface]) ∧ Below w.heap.size w w'
end Go.Proofs.YtlejbnmeeonblaaDoor
namespace Go.Proofs.YtlejbnmeeonblaaDoor
set_option linter.unusedSimpArgs false
set_option linter.unusedVariables false
open Go.RowKit

theorem half_step (m i : Nat) : ((m / 2 ^ i : Nat) : Int) / 2 = ((m / 2 ^ (i + 1) : Nat) : Int) := by
  rw [Nat.pow_succ, ← Nat.div_div_eq_div_mul]
  omega
theorem tb_mod (m j : Nat) : (((m / 2 ^ j : Nat) : Int) % 2 == 1) = m.testBit j := by
  rw [tb_eq]
  generalize m / 2 ^ j = z
  by_cases h : z % 2 = 1
  · rw [h]
    have : (z : Int) % 2 = 1 := by omega
    rw [this]; rfl
  · have : ¬ (z : Int) % 2 = 1 := by omega
    simp only [h, decide_false]
    rw [beq_eq_false_iff_ne]
    exact this

theorem wrap_half (z : Nat) (h : z < 18446744073709551616) : Value.int IntKind.u64 (IntKind.u64.wrap ((z : Int) / 2)) = Value.int IntKind.u64 ((z / 2 : Nat) : Int) := by
  have e : (z : Int) / 2 = ((z / 2 : Nat) : Int) := by omega
  rw [e, u64_small _ (by omega)]
theorem wrap_twice (z : Nat) (h : z * 2 < 18446744073709551616) : Value.int IntKind.u64 (IntKind.u64.wrap ((z : Int) * 2)) = Value.int IntKind.u64 ((z * 2 : Nat) : Int) := by
  have e : (z : Int) * 2 = ((z * 2 : Nat) : Int) := by omega
  rw [e, u64_small _ h]
set_option maxHeartbeats 400000 in
theorem in_walk (k : C4) (x : Int) (h0 : 0 ≤ x) (hb : x < 256) (m : Nat) (hm : k.w (x / 64).toNat = (m : Int)) (hml : m < 18446744073709551616) (w : World) :
    Calls Tryd.prog 16 #[k.v, .int .i64 x] w fun e w' => e = .returned (.bool (m.testBit (x % 64).toNat)) ∧ Below w.heap.size w w' := by
  have hw := k.get (x / 64).toNat (by omega)
  rw [hm] at hw
  have HL := (show Hid _ from hml)
  clear hm hml
  go_enter Tryd.func16, Tryd.ntmps16
  go_wp2
  go_loop [5, 6] (fun n i => ∃ j z : Nat, (j : Int) ≤ x % 64 ∧ Hid (z = m / 2 ^ j) ∧ i = .int .i64 j ∧ n = .int .u64 (z : Int)) (fun _ i => (x % 64).toNat - (intOf i).toNat)
  case atStart => exact ⟨0, m, by omega, by show m = m / 2 ^ 0; simp, rfl, rfl⟩
  case round =>
    obtain ⟨j, z, hj, HZ, rfl, rfl⟩ := hrel
    by_cases hlt : (j : Int) < x % 64
    · go_wp2
      go_round
      case rel =>
        have hz : z < 18446744073709551616 := by rw [HZ.out]; exact Nat.lt_of_le_of_lt (Nat.div_le_self _ _) HL.out
        exact ⟨j + 1, z / 2, by omega, by show _ = _; rw [HZ.out, Nat.pow_succ, ← Nat.div_div_eq_div_mul], by go_num, wrap_half z hz⟩
      case measure => simp [intOf]; omega
    · have hj2 : (x % 64).toNat = j := by omega
      have HJ := (show Hid _ from hj2)
      clear hj2
      go_wp2
      go_ret
      refine ⟨?_, (Below.refl _ _).alloc (Nat.le_refl _) _⟩
      show Ending.returned (.bool ((z : Int) % 2 == 1)) = _
      rw [HJ.out, ← tb_mod, ← HZ.out]
theorem in_any (k : C4) (hk : k.ok) (b : Nat) (hb : b < 256) (w : World) :
    Calls Tryd.prog 16 #[k.v, .int .i64 b] w fun e w' => e = .returned (.bool (k.has b)) ∧ Below w.heap.size w w' := by
  obtain ⟨m, hm, hl⟩ := okW_nat (C4.ok_w hk (b / 64))
  have e1 : ((b : Int) / 64).toNat = b / 64 := by omega
  have e2 : ((b : Int) % 64).toNat = b % 64 := by omega
  have h := in_walk k b (by omega) (by omega) m (by rw [e1]; exact hm) hl w
  rw [e2] at h
  have e3 : k.has b = m.testBit (b % 64) := by unfold C4.has; rw [hm, Int.toNat_natCast]
  rw [e3]
  exact h

/-! With: a byte more -/
theorem add_is_or (x j : Nat) (h : x.testBit j = false) : x + 2 ^ j = x ||| 2 ^ j := by
  have hb : x / 2 ^ j % 2 = 0 := by
    rw [tb_eq] at h
    have := of_decide_eq_false h
    omega
  have hp : 0 < 2 ^ j := Nat.two_pow_pos j
  have e1 : x = 2 ^ (j + 1) * (x / 2 ^ j / 2) + x % 2 ^ j := by
    have a1 := Nat.div_add_mod x (2 ^ j)
    have a2 : x / 2 ^ j = 2 * (x / 2 ^ j / 2) := by omega
    rw [Nat.pow_succ, Nat.mul_assoc]
    rw [a2] at a1
    omega
  have hlo : x % 2 ^ j < 2 ^ j := Nat.mod_lt _ hp
  generalize x % 2 ^ j = lo at *
  generalize x / 2 ^ j / 2 = A at *
  have j1 : 2 ^ (j + 1) * A ||| lo = 2 ^ (j + 1) * A + lo := nat_join j _ _ (by rw [Nat.pow_succ, Nat.mul_assoc, Nat.mul_mod_right]) hlo
  have j2 : 2 ^ (j + 1) * A ||| 2 ^ j = 2 ^ (j + 1) * A + 2 ^ j := nat_join (j + 1) _ _ (by rw [Nat.mul_mod_right]) (by rw [Nat.pow_succ]; omega)
  have j3 : (2 ^ (j + 1) * A + 2 ^ j) ||| lo = 2 ^ (j + 1) * A + 2 ^ j + lo := nat_join j _ _ (by rw [Nat.pow_succ, Nat.mul_assoc, ← Nat.mul_succ, Nat.mul_mod_right]) hlo
  rw [e1]
  rw [← j1, Nat.or_assoc, Nat.or_comm lo, ← Nat.or_assoc, j2, j3, j1]
  omega
theorem C4.put_add {k : C4} (hk : k.ok) (b : Nat) (hb : b < 256) (h : k.has b = false) : k.put ((b : Int) / 64).toNat (IntKind.u64.wrap (k.w ((b : Int) / 64).toNat + ((2 ^ ((b : Int) % 64).toNat : Nat) : Int))) = k.add (b : Int) := by
  have e1 : ((b : Int) / 64).toNat = b / 64 := by omega
  have e2 : ((b : Int) % 64).toNat = b % 64 := by omega
  unfold C4.add
  rw [e1, e2]
  obtain ⟨m, hm, hl⟩ := okW_nat (C4.ok_w hk (b / 64))
  have e3 : m.testBit (b % 64) = false := by
    unfold C4.has at h
    rwa [hm, Int.toNat_natCast] at h
  rw [hm]
  congr 1
  have h2 : 2 ^ (b % 64) < 2 ^ 64 := Nat.pow_lt_pow_right (by decide) (by omega)
  have ew : IntKind.u64.wrap (2 ^ (b % 64)) = ((2 ^ (b % 64) : Nat) : Int) := by
    have := u64_small (2 ^ (b % 64)) h2
    rw [Int.natCast_pow] at this
    rw [Int.natCast_pow]
    exact this
  have ho : m ||| 2 ^ (b % 64) < 2 ^ 64 := Nat.or_lt_two_pow hl h2
  rw [ew, u64_or_nat m _ hl h2, ← Int.natCast_add, add_is_or m _ e3]
  exact u64_small _ ho
theorem C4.add_same {k : C4} (hk : k.ok) (b : Nat) (hb : b < 256) (h : k.has b = true) : k.add (b : Int) = k := by
  apply C4.ext_has (C4.add_ok hk b) hk
  intro i hi
  rw [C4.has_add hk b i hb hi]
  by_cases e : b = i
  · subst e; rw [h]; rfl
  · simp [e]
end Go.Proofs.YtlejbnmeeonblaaDoor
namespace Go.Proofs.YtlejbnmeeonblaaDoor
set_option linter.unusedSimpArgs false
set_option linter.unusedVariables false
open Go.RowKit

set_option maxHeartbeats 1000000 in
theorem count_any (k : C4) (hk : k.ok) (w : World) :
    Calls Tryd.prog 14 #[k.v] w fun e w' => e = .returned (.int .i64 (cnt k.has 256)) ∧ Below w.heap.size w w' := by
  go_enter Tryd.func14, Tryd.ntmps14
  go_wp2
  go_loopw [3, 4] (fun u v wr => ∃ i c : Nat, i ≤ 256 ∧ c ≤ i ∧ Hid (c = cnt k.has i) ∧ v = .int .i64 i ∧ u = .int .i64 c ∧ Below w.heap.size w wr ∧ Hb wr w.heap.size k) (fun _ v _ => 256 - (intOf v).toNat)
  case atStart => exact ⟨0, 0, by omega, by omega, Eq.refl _, rfl, rfl, (Below.refl _ _).alloc (Nat.le_refl _) _, Hb.new _ k _ rfl⟩
  case round =>
    obtain ⟨i, c, hi, hc, HC, rfl, rfl, hB, hK⟩ := hrel
    obtain ⟨c0, c1, c2, c3, e0, e1, e2, e3⟩ := hK.all
    by_cases hlt : i < 256
    · have i1 : (i : Int) < 256 := by omega
      go_wp2_with fail
      refine (in_any k hk i hlt _).mono ?_
      rintro e w1 ⟨rfl, hb1⟩
      have hB1 := hB.trans (hb1.mono hB.size)
      have hK1 := hK.below hb1 hK.lt
      cases hn : k.has i
      · have HE : Hid (c = cnt k.has (i + 1)) := by show _ = _; rw [cnt, hn, HC.out]; rfl
        go_wp2
        exact ⟨⟨i + 1, c, by omega, by omega, HE, by go_num, by go_num, hB1, hK1⟩, by simp [intOf]; omega⟩
      · have HE : Hid (c + 1 = cnt k.has (i + 1)) := by show _ = _; rw [cnt, hn, HC.out]; rfl
        go_wp2
        exact ⟨⟨i + 1, c + 1, by omega, by omega, HE, by go_num, by go_num, hB1, hK1⟩, by simp [intOf]; omega⟩
    · have hi2 : i = 256 := by omega
      subst hi2
      go_wp2
      go_ret
      exact ⟨ret_int (by rw [HC.out]), hB⟩
end Go.Proofs.YtlejbnmeeonblaaDoor
namespace Go.Proofs.YtlejbnmeeonblaaDoor
set_option linter.unusedSimpArgs false
set_option linter.unusedVariables false
set_option maxRecDepth 100000
open Go.RowKit

set_option maxHeartbeats 400000 in
theorem parts_any (op : Int) (w : World) :
    Calls Tryd.prog 26 #[.int .i64 op] w fun e w' => e = .returned (.int .i64 (prt op)) ∧ w' = w := by
  by_cases h3 : op = 3
  · subst h3
    go_enter Tryd.func26, Tryd.ntmps26
    go_wp2
    go_ret
    exact ⟨rfl, rfl⟩
  · have b3 : (op == 3) = false := by simp [h3]
    by_cases h4 : op = 4
    · subst h4
      go_enter Tryd.func26, Tryd.ntmps26
      go_wp2
      go_ret
      exact ⟨rfl, rfl⟩
    · have b4 : (op == 4) = false := by simp [h4]
      by_cases h5 : op = 5
      · subst h5
        go_enter Tryd.func26, Tryd.ntmps26
        go_wp2
        go_ret
        exact ⟨rfl, rfl⟩
      · have b5 : (op == 5) = false := by simp [h5]
        by_cases h6 : op = 6
        · subst h6
          go_enter Tryd.func26, Tryd.ntmps26
          go_wp2
          go_ret
          exact ⟨rfl, rfl⟩
        · have b6 : (op == 6) = false := by simp [h6]
          by_cases h7 : op = 7
          · subst h7
            go_enter Tryd.func26, Tryd.ntmps26
            go_wp2
            go_ret
            exact ⟨rfl, rfl⟩
          · have b7 : (op == 7) = false := by simp [h7]
            have e0 : prt op = 0 := by unfold prt; simp [h3, h4, h5, h6, h7]
            rw [e0]
            clear h3 h4 h5 h6 h7 e0
            go_enter Tryd.func26, Tryd.ntmps26
            go_wp2
            go_ret
            exact ⟨rfl, rfl⟩
set_option maxHeartbeats 1000000 in
theorem endOf_walk (ns : List Nd) (b off cap f i : Nat) (hm : ns.length ≤ maxLen) (w : World) (hN : NsAt w b off ns)
    (ih : ∀ j, ns.length + 1 ≤ f + j → Calls Tryd.prog 15 #[.slice (some ⟨b, off, none⟩) ns.length cap, .int .i64 j] w fun e w' => e = .returned (.int .i64 (endI (endF ns f j))) ∧ w' = w)
    (hf : ns.length + 1 ≤ f + 1 + i) :
    Calls Tryd.prog 15 #[.slice (some ⟨b, off, none⟩) ns.length cap, .int .i64 i] w fun e w' => e = .returned (.int .i64 (endI (endF ns (f + 1) i))) ∧ w' = w := by
  have IH := (show Hid _ from ih)
  unfold maxLen at hm
  clear ih
  by_cases hi : i < ns.length
  · obtain ⟨n, hn⟩ : ∃ n, ns[i]? = some n := ⟨ns[i], List.getElem?_eq_getElem hi⟩
    obtain ⟨c0, _⟩ := hN i n hn
    have HF : Hid _ := endF_fin ns f i n hn
    have hp := prt_le n.op
    have i0 : (0 : Int) ≤ (i : Int) := by omega
    have i1 : (i : Int) < (ns.length : Int) := by omega
    have hd : decide (ns.length ≤ i) = false := by simp; omega
    clear hn
    go_enter Tryd.func15, Tryd.ntmps15
    go_wp2_with fail
    refine (parts_any _ _).mono ?_
    rintro e w1 ⟨rfl, rfl⟩
    generalize hpr : prt n.op = pr at *
    clear hpr
    go_wp2_with fail
    go_loop [1, 5] (fun v u => ∃ (m : Nat) (o : Option Nat), m ≤ 2 ∧ u = .int .i64 m ∧ v = .int .i64 (endI o) ∧ Hid (fin ns f m o = endF ns (f + 1) i) ∧ Hid (∀ j, o = some j → i < j ∧ j ≤ ns.length)) (fun _ u => (intOf u).toNat)
    case atStart => exact ⟨pr, some (i + 1), by omega, rfl, by go_num, HF.out.symm, fun j hj => by simp at hj; omega⟩
    case round =>
      obtain ⟨m, o, hm2, rfl, rfl, HX, HJ⟩ := hrel
      cases m with
      | zero =>
        go_wp2
        go_ret
        exact ⟨by rw [← HX.out]; rfl, rfl⟩
      | succ m =>
        have m0 : (0 : Int) < ((m + 1 : Nat) : Int) := by omega
        cases o with
        | none =>
          simp only [endI]
          go_wp2
          go_ret
          exact ⟨by rw [← HX.out, fin_none]; rfl, rfl⟩
        | some j =>
          have hj := HJ.out j rfl
          simp only [endI]
          go_wp2_with fail
          refine (IH.out j (by omega)).mono ?_
          rintro e w1 ⟨rfl, rfl⟩
          go_wp2
          refine ⟨⟨m, endF ns f j, by omega, by go_num, rfl, ?_, ?_⟩, by simp [intOf]⟩
          · rw [← HX.out]; exact (Eq.refl (fin ns f m (endF ns f j)))
          · intro k hk
            have := endF_gt ns f j k hk
            omega
  · have hd : decide (ns.length ≤ i) = true := by simp; omega
    have HF : Hid (endF ns (f + 1) i = none) := by
      show _ = _
      rw [endF, List.getElem?_eq_none (by omega)]
    go_enter Tryd.func15, Tryd.ntmps15
    go_wp2
    go_ret
    exact ⟨by rw [HF.out]; rfl, rfl⟩
set_option maxHeartbeats 1000000 in
theorem endOf_out (ns : List Nd) (a : Option Addr) (cap i : Nat) (hm : ns.length ≤ maxLen) (w : World) (hi : ns.length ≤ i) :
    Calls Tryd.prog 15 #[.slice a ns.length cap, .int .i64 i] w fun e w' => e = .returned (.int .i64 (-1)) ∧ w' = w := by
  unfold maxLen at hm
  have hd : decide (ns.length ≤ i) = true := by simp; omega
  go_enter Tryd.func15, Tryd.ntmps15
  go_wp2
  go_ret
  exact ⟨rfl, rfl⟩
theorem endOf_at (ns : List Nd) (b off cap : Nat) (hm : ns.length ≤ maxLen) (w : World) (hN : NsAt w b off ns) : ∀ (f i : Nat), ns.length + 1 ≤ f + i →
    Calls Tryd.prog 15 #[.slice (some ⟨b, off, none⟩) ns.length cap, .int .i64 i] w fun e w' => e = .returned (.int .i64 (endI (endF ns f i))) ∧ w' = w := by
  intro f
  induction f with
  | zero =>
    intro i h
    exact endOf_out ns _ cap i hm w (by omega)
  | succ f ih =>
    intro i h
    exact endOf_walk ns b off cap f i hm w hN ih (by omega)
theorem endOf_any (ns : List Nd) (v : Value) (i : Nat) (w : World) (hN : NsIn w v ns) :
    Calls Tryd.prog 15 #[v, .int .i64 i] w fun e w' => e = .returned (.int .i64 (endI (endE ns i))) ∧ w' = w := by
  obtain ⟨a, cap, rfl, hm, h | ⟨b, off, rfl, hlt, hn⟩⟩ := hN
  · subst h
    rw [endE_nil]
    exact endOf_out [] a cap i hm w (by simp)
  · exact endOf_at ns b off cap hm w hn (ns.length + 1) i (by omega)
end Go.Proofs.YtlejbnmeeonblaaDoor
namespace Go.Proofs.YtlejbnmeeonblaaDoor
set_option linter.unusedSimpArgs false
set_option linter.unusedVariables false
set_option maxRecDepth 100000
open Go.RowKit
theorem cnt_filter (p : Nat → Bool) : ∀ n, cnt p n = ((List.range n).filter p).length
  | 0 => rfl
  | n + 1 => by
    rw [cnt, cnt_filter p n, List.range_succ, List.filter_append, List.length_append]
    cases h : p n <;> simp [h]
theorem only_none {k : C4} (h : ¬ cnt k.has 256 = 1) : k.only = none := by
  unfold C4.only
  rw [if_neg (by rw [← cnt_filter]; exact h)]
theorem only_one {k : C4} (h : cnt k.has 256 = 1) {b : Nat} (hb : b < 256) (hh : k.has b = true) : k.only = some (UInt8.ofNat b) := by
  unfold C4.only
  rw [cnt_filter] at h
  rw [if_pos h]
  obtain ⟨x, hx⟩ : ∃ x, (List.range 256).filter k.has = [x] := List.length_eq_one_iff.1 h
  have : b ∈ (List.range 256).filter k.has := by rw [List.mem_filter, List.mem_range]; exact ⟨hb, hh⟩
  rw [hx, List.mem_singleton] at this
  rw [hx, this]
  rfl
theorem cnt_ex {p : Nat → Bool} (h : cnt p 256 = 1) : ∃ b, b < 256 ∧ p b = true := by
  rw [cnt_filter] at h
  obtain ⟨x, hx⟩ : ∃ x, (List.range 256).filter p = [x] := List.length_eq_one_iff.1 h
  have : x ∈ (List.range 256).filter p := by rw [hx]; simp
  rw [List.mem_filter, List.mem_range] at this
  exact ⟨x, this⟩
theorem conv_byte (n : Nat) (w : World) : (convert 50 9 (.slice (some ⟨w.heap.size, 0, none⟩) 1 1)).run Tryd.prog (w.alloc (.cells #[.int .u8 (n : Int)] 5)) = .ok (.string ⟨#[UInt8.ofNat n]⟩) (w.alloc (.cells #[.int .u8 (n : Int)] 5)) := by
  have h := run_convert_bytes_arg (P := Tryd.prog) (w.alloc (.cells #[.int .u8 (n : Int)] 5)) 50 5 Tryd.underlying50 Tryd.underlying5 w.heap.size 0 1 1 [(n : Int)] rfl (by
    intro i hi
    have : i = 0 := by omega
    subst this
    simp) 9 Tryd.underlying9
  rw [h]
  rfl
/-- What WholeOf answers of a tree. -/
def whV (t : Rx) : Value := .tuple #[.string ⟨(t.whl.getD []).toArray⟩, .bool t.whl.isSome]
/-- WholeOf answers of the part at i as the tree t says. -/
def WhOk (ns : List Nd) (b off cap : Nat) (t : Rx) (i : Nat) : Prop := ∀ w : World, b < w.heap.size → NsAt w b off ns →
  Calls Tryd.prog 6 #[.slice (some ⟨b, off, none⟩) ns.length cap, .int .i64 (i : Int)] w fun e w' => e = .returned (whV t) ∧ Below w.heap.size w w'
set_option maxHeartbeats 4000000 in
theorem wh_leaf (ns : List Nd) (hl : ns.length ≤ 60) (b off cap i : Nat) (n : Nd) (hn : ns[i]? = some n) (hi : i < ns.length) (hok : n.c.ok) (hop : n.op = 1 ∨ n.op = 2 ∨ n.op = 8 ∨ n.op = 9) : WhOk ns b off cap (.leaf n) i := by
  intro w hlt hN
  obtain ⟨c0, c1, c2, c3, c4⟩ := hN i n hn
  have i0 : (0 : Int) ≤ (i : Int) := by omega
  have i1 : (i : Int) < (ns.length : Int) := by omega
  rcases hop with hop | hop | hop | hop
  · rw [hop] at c0
    have HCN := hid (count_any n.c hok w)
    by_cases h1 : cnt n.c.has 256 = 1
    case neg =>
      have HV : Hid (whV (.leaf n) = .tuple #[.string ⟨#[]⟩, .bool false]) := by show _ = _; simp [whV, Rx.whl, hop, only_none h1]
      have g1 : (((cnt n.c.has 256 : Nat) : Int) != 1) = true := by rw [bne_iff_ne]; omega
      rw [HV.out]
      clear hN h1
      go_enter Tryd.func6, Tryd.ntmps6
      go_wp2_with fail
      refine Calls.mono HCN.out ?_
      rintro e w1 ⟨rfl, hb⟩
      have B := hid hb
      go_wp2
      go_ret2
      exact ⟨rfl, B.out⟩
    have g1 : (((cnt n.c.has 256 : Nat) : Int) != 1) = false := by rw [h1]; rfl
    have HN := hid hN
    have HN0 := hid hn
    have HC1 := hid h1
    have HIN : Hid (∀ (x : Nat) (w' : World), x < 256 → _) := fun x w' hx => in_any n.c hok x hx w'
    obtain ⟨y, hy, hyh⟩ := cnt_ex h1
    clear hN h1 hn
    go_enter Tryd.func6, Tryd.ntmps6
    go_wp2_with fail
    refine Calls.mono HCN.out ?_
    rintro e w1 ⟨rfl, hb⟩
    have B := hid hb
    clear hb HCN c0 c1 c2 c3 c4
    go_wp2_with fail
    go_loopg [6] (y + 1) (fun k v wz => ∃ x : Nat, v = .int .i64 (x : Int) ∧ x ≤ y ∧ k = y + 1 - x ∧ Hid (Below w.heap.size w wz))
    case atStart => exact ⟨0, rfl, by omega, rfl, B⟩
    case round =>
      clear B
      obtain ⟨x, rfl, hx, hgk, B⟩ := hrel
      obtain ⟨c0, c1, c2, c3, c4⟩ := (HN.out.below B.out hlt) i n HN0.out
      have HI := hid (HIN.out x wr (by omega))
      cases hh : n.c.has x
      · rw [hh] at HI
        have hne : x ≠ y := by intro e; rw [e, hyh] at hh; cases hh
        clear hh
        go_wp2_with fail
        refine Calls.mono HI.out ?_
        rintro e w2 ⟨rfl, hb⟩
        replace B := hid (B.out.trans (hb.mono B.out.size))
        clear hb
        go_wp2
        go_roundg (y + 1 - (x + 1))
        case measure => omega
        case rel => exact ⟨x + 1, by go_num, by omega, rfl, B⟩
      · rw [hh] at HI
        have HV : Hid (whV (.leaf n) = .tuple #[.string ⟨#[UInt8.ofNat x]⟩, .bool true]) := by show _ = _; simp [whV, Rx.whl, hop, only_one HC1.out (by omega) hh]
        clear hh
        go_wp2_with fail
        refine Calls.mono HI.out ?_
        rintro e w2 ⟨rfl, hb⟩
        replace B := hid (B.out.trans (hb.mono B.out.size))
        have hcv := conv_byte x w2
        have hx8 : IntKind.u8.wrap (x : Int) = (x : Int) := by
          have e : IntKind.u8.wrap (x : Int) = (x : Int) % 256 := rfl
          rw [e]
          omega
        have HB2 : Hid (∀ o, Below w.heap.size w (w2.alloc o)) := fun o => B.out.alloc B.out.size o
        clear hb
        go_wp2
        go_ret2
        exact ⟨by rw [HV.out]; rfl, HB2.out _⟩
  · have HV : Hid (whV (.leaf n) = .tuple #[.string ⟨#[]⟩, .bool true]) := by show _ = _; simp [whV, Rx.whl, hop]
    rw [hop] at c0
    rw [HV.out]
    clear hN
    go_enter Tryd.func6, Tryd.ntmps6
    go_wp2
    go_ret2
    exact ⟨rfl, Below.refl _ _⟩
  · have HV : Hid (whV (.leaf n) = .tuple #[.string ⟨#[]⟩, .bool false]) := by show _ = _; simp [whV, Rx.whl, hop]
    rw [hop] at c0
    rw [HV.out]
    clear hN
    go_enter Tryd.func6, Tryd.ntmps6
    go_wp2
    go_ret2
    exact ⟨rfl, Below.refl _ _⟩
  · have HV : Hid (whV (.leaf n) = .tuple #[.string ⟨#[]⟩, .bool false]) := by show _ = _; simp [whV, Rx.whl, hop]
    rw [hop] at c0
    rw [HV.out]
    clear hN
    go_enter Tryd.func6, Tryd.ntmps6
    go_wp2
    go_ret2
    exact ⟨rfl, Below.refl _ _⟩
theorem whl_len : ∀ (t : Rx) (x : List UInt8), t.whl = some x → x.length ≤ t.flat.length
  | .leaf n, x, h => by
    simp only [Rx.whl] at h
    split at h
    · cases hc : n.c.only with
      | none => rw [hc] at h; cases h
      | some c => rw [hc] at h; simp at h; subst h; simp [Rx.flat]
    · split at h
      · simp at h; subst h; simp
      · cases h
  | .one n a, x, h => by simp [Rx.whl] at h
  | .two n a b, x, h => by
    simp only [Rx.whl] at h
    split at h
    · cases ha : a.whl with
      | none => rw [ha] at h; cases h
      | some xa =>
        cases hb : b.whl with
        | none => rw [ha, hb] at h; cases h
        | some xb =>
          rw [ha, hb] at h
          simp at h
          subst h
          have h1 := whl_len a xa ha
          have h2 := whl_len b xb hb
          simp [Rx.flat]
          omega
    · cases h
set_option maxHeartbeats 4000000 in
theorem wh_none (ns : List Nd) (hl : ns.length ≤ 60) (b off cap i : Nat) (n : Nd) (t : Rx) (ht : t.whl = none) (hn : ns[i]? = some n) (hi : i < ns.length) (hop : n.op = 4 ∨ n.op = 5 ∨ n.op = 6 ∨ n.op = 7) : WhOk ns b off cap t i := by
  intro w hlt hN
  obtain ⟨c0, c1, c2, c3, c4⟩ := hN i n hn
  have i0 : (0 : Int) ≤ (i : Int) := by omega
  have i1 : (i : Int) < (ns.length : Int) := by omega
  have HV : Hid (whV t = .tuple #[.string ⟨#[]⟩, .bool false]) := by show _ = _; simp [whV, ht]
  have g1 : (n.op == 1) = false := by rw [beq_eq_false_iff_ne]; omega
  have g2 : (n.op == 2) = false := by rw [beq_eq_false_iff_ne]; omega
  have g3 : (n.op == 3) = false := by rw [beq_eq_false_iff_ne]; omega
  rw [HV.out]
  clear hN hop
  go_enter Tryd.func6, Tryd.ntmps6
  go_wp2
  go_ret2
  exact ⟨rfl, Below.refl _ _⟩
set_option maxHeartbeats 4000000 in
theorem wh_cat (ns : List Nd) (hl : ns.length ≤ 60) (b off cap i : Nat) (n : Nd) (x y : Rx) (hn : ns[i]? = some n) (hi : i < ns.length) (hop : n.op = 3) (he : endE ns (i + 1) = some (i + 1 + x.flat.length)) (hxl : x.flat.length ≤ 60) (hyl : y.flat.length ≤ 60) (hX : WhOk ns b off cap x (i + 1)) (hY : WhOk ns b off cap y (i + 1 + x.flat.length)) : WhOk ns b off cap (.two n x y) i := by
  intro w hlt hN
  obtain ⟨c0, c1, c2, c3, c4⟩ := hN i n hn
  have i0 : (0 : Int) ≤ (i : Int) := by omega
  have i1 : (i : Int) < (ns.length : Int) := by omega
  have hk : Hid ((i : Int) + 1 = ((i + 1 : Nat) : Int)) := by show _ = _; omega
  rw [hop] at c0
  have HX := hid (hX w hlt hN)
  have HEN : Hid (∀ w', Below w.heap.size w w' → _) := fun w' hb => endOf_any ns (.slice (some ⟨b, off, none⟩) ns.length cap) (i + 1) w' ⟨_, _, rfl, by unfold maxLen; omega, Or.inr ⟨b, off, rfl, Nat.lt_of_lt_of_le hlt hb.size, hN.below hb hlt⟩⟩
  rw [he, show endI (some (i + 1 + x.flat.length)) = ((i + 1 + x.flat.length : Nat) : Int) from rfl] at HEN
  have HY : Hid (∀ w', Below w.heap.size w w' → _) := fun w' hb => hY w' (Nat.lt_of_lt_of_le hlt hb.size) (hN.below hb hlt)
  have HVV : Hid (whV (.two n x y) = match x.whl, y.whl with | some p, some q => .tuple #[.string ⟨(p ++ q).toArray⟩, .bool true] | _, _ => .tuple #[.string ⟨#[]⟩, .bool false]) := by
    show _ = _
    simp only [whV, Rx.whl, if_pos hop]
    cases x.whl <;> cases y.whl <;> rfl
  have hwx := whl_len x
  have hwy := whl_len y
  clear hN hop he hX hY
  unfold whV at HX HY
  cases hx : x.whl with
  | none =>
    rw [hx] at HX HVV
    rw [HVV.out]
    cases hy : y.whl with
    | none =>
      rw [hy] at HY
      clear hwx hwy
      simp only [Option.getD_none, Option.getD_some, Option.isSome_none, Option.isSome_some] at HX HY
      go_enter Tryd.func6, Tryd.ntmps6
      go_wp2_with fail
      rw [hk.out]
      refine Calls.mono HX.out ?_
      rintro e w1 ⟨rfl, hb⟩
      have B := hid hb
      clear hb
      go_wp2_with fail
      rw [hk.out]
      refine Calls.mono (HEN.out _ B.out) ?_
      rintro e w2 ⟨rfl, rfl⟩
      go_wp2_with fail
      refine Calls.mono (HY.out _ B.out) ?_
      rintro e w3 ⟨rfl, hb⟩
      replace B := hid (B.out.trans (hb.mono B.out.size))
      clear hb
      go_wp2
      go_ret2
      exact ⟨rfl, B.out⟩
    | some q =>
      rw [hy] at HY
      clear hwx hwy
      simp only [Option.getD_none, Option.getD_some, Option.isSome_none, Option.isSome_some] at HX HY
      go_enter Tryd.func6, Tryd.ntmps6
      go_wp2_with fail
      rw [hk.out]
      refine Calls.mono HX.out ?_
      rintro e w1 ⟨rfl, hb⟩
      have B := hid hb
      clear hb
      go_wp2_with fail
      rw [hk.out]
      refine Calls.mono (HEN.out _ B.out) ?_
      rintro e w2 ⟨rfl, rfl⟩
      go_wp2_with fail
      refine Calls.mono (HY.out _ B.out) ?_
      rintro e w3 ⟨rfl, hb⟩
      replace B := hid (B.out.trans (hb.mono B.out.size))
      clear hb
      go_wp2
      go_ret2
      exact ⟨rfl, B.out⟩
  | some p =>
    rw [hx] at HX HVV
    have hpl := hwx p hx
    cases hy : y.whl with
    | none =>
      rw [hy] at HY HVV
      rw [HVV.out]
      clear hwx hwy
      simp only [Option.getD_none, Option.getD_some, Option.isSome_none, Option.isSome_some] at HX HY
      go_enter Tryd.func6, Tryd.ntmps6
      go_wp2_with fail
      rw [hk.out]
      refine Calls.mono HX.out ?_
      rintro e w1 ⟨rfl, hb⟩
      have B := hid hb
      clear hb
      go_wp2_with fail
      rw [hk.out]
      refine Calls.mono (HEN.out _ B.out) ?_
      rintro e w2 ⟨rfl, rfl⟩
      go_wp2_with fail
      refine Calls.mono (HY.out _ B.out) ?_
      rintro e w3 ⟨rfl, hb⟩
      replace B := hid (B.out.trans (hb.mono B.out.size))
      clear hb
      go_wp2
      go_ret2
      exact ⟨rfl, B.out⟩
    | some q =>
      rw [hy] at HY HVV
      have hql := hwy q hy
      have HV2 : Hid (whV (.two n x y) = .tuple #[.string ((⟨p.toArray⟩ : ByteArray) ++ ⟨q.toArray⟩), .bool true]) := by show _ = _; rw [HVV.out, cat_str]
      rw [HV2.out]
      have l1 : (⟨p.toArray⟩ : ByteArray).size ≤ 60 := by rw [size_str]; omega
      have l2 : (⟨q.toArray⟩ : ByteArray).size ≤ 60 := by rw [size_str]; omega
      clear hwx hwy
      simp only [Option.getD_none, Option.getD_some, Option.isSome_none, Option.isSome_some] at HX HY
      go_enter Tryd.func6, Tryd.ntmps6
      go_wp2_with fail
      rw [hk.out]
      refine Calls.mono HX.out ?_
      rintro e w1 ⟨rfl, hb⟩
      have B := hid hb
      clear hb
      go_wp2_with fail
      rw [hk.out]
      refine Calls.mono (HEN.out _ B.out) ?_
      rintro e w2 ⟨rfl, rfl⟩
      go_wp2_with fail
      refine Calls.mono (HY.out _ B.out) ?_
      rintro e w3 ⟨rfl, hb⟩
      replace B := hid (B.out.trans (hb.mono B.out.size))
      clear hb
      go_wp2
      go_ret2
      exact ⟨rfl, B.out⟩
theorem end_at (p q : List Nd) (n : Nd) (x y : Rx) (hx : x.Ok) (e : List Nd) (he : e = p ++ (Rx.two n x y).flat ++ q) : endE e (p.length + 1) = some (p.length + 1 + x.flat.length) := by
  have e1 : e = (p ++ [n]) ++ x.flat ++ (y.flat ++ q) := by rw [he]; simp [Rx.flat]
  have h := endF_flat x hx (p ++ [n]) (y.flat ++ q) (e.length + 1) (by rw [e1]; simp; omega)
  rw [← e1] at h
  unfold endE
  simpa using h
/-- WholeOf at every tree. -/
theorem wh_tree (b off cap : Nat) : ∀ (t : Rx), t.Ok → ∀ (p q : List Nd), (∀ n ∈ t.flat, (1 ≤ n.op ∧ n.op ≤ 9) ∧ n.c.ok) → (p ++ t.flat ++ q).length ≤ 60 → WhOk (p ++ t.flat ++ q) b off cap t p.length
  | .leaf n, h, p, q, ho, hl => by
    have h1 := ho n (by simp [Rx.flat])
    refine wh_leaf _ hl b off cap p.length n (by simp [Rx.flat]) (by simp [Rx.flat]) h1.2 ?_
    have h0 : prt n.op = 0 := h
    have h2 : ¬ prt n.op = 2 := by omega
    have h3 : ¬ prt n.op = 1 := by omega
    rw [prt_two] at h2
    rw [prt_one] at h3
    omega
  | .one n a, h, p, q, ho, hl => by
    have hop := (prt_one n.op).1 h.1
    exact wh_none _ hl b off cap p.length n _ rfl (by simp [Rx.flat]) (by simp [Rx.flat]) (by omega)
  | .two n x y, h, p, q, ho, hl => by
    have e1 : p ++ (Rx.two n x y).flat ++ q = (p ++ [n]) ++ x.flat ++ (y.flat ++ q) := by simp [Rx.flat]
    have e2 : p ++ (Rx.two n x y).flat ++ q = (p ++ [n] ++ x.flat) ++ y.flat ++ q := by simp [Rx.flat]
    rcases (prt_two n.op).1 h.1 with hop | hop
    · have ih1 := wh_tree b off cap x h.2.1 (p ++ [n]) (y.flat ++ q) (fun m hm => ho m (by simp [Rx.flat, hm])) (by rw [← e1]; exact hl)
      have ih2 := wh_tree b off cap y h.2.2 (p ++ [n] ++ x.flat) q (fun m hm => ho m (by simp [Rx.flat, hm])) (by rw [← e2]; exact hl)
      rw [← e1, show (p ++ [n]).length = p.length + 1 from by simp] at ih1
      rw [← e2, show (p ++ [n] ++ x.flat).length = p.length + 1 + x.flat.length from by simp; omega] at ih2
      have hb : x.flat.length ≤ 60 ∧ y.flat.length ≤ 60 := by
        rw [e1] at hl
        simp at hl
        omega
      exact wh_cat _ hl b off cap p.length n x y (by simp [Rx.flat]) (by simp [Rx.flat]) hop (end_at p q n x y h.2.1 _ rfl) hb.1 hb.2 ih1 ih2
    · exact wh_none _ hl b off cap p.length n _ (by simp [Rx.whl, hop]) (by simp [Rx.flat]) (by simp [Rx.flat]) (by omega)
end Go.Proofs.YtlejbnmeeonblaaDoor
