/- The laws' own patterns a+ and ab*, read and scanned. Plain mathematics. What winnowfansame.Hits answers. The law SetFilter, walked from what the document asks of package set. Scripts as arguments: opened. -/
import Derived.Test.YtcjghhedphmhkaaGreatDoorY07
import Derived.Test.YtcjghhedphmhkaaGreatDoorY08
import Derived.Test.YtcjghhedphmhkaaGreatDoorY20
import Derived.Test.YtcjghhedphmhkaaGreatDoorY33
import Derived.Test.YtcjghhedphmhkaaGreatDoorY02
import Derived.Lib.SmallJoins
import Derived.Deep.Strs
namespace Go.Proofs.YtcjghhedphmhkaaGreatDoor
set_option linter.unusedSimpArgs false
set_option linter.unusedVariables false
set_option maxRecDepth 100000
open Go.RowKit
/-- A letter's class. -/
def cB (b : Nat) : C4 := z4.add ((b : Nat) : Int)
theorem cB_has (b : Nat) (hb : b < 256) (i : Nat) (hi : i < 256) : (cB b).has i = decide (b = i) := by
  unfold cB
  rw [C4.has_add z4_ok b i hb hi]
  have : z4.has i = false := by
    have : ∀ k, k < 256 → z4.has k = false := by decide
    exact this i hi
  rw [this]
  rfl
abbrev tB (b : Nat) : Rx := .leaf ⟨1, cB b⟩
theorem fitB (s : List UInt8) (b : Nat) (hb : b < 256) (i j : Nat) : Fit s (tB b) i j ↔ s[i]? = some (UInt8.ofNat b) ∧ j = i + 1 := by
  simp only [Fit, if_true]
  constructor
  · rintro ⟨c, h1, h2, h3⟩
    rw [cB_has b hb c.toNat c.toNat_lt] at h2
    have e : b = c.toNat := by simpa using h2
    refine ⟨?_, h3⟩
    rw [h1, e]
    simp
  · rintro ⟨h1, h3⟩
    refine ⟨_, h1, ?_, h3⟩
    rw [cB_has b hb _ (UInt8.toNat_lt _)]
    simp only [decide_eq_true_eq]
    rw [UInt8.toNat_ofNat']
    omega
/-- a+ -/
abbrev tAp : Rx := .one ⟨6, z4⟩ (tB 97)
/-- ab* -/
abbrev tAbs : Rx := .two ⟨3, z4⟩ (tB 97) (.one ⟨5, z4⟩ (tB 98))
theorem base_a (l : List UInt8) : base (97 :: l) = .ok (⟨1, cB 97⟩, l) := by
  simp [base, rd1, signL, cB]
theorem base_b (l : List UInt8) : base (98 :: l) = .ok (⟨1, cB 98⟩, l) := by
  simp [base, rd1, signL, cB]
theorem read_ap : Whole [97, 43] (.ok tAp) := by
  have h1 : Atom [97, 43] (.ok (posts (.leaf ⟨1, cB 97⟩) [43])) := .ok _ _ _ (by simp) (base_a _)
  have h2 : posts (.leaf ⟨1, cB 97⟩) [43] = (tAp, []) := by simp [posts]
  rw [h2] at h1
  exact .ok _ [cats [tAp]] (.last _ [tAp] [] (.more _ _ _ _ _ rfl h1 (.stop _ rfl)) (by simp))
theorem read_abs : Whole [97, 98, 42] (.ok tAbs) := by
  have h1 : Atom [97, 98, 42] (.ok (posts (.leaf ⟨1, cB 97⟩) [98, 42])) := .ok _ _ _ (by simp) (base_a _)
  have h2 : posts (.leaf ⟨1, cB 97⟩) [98, 42] = (tB 97, [98, 42]) := by simp [posts]
  have h3 : Atom [98, 42] (.ok (posts (.leaf ⟨1, cB 98⟩) [42])) := .ok _ _ _ (by simp) (base_b _)
  have h4 : posts (.leaf ⟨1, cB 98⟩) [42] = (.one ⟨5, z4⟩ (tB 98), []) := by simp [posts]
  rw [h2] at h1
  rw [h4] at h3
  exact .ok _ [cats [tB 97, .one ⟨5, z4⟩ (tB 98)]] (.last _ [tB 97, .one ⟨5, z4⟩ (tB 98)] [] (.more _ _ _ _ _ rfl h1 (.more _ _ _ _ _ rfl h3 (.stop _ rfl))) (by simp))
theorem strB_most {N M : Nat} {R : Nat → Nat → Prop} (h : ∀ i j, R i j → j ≤ M) {i j : Nat} (hs : Str N R i j) : i ≤ M → j ≤ M := by
  induction hs with
  | nil i hi => exact id
  | cons i k j h1 _ ih => exact fun _ => ih (h i k h1)
theorem fitP (s : List UInt8) (i j : Nat) : Fit s tAp i j ↔ ∃ k, Fit s (tB 97) i k ∧ Str s.length (Fit s (tB 97)) k j := by
  show (if (6 : Int) = 5 then _ else if (6 : Int) = 6 then _ else _) ↔ _
  rw [if_neg (by decide), if_pos rfl]
theorem fitS (s : List UInt8) (i j : Nat) : Fit s tAbs i j ↔ ∃ k, Fit s (tB 97) i k ∧ Str s.length (Fit s (tB 98)) k j := by
  show (if (3 : Int) = 3 then _ else _) ↔ _
  rw [if_pos rfl]
  simp only [Fit, if_true]
theorem all_baa : AllR [98, 97, 97] tAp 0 [(1, 3)] := by
  have F := fitB [98, 97, 97] 97 (by decide)
  refine .cons 0 (1, 3) _ ⟨by omega, fun k _ h2 j hj => ?_, ?_, fun c hc => (fit_le _ _ _ _ hc).2⟩ (.nil _ (fun k h1 h2 j hj => ?_))
  · obtain rfl : k = 0 := by omega
    obtain ⟨m, hm, _⟩ := (fitP _ _ _).1 hj
    have := ((F _ _).1 hm).1
    revert this
    decide
  · exact (fitP _ _ _).2 ⟨2, (F _ _).2 ⟨by decide, rfl⟩, .cons 2 3 3 ((F _ _).2 ⟨by decide, rfl⟩) (.nil 3 (by decide))⟩
  · have h3 : 3 ≤ k := h1
    obtain ⟨m, hm, _⟩ := (fitP _ _ _).1 hj
    have := ((F _ _).1 hm).1
    rw [List.getElem?_eq_none (by simpa using h3)] at this
    cases this
theorem all_cc : AllR [99, 99] tAbs 0 [] := by
  have F := fitB [99, 99] 97 (by decide)
  refine .nil _ (fun k h1 h2 j hj => ?_)
  obtain ⟨m, hm, _⟩ := (fitS _ _ _).1 hj
  have := ((F _ _).1 hm).1
  have h2' : k ≤ 2 := h2
  rcases (by omega : k = 0 ∨ k = 1 ∨ k = 2) with rfl | rfl | rfl <;> revert this <;> decide
theorem all_ab {l : List (Nat × Nat)} (h : AllR [97, 98] tAbs 0 l) : 0 < l.length := by
  cases h with
  | nil _ hn =>
    exact absurd ((fitS _ _ _).2 ⟨1, (fitB [97, 98] 97 (by decide) 0 1).2 ⟨by decide, rfl⟩, .nil 1 (by decide)⟩) (hn 0 (Nat.le_refl _) (Nat.zero_le _) 1)
  | cons => simp
theorem cB_only (b : Nat) (hb : b < 256) : (cB b).only = some (UInt8.ofNat b) := by
  have e : (List.range 256).filter (cB b).has = [b] := by
    have e1 : (List.range 256).filter (cB b).has = (List.range 256).filter (fun i => decide (b = i)) := by
      apply List.filter_congr
      intro i hi
      exact cB_has b hb i (List.mem_range.1 hi)
    rw [e1]
    have key : ∀ b, b < 256 → (List.range 256).filter (fun i => decide (b = i)) = [b] := by decide
    exact key b hb
  unfold C4.only
  rw [e]
  rfl
theorem ned_abs : tAbs.ned = [97] := by
  have h1 : (tB 97).whl = some [97] := by
    simp [Rx.whl, cB_only]
  have h2 : tAbs.whl = none := by
    show (if (3 : Int) = 3 then (tB 97).whl.bind (fun x => (none : Option (List UInt8)).map (fun y => x ++ y)) else none) = none
    rw [if_pos rfl, h1]
    rfl
  have h3 : (tB 97).ned = [97] := by
    show ((tB 97).whl).getD [] = [97]
    rw [h1]
    rfl
  have h4 : (Rx.one ⟨5, z4⟩ (tB 98)).ned = [] := rfl
  unfold tAbs Rx.ned
  rw [h2]
  show (if (3 : Int) = 3 then longer (tB 97).ned (Rx.one ⟨5, z4⟩ (tB 98)).ned else []) = [97]
  rw [if_pos rfl, h3, h4]
  rfl
theorem not_cc (x : List UInt8) (hx : x = [97]) : ¬ Stnd x [99, 99] := by
  subst hx
  rintro ⟨i, h1, h2⟩
  have h1' : i + 1 ≤ 2 := h1
  rcases (by omega : i = 0 ∨ i = 1) with rfl | rfl <;> revert h2 <;> decide
end Go.Proofs.YtcjghhedphmhkaaGreatDoor
namespace Go.Proofs.YtcjghhedphmhkaaGreatDoor
set_option linter.unusedSimpArgs false
set_option linter.unusedVariables false
set_option maxRecDepth 100000
open Go.RowKit
/-- Two hits are the same. -/
theorem eqHtd (d : Nat) (k a b k' c e : Int) (w : World) : (Op.equalIn (d + 1 + 1 + 1) 56 (.agg #[.int .i64 k, .int .i64 a, .int .i64 b]) (.agg #[.int .i64 k', .int .i64 c, .int .i64 e])).run Tryz.prog w = .ok (k == k' && (a == c && b == e)) w := by
  have hs : Tryz.prog.underlying 56 = some (.struct (Tryz.prog.fieldsOf 56)) := by kernel_rfl
  have hp : Tryz.prog.stoodInHeld 56 = false := by kernel_rfl
  rw [run_equalIn_struct w (d + 1 + 1) _ _ _ hs hp]
  have hf : (Tryz.prog.fieldsOf 56).toList.map (fun f => (f.type, f.offset, f.name == "_")) = [(3, 0, false), (54, 1, false)] := by kernel_rfl
  generalize (Tryz.prog.fieldsOf 56).toList = fs at hf
  obtain ⟨f0, f1, rfl⟩ := list2sp fs (by have := congrArg List.length hf; simpa using this)
  · simp only [List.map_cons, List.map_nil, List.cons.injEq, Prod.mk.injEq, and_true] at hf
    obtain ⟨⟨t0, o0, n0⟩, ⟨t1, o1, n1⟩⟩ := hf
    have n0' : f0.name ≠ "_" := by simpa using n0
    have n1' : f1.name ≠ "_" := by simpa using n1
    have hi : ∀ (a b : Int) (w : World), (Op.equalIn (d + 1 + 1) 3 (.int .i64 a) (.int .i64 b)).run Tryz.prog w = .ok (a == b) w := fun a b w => run_equalIn_int w (d + 1) 3 .i64 .i64 a b Tryz.underlying3
    have hc : ∀ (a b c e : Int) (w : World), (Op.equalIn (d + 1 + 1) 54 (.agg #[.int .i64 a, .int .i64 b]) (.agg #[.int .i64 c, .int .i64 e])).run Tryz.prog w = .ok (a == c && b == e) w := fun a b c e w => eqSpd d a b c e w
    have q0 : ∀ (x y z : Int) (w : World), (part 3 #[.int .i64 x, .int .i64 y, .int .i64 z] 0).run Tryz.prog w = .ok (.int .i64 x) w := fun _ _ _ _ => by kernel_rfl
    have q1 : ∀ (x y z : Int) (w : World), (part 54 #[.int .i64 x, .int .i64 y, .int .i64 z] 1).run Tryz.prog w = .ok (.agg #[.int .i64 y, .int .i64 z]) w := fun _ _ _ _ => by kernel_rfl
    simp only [Op.eqFields, t0, o0, t1, o1, ne_eq, n0', n1', not_false_eq_true, if_true, Sem.run_bind, q0, q1, Result.andThen_ok, hi, hc, Sem.run_ite, Sem.run_pure]
    cases h1 : k == k' <;> cases h2 : a == c <;> cases h3 : b == e <;> simp [q1, hc, h2, h3]
theorem eqHt (k a b k' c e : Int) (w : World) : (Op.equalIn 10000 56 (.agg #[.int .i64 k, .int .i64 a, .int .i64 b]) (.agg #[.int .i64 k', .int .i64 c, .int .i64 e])).run Tryz.prog w = .ok (k == k' && (a == c && b == e)) w := eqHtd 9997 k a b k' c e w
/-- Two lists of hits are the same. -/
def htEq : List (Nat × Nat × Nat) → List (Nat × Nat × Nat) → Bool
  | [], [] => true
  | x :: r, y :: q => ((x.1 : Int) == (y.1 : Int) && ((x.2.1 : Int) == (y.2.1 : Int) && (x.2.2 : Int) == (y.2.2 : Int))) && htEq r q
  | _, _ => false
theorem htEq_self : ∀ x, htEq x x = true
  | [] => rfl
  | x :: r => by simp [htEq, htEq_self r]
theorem htEq_iff : ∀ x y, htEq x y = true ↔ x = y
  | [], [] => by simp [htEq]
  | [], y :: q => by simp [htEq]
  | x :: r, [] => by simp [htEq]
  | x :: r, y :: q => by
    obtain ⟨a, b, b'⟩ := x
    obtain ⟨c, d, d'⟩ := y
    simp only [htEq, Bool.and_eq_true, htEq_iff r q, beq_iff_eq, List.cons.injEq, Prod.mk.injEq]
    constructor
    · rintro ⟨⟨h1, h2, h4⟩, h3⟩; exact ⟨⟨by omega, by omega, by omega⟩, h3⟩
    · rintro ⟨⟨h1, h2, h4⟩, h3⟩; exact ⟨⟨by omega, by omega, by omega⟩, h3⟩
theorem htEq_len : ∀ (x y : List (Nat × Nat × Nat)), x.length ≠ y.length → htEq x y = false := by
  intro x y h
  cases he : htEq x y with
  | false => rfl
  | true => exact absurd (congrArg List.length ((htEq_iff x y).1 he)) h
theorem htEq_drop : ∀ (x y : List (Nat × Nat × Nat)) (i : Nat) (n m : Nat × Nat × Nat), x[i]? = some n → y[i]? = some m → htEq (x.drop i) (y.drop i) = (((n.1 : Int) == (m.1 : Int) && ((n.2.1 : Int) == (m.2.1 : Int) && (n.2.2 : Int) == (m.2.2 : Int))) && htEq (x.drop (i + 1)) (y.drop (i + 1)))
  | [], y, i, n, m, h, h' => by simp at h
  | x :: r, [], i, n, m, h, h' => by simp at h'
  | x :: r, y :: q, 0, n, m, h, h' => by
    simp at h h'
    subst h h'
    rfl
  | x :: r, y :: q, i + 1, n, m, h, h' => by
    simp only [List.drop_succ_cons]
    exact htEq_drop r q i n m (by simpa using h) (by simpa using h')
set_option maxHeartbeats 1000000 in
theorem hits_s_len (x y : List (Nat × Nat × Nat)) (a1 a2 : Option Addr) (c1 c2 : Nat) (h1 : x.length ≤ maxLen) (h2 : y.length ≤ maxLen) (hne : x.length ≠ y.length) (w : World) :
    Calls Tryz.prog 15 #[.slice a1 x.length c1, .slice a2 y.length c2] w fun e w' => e = .returned (.bool (htEq x y)) ∧ Below w.heap.size w w' := by
  rw [htEq_len x y hne]
  have hb : ((x.length : Int) != (y.length : Int)) = true := by rw [bne_iff_ne]; omega
  clear hne
  go_enter Tryz.func15, Tryz.ntmps15
  go_wp2
  go_ret
  exact ⟨rfl, Below.refl _ _⟩
set_option maxHeartbeats 4000000 in
theorem hits_s_same (x y : List (Nat × Nat × Nat)) (b1 o1 b2 o2 : Nat) (c1 c2 : Nat) (h1 : x.length ≤ maxLen) (hlen : x.length = y.length) (w : World) (hl1 : b1 < w.heap.size) (hl2 : b2 < w.heap.size) (hx : HtAt w b1 o1 x) (hy : HtAt w b2 o2 y) :
    Calls Tryz.prog 15 #[.slice (some ⟨b1, o1, none⟩) x.length c1, .slice (some ⟨b2, o2, none⟩) x.length c2] w fun e w' => e = .returned (.bool (htEq x y)) ∧ Below w.heap.size w w' := by
  unfold maxLen at h1
  have he := eqHt
  have HL := (show Hid _ from hlen)
  clear hlen
  go_enter Tryz.func15, Tryz.ntmps15
  go_wp2
  go_loopw [5] (fun v wr => ∃ i : Nat, i ≤ x.length ∧ v = .int .i64 i ∧ Hid (htEq x y = htEq (x.drop i) (y.drop i)) ∧ Below w.heap.size w wr) (fun v _ => x.length - (intOf v).toNat)
  case atStart => exact ⟨0, by omega, rfl, Eq.refl _, Below.refl _ _⟩
  case round =>
    obtain ⟨i, hi, rfl, HS, hB⟩ := hrel
    by_cases hil : i < x.length
    · obtain ⟨n, hn⟩ : ∃ n, x[i]? = some n := ⟨x[i], List.getElem?_eq_getElem hil⟩
      obtain ⟨m, hm⟩ : ∃ m, y[i]? = some m := ⟨y[i]'(by rw [← HL.out]; exact hil), List.getElem?_eq_getElem (by rw [← HL.out]; exact hil)⟩
      obtain ⟨a0, a1, a2⟩ := (hx.below hB hl1) i n hn
      obtain ⟨d0, d1, d2⟩ := (hy.below hB hl2) i m hm
      have HD : Hid _ := hid (htEq_drop x y i n m hn hm)
      have i0 : (0 : Int) ≤ (i : Int) := by omega
      have i1 : (i : Int) < (x.length : Int) := by omega
      clear hn hm
      obtain ⟨p, hp⟩ : ∃ p, p = ((n.1 : Int) == (m.1 : Int) && ((n.2.1 : Int) == (m.2.1 : Int) && (n.2.2 : Int) == (m.2.2 : Int))) := ⟨_, rfl⟩
      have hq : ∀ w, (Op.equalIn 10000 56 (.agg #[.int .i64 (n.1 : Int), .int .i64 (n.2.1 : Int), .int .i64 (n.2.2 : Int)]) (.agg #[.int .i64 (m.1 : Int), .int .i64 (m.2.1 : Int), .int .i64 (m.2.2 : Int)])).run Tryz.prog w = .ok p w := fun w => by rw [hp]; exact he _ _ _ _ _ _ w
      rw [← hp] at HD
      clear he hp
      cases p
      · have HF : Hid (htEq x y = false) := by show _ = _; rw [HS.out, HD.out]; rfl
        go_wp2_with fail
        go_quiet (fail)
        go_wp2
        go_ret
        exact ⟨by rw [HF.out]; rfl, hB.trans ((below_drewN' wr nq).mono hB.size)⟩
      · have HF : Hid (htEq x y = htEq (x.drop (i + 1)) (y.drop (i + 1))) := by show _ = _; rw [HS.out, HD.out]; rfl
        go_wp2_with fail
        go_quiet (fail)
        go_wp2
        exact ⟨⟨i + 1, by omega, by go_num, HF, hB.trans ((below_drewN' wr nq).mono hB.size)⟩, by simp [intOf]; omega⟩
    · have HF : Hid (htEq x y = true) := by
        show _ = _
        have e1 : x.drop i = [] := List.drop_eq_nil_of_le (by omega)
        have e2 : y.drop i = [] := List.drop_eq_nil_of_le (by have := HL.out; omega)
        rw [HS.out, e1, e2]; rfl
      go_wp2
      go_ret
      exact ⟨by rw [HF.out]; rfl, hB⟩
set_option maxHeartbeats 1000000 in
theorem hits_s_nil (a1 a2 : Option Addr) (c1 c2 : Nat) (w : World) :
    Calls Tryz.prog 15 #[.slice a1 0 c1, .slice a2 0 c2] w fun e w' => e = .returned (.bool true) ∧ Below w.heap.size w w' := by
  go_enter Tryz.func15, Tryz.ntmps15
  go_wp2
  go_loop [5] (fun v => v = .int .i64 0) (fun _ => 0)
  case atStart => rfl
  case round =>
    subst hrel
    go_wp2
    go_ret
    exact ⟨rfl, Below.refl _ _⟩
theorem hits_s_any (x y : List (Nat × Nat × Nat)) (v u : Value) (w : World) (hx : HtIn w v x) (hy : HtIn w u y) :
    Calls Tryz.prog 15 #[v, u] w fun e w' => e = .returned (.bool (htEq x y)) ∧ Below w.heap.size w w' := by
  obtain ⟨a1, c1, rfl, h1, hx⟩ := hx
  obtain ⟨a2, c2, rfl, h2, hy⟩ := hy
  by_cases hlen : x.length = y.length
  · rcases hx with hx | ⟨b1, o1, rfl, hl1, hx⟩
    · subst hx
      have : y = [] := List.eq_nil_of_length_eq_zero (by simpa using hlen.symm)
      subst this
      exact hits_s_nil a1 a2 c1 c2 w
    · rcases hy with hy | ⟨b2, o2, rfl, hl2, hy⟩
      · subst hy
        have : x = [] := List.eq_nil_of_length_eq_zero (by simpa using hlen)
        subst this
        exact hits_s_nil _ a2 c1 c2 w
      · rw [← hlen]
        exact hits_s_same x y b1 o1 b2 o2 c1 c2 h1 hlen w hl1 hl2 hx hy
  · exact hits_s_len x y a1 a2 c1 c2 h1 h2 hlen w
end Go.Proofs.YtcjghhedphmhkaaGreatDoor
namespace Go.Proofs.YtcjghhedphmhkaaGreatDoor
set_option linter.unusedSimpArgs false
set_option linter.unusedVariables false
set_option maxRecDepth 100000
open Go.RowKit
/-- The law's own set: ab*. -/
def mAbs : Mbr := ⟨1, ⟨#[97, 98, 42]⟩, tAbs⟩
theorem abs_len : ¬ 60 < tAbs.flat.length := by simp [Rx.flat]
theorem add_abs : AddR set0 ⟨#[97, 98, 42]⟩ 1 0 0 ⟨[mAbs], 1, false, 0⟩ := .ok tAbs (by decide) read_abs abs_len (by simp [set0])
theorem scan_cc : ScanR ⟨[mAbs], 1, true, 0⟩ ⟨#[99, 99]⟩ 0 [] ⟨[mAbs], 1, true, 0⟩ := by
  have h : ScanR ⟨[mAbs], 1, true, 0⟩ ⟨#[99, 99]⟩ 0 [] ⟨[mAbs], 1, true, triedL true [mAbs] [99, 99]⟩ := .ok [] (by decide) (AllsR.one mAbs all_cc)
  have e : triedL true [mAbs] [99, 99] = 0 := by
    have : mAbs.try [99, 99] = false := by
      unfold Mbr.try
      rw [@decide_eq_false_iff_not _ (Classical.propDecidable _)]
      exact not_cc _ ned_abs
    unfold triedL
    rw [List.filter_cons, this]
    rfl
  rw [e] at h
  exact h
theorem scan_ab {hits : List (Nat × Nat × Nat)} {e : Int} {σ : SetS} (h : ScanR ⟨[mAbs], 1, true, 0⟩ ⟨#[97, 98]⟩ e hits σ) : e = 0 ∧ 0 < hits.length := by
  cases h with
  | full h => exact absurd h (by decide)
  | ok _ _ h =>
    cases h with
    | cons _ _ l h hl hr =>
      have : 0 < l.length := all_ab hl
      refine ⟨rfl, ?_⟩
      rw [List.length_append, List.length_map]
      omega
/-- The same patterns once more. -/
theorem scan_again {σ σ1 σ' : SetS} {t : ByteArray} {h : List (Nat × Nat × Nat)} (g : ScanR σ t 0 h σ1) (e : σ'.ms = σ.ms) : ∃ σ2, ScanR σ' t 0 h σ2 ∧ σ2.ms = σ.ms ∧ σ2.tried ≤ σ.ms.length := by
  cases g with
  | ok _ h1 h2 => exact ⟨_, .ok h h1 (by rw [e]; exact h2), e, by simp only; rw [e]; exact triedL_le _ _ _⟩
set_option maxHeartbeats 8000000 in
theorem setFilter_any {X : World → Prop} {Sv : (Nat → Prop) → World → Value → SetS → Prop} (hXb : Lasts X) (S : SetC X Sv) (T : SetT X Sv) (l : List Stp3) (v : Value) (t : ByteArray) (ht : t.size ≤ maxLen) (w : World) (hX : X w) (hL : PlIn w v l) (wL : ∀ n ∈ l, n.wf) :
    Calls Tryz.prog 5 #[v, .string t] w fun e w' => e = .returned (.bool true) ∧ Below w.heap.size w w' := by
  have HXb := hid hXb
  have HS := hid S
  have HTR0 := hid T
  have HX := hid hX
  have HPL : Hid (∀ u w' F, Sv F w' u set0 → (∀ k, F k → w.heap.size ≤ k) → Below w.heap.size w w' → _) := fun u w' F hs lo hb => play_any hXb S l v u w w' hX hL wL F set0 hs set0_ok (by simp [set0]) lo hb
  obtain ⟨va, vc, rfl, vm, -⟩ := hL
  have CN : Hid (∀ w', Below w.heap.size w w' → _) := fun w' hb => S.new w' (hXb w w' hX hb)
  clear hXb S T hX wL
  go_enter Tryz.func5, Tryz.ntmps5
  go_wp2_with fail
  refine Calls.mono (CN.out w (Below.refl _ _)) ?_
  rintro e w1 ⟨z, F1, rfl, hs1, hb1, hF1⟩
  have HC1 : Hid (Came Sv w z F1 w1 0 F1 set0 w1) := Came.refl hs1 set0_ok hF1 hb1
  clear hs1 hb1 hF1
  have CA := hid (HS.out.add F1 w1 z set0 ⟨#[97, 98, 42]⟩ 1 0 0 _ (HXb.out _ _ HX.out HC1.out.b) HC1.out.s set0_ok (by simp [set0]) (by decide) add_abs)
  rw [show errV 0 = .nilIface from rfl] at CA
  go_wp2_with fail
  refine Calls.mono CA.out ?_
  rintro e w2 ⟨rfl, F2, hs, hb, ho⟩
  have HC2 := hid (HC1.out.turn (m := 1) hs hb ho (add_abs.isOk set0_ok) (Nat.le_refl _))
  clear hs hb ho CA
  have CF := hid (HS.out.filter F2 w2 z _ true (HXb.out _ _ HX.out HC2.out.b) HC2.out.s HC2.out.ok)
  go_wp2_with fail
  refine Calls.mono CF.out ?_
  rintro e w3 ⟨rfl, F3, hs, hb, ho⟩
  have HC3 := hid (HC2.out.turn (m := 1) hs hb ho (HC2.out.ok.filt true) (Nat.le_refl _))
  clear hs hb ho CF
  have CS := hid (HS.out.scan F3 w3 z _ ⟨#[99, 99]⟩ 0 [] _ (HXb.out _ _ HX.out HC3.out.b) HC3.out.s HC3.out.ok (by decide) scan_cc)
  rw [show errV 0 = .nilIface from rfl] at CS
  go_wp2_with fail
  refine Calls.mono CS.out ?_
  rintro e w4 ⟨h4, rfl, F4, ⟨hs, hh⟩, hb, ho⟩
  have HC4 := hid (HC3.out.turn (m := 1) hs hb ho (scan_cc.isOk HC3.out.ok) (Nat.le_refl _))
  obtain ⟨a4, c4, rfl, -⟩ := hh.isIn.form7
  clear hs hb ho CS hh
  rw [show ([] : List (Nat × Nat × Nat)).length = 0 from rfl]
  have CT := hid (HTR0.out.tried F4 w4 z _ (HXb.out _ _ HX.out HC4.out.b) HC4.out.s HC4.out.ok)
  go_wp2_with fail
  refine Calls.mono CT.out ?_
  rintro e w5 ⟨rfl, hb⟩
  have HC5 := hid (HC4.out.below HS.out hb)
  clear hb CT
  rw [show (((⟨[mAbs], 1, true, 0⟩ : SetS).tried : Nat) : Int) = 0 from rfl]
  obtain ⟨e6, h6, σ6, hsc6⟩ := scan_total ⟨[mAbs], 1, true, 0⟩ ⟨#[97, 98]⟩
  obtain ⟨rfl, h6l⟩ := scan_ab hsc6
  have CS := hid (HS.out.scan F4 w5 z _ ⟨#[97, 98]⟩ 0 h6 σ6 (HXb.out _ _ HX.out HC5.out.b) HC5.out.s HC5.out.ok (by decide) hsc6)
  rw [show errV 0 = .nilIface from rfl] at CS
  clear hsc6
  go_wp2_with fail
  refine Calls.mono CS.out ?_
  rintro e w6 ⟨v6, rfl, F6, ⟨hs, hh⟩, hb, ho⟩
  obtain ⟨a6, c6, rfl, h6m⟩ := hh.isIn.form7
  have HB6 : Hid (Below w.heap.size w w6) := HC5.out.b.trans (hb.to HC5.out.b.size HC5.out.lo)
  have q6 : ((h6.length : Int) == 0) = false := by rw [beq_eq_false_iff_ne]; omega
  clear hs hb ho CS hh HC1 HC2 HC3 HC4 HC5
  go_wp2_with fail
  refine Calls.mono (CN.out w6 HB6.out) ?_
  rintro e w7 ⟨s, F7, rfl, hs7, hb7, hF7⟩
  have HB7 : Hid (Below w.heap.size w w7) := HB6.out.trans (hb7.mono HB6.out.size)
  have CP := hid (HPL.out s w7 F7 hs7 (fun k hk => Nat.le_trans HB6.out.size (hF7 k hk)) HB7.out)
  clear hs7 hb7 hF7 CN HPL HB6
  go_wp2_with fail
  refine Calls.mono CP.out ?_
  rintro e w8 ⟨rfl, F8, σ8, hc8⟩
  have HC8 := hid hc8
  clear hc8 CP HB7
  have CF := hid (HS.out.filter F8 w8 s σ8 false (HXb.out _ _ HX.out HC8.out.b) HC8.out.s HC8.out.ok)
  go_wp2_with fail
  refine Calls.mono CF.out ?_
  rintro e w9 ⟨rfl, F9, hs, hb, ho⟩
  have HC9 := hid (HC8.out.turn hs hb ho (HC8.out.ok.filt false) HC8.out.last)
  clear hs hb ho CF HC8
  rcases scan_case (σ8.filt false) t with ⟨hA, σA, hscA, hms, hlastA, htr⟩ | hscA
  · have HSA := hid hscA
    have CS := hid (HS.out.scan F9 w9 s _ t 0 hA σA (HXb.out _ _ HX.out HC9.out.b) HC9.out.s HC9.out.ok ht hscA)
    rw [show errV 0 = .nilIface from rfl] at CS
    go_wp2_with fail
    refine Calls.mono CS.out ?_
    rintro e wA ⟨vA, rfl, FA, ⟨hs, hh⟩, hb, ho⟩
    have HCA := hid (HC9.out.turn (m := 30) hs hb ho (hscA.isOk HC9.out.ok) (by rw [hlastA]; have := HC9.out.last; simp [set0] at this; exact this))
    have HHA := hid hh
    have HMS := hid hms
    have HTR : Hid (σA.tried = σ8.ms.length) := htr rfl
    clear hs hb ho CS hh hscA hms htr HC9 hlastA
    have CT := hid (HTR0.out.tried FA wA s _ (HXb.out _ _ HX.out HCA.out.b) HCA.out.s HCA.out.ok)
    go_wp2_with fail
    refine Calls.mono CT.out ?_
    rintro e wB ⟨rfl, hb⟩
    have HCB := hid (HCA.out.below HS.out hb)
    have HHB : Hid (HtOff FA wB vA hA) := HtOff.kept HHA.out (But.below (F := fun _ => False) hb) (fun _ _ h => h.elim) (fun _ _ h => h)
    clear hb CT HCA HHA
    have CF := hid (HS.out.filter FA wB s σA true (HXb.out _ _ HX.out HCB.out.b) HCB.out.s HCB.out.ok)
    go_wp2_with fail
    refine Calls.mono CF.out ?_
    rintro e wC ⟨rfl, FC, hs, hb, ho⟩
    have HCC := hid (HCB.out.turn (m := 30) hs hb ho (HCB.out.ok.filt true) HCB.out.last)
    have HHC : Hid (HtOff FC wC vA hA) := HtOff.kept HHB.out hb (fun _ _ h => h) (fun k hk h => by rcases ho k h with h1 | h1; exact h1; omega)
    clear hs hb ho CF HCB HHB
    obtain ⟨σD, hscD, hmsD, htrD⟩ := scan_again (σ' := σA.filt true) HSA.out HMS.out
    have CS := hid (HS.out.scan FC wC s _ t 0 hA σD (HXb.out _ _ HX.out HCC.out.b) HCC.out.s HCC.out.ok ht hscD)
    rw [show errV 0 = .nilIface from rfl] at CS
    go_wp2_with fail
    refine Calls.mono CS.out ?_
    rintro e wD ⟨vD, rfl, FD, ⟨hs, hh⟩, hb, ho⟩
    have HCD := hid (HCC.out.turn (m := 30) hs hb ho (hscD.isOk HCC.out.ok) (by rw [hscD.last.1]; exact HCC.out.last))
    have HHD := hid hh.isIn
    have HAD : Hid (HtIn wD vA hA) := (HtOff.kept (F' := FC) HHC.out hb (fun _ _ h => h) (fun _ _ h => h)).isIn
    have HMD := hid hmsD
    have HTD : Hid (σD.tried ≤ σ8.ms.length) := htrD
    clear hs hb ho CS hh hscD hmsD htrD HCC HHC
    have CT := hid (HTR0.out.tried FD wD s _ (HXb.out _ _ HX.out HCD.out.b) HCD.out.s HCD.out.ok)
    go_wp2_with fail
    refine Calls.mono CT.out ?_
    rintro e wE ⟨rfl, hb⟩
    have HCE := hid (HCD.out.below HS.out hb)
    have CH := hid (hits_s_any hA hA vA vD wE (HAD.out.below hb) (HHD.out.below hb))
    rw [htEq_self] at CH
    obtain ⟨aA, cA, rfl, -⟩ := HAD.out.form7
    obtain ⟨aD, cD, rfl, -⟩ := HHD.out.form7
    clear hb CT HCD HHD HAD
    go_wp2_with fail
    refine Calls.mono CH.out ?_
    rintro e wF ⟨rfl, hb⟩
    have HCF := hid (HCE.out.below HS.out hb)
    have CL := hid (HS.out.list FD wF s _ (HXb.out _ _ HX.out HCF.out.b) HCF.out.s HCF.out.ok)
    have k1 : (σD.tried : Int) ≤ (σA.tried : Int) := by have := HTR.out; have := HTD.out; omega
    clear hb CH HCE
    go_wp2_with fail
    refine Calls.mono CL.out ?_
    rintro e wG ⟨vG, rfl, hi, hb⟩
    obtain ⟨aG, cG, rfl, -⟩ := hi
    have HBG : Hid (Below w.heap.size w wG) := HCF.out.b.trans (hb.mono HCF.out.b.size)
    have hil : σD.items.length = σ8.ms.length := by rw [items_lenF, HMD.out]; rfl
    rw [hil]
    have k2 : ((σA.tried : Int) == (σ8.ms.length : Int)) = true := by rw [beq_iff_eq]; have := HTR.out; omega
    clear hb CL HCF hil
    go_wp2
    go_ret
    exact ⟨rfl, HBG.out⟩
  · have h4 := hscA
    have CS := hid (HS.out.scan F9 w9 s _ t 3 [] _ (HXb.out _ _ HX.out HC9.out.b) HC9.out.s HC9.out.ok ht (.full h4))
    rw [show errV 3 = .iface 32 (.int .i64 3) from rfl] at CS
    go_wp2_with fail
    refine Calls.mono CS.out ?_
    rintro e wA ⟨vA, rfl, FA, ⟨hs, hh⟩, hb, ho⟩
    have HCA := hid (HC9.out.turn hs hb ho HC9.out.ok HC9.out.last)
    obtain ⟨aA, cA, rfl, -⟩ := hh.isIn.form7
    clear hs hb ho CS hh HC9
    have CT := hid (HTR0.out.tried FA wA s _ (HXb.out _ _ HX.out HCA.out.b) HCA.out.s HCA.out.ok)
    go_wp2_with fail
    refine Calls.mono CT.out ?_
    rintro e wB ⟨rfl, hb⟩
    have HCB := hid (HCA.out.below HS.out hb)
    clear hb CT HCA
    have CF := hid (HS.out.filter FA wB s _ true (HXb.out _ _ HX.out HCB.out.b) HCB.out.s HCB.out.ok)
    go_wp2_with fail
    refine Calls.mono CF.out ?_
    rintro e wC ⟨rfl, FC, hs, hb, ho⟩
    have HCC := hid (HCB.out.turn hs hb ho (HCB.out.ok.filt true) HCB.out.last)
    clear hs hb ho CF HCB
    have CS := hid (HS.out.scan FC wC s _ t 3 [] _ (HXb.out _ _ HX.out HCC.out.b) HCC.out.s HCC.out.ok ht (.full h4))
    rw [show errV 3 = .iface 32 (.int .i64 3) from rfl] at CS
    go_wp2_with fail
    refine Calls.mono CS.out ?_
    rintro e wD ⟨vD, rfl, FD, ⟨hs, hh⟩, hb, ho⟩
    have HCD := hid (HCC.out.turn hs hb ho HCC.out.ok HCC.out.last)
    obtain ⟨aD, cD, rfl, -⟩ := hh.isIn.form7
    clear hs hb ho CS hh HCC
    have CT := hid (HTR0.out.tried FD wD s _ (HXb.out _ _ HX.out HCD.out.b) HCD.out.s HCD.out.ok)
    go_wp2_with fail
    refine Calls.mono CT.out ?_
    rintro e wE ⟨rfl, hb⟩
    have HBE : Hid (Below w.heap.size w wE) := HCD.out.b.trans (hb.mono HCD.out.b.size)
    clear hb CT HCD
    go_wp2
    go_ret
    exact ⟨rfl, HBE.out⟩
end Go.Proofs.YtcjghhedphmhkaaGreatDoor
namespace Go.Proofs.YtcjghhedphmhkaaGreatDoor
set_option linter.unusedSimpArgs false
set_option linter.unusedVariables false
set_option maxRecDepth 100000
open Go.ChangeShapes Go.WideShapes Go.ChangeAt Go.RowKit Go.Deep Go.Joins

theorem cellsPlay : Tryz.prog.cellsOf 31 = 3 := by kernel_rfl
theorem cellsStr : Tryz.prog.cellsOf 9 = 1 := by kernel_rfl
theorem open_play {H : Type} {enc : TypeId × Value → H} {W : World} {base : Nat} {sp : Nat → Bool} {held : Bool} {fuel : Nat} {cs : List Value} {x : DataW H × List MemPlace}
    (h : DataW.trod enc Tryz.prog W base sp held fuel 31 cs = some x) : ∃ n : Stp3, cs = n.cells ∧ n.wf := by
  obtain ⟨y0, y1, y2, k, hxy, hl, u0, u1, u2⟩ := trod_struct3 Tryz.underlying31 h
  rw [cellsPlay] at hl
  match cs, hl with
  | [c0, c1, c2], _ =>
    simp only [cellsInt, cellsStr, List.drop, List.take] at u0 u1 u2
    obtain ⟨q, e0, d0, w⟩ := DataW.trod_int Tryz.underlying3 u0
    obtain ⟨t, e1, d1, ht⟩ := DataW.trod_string Tryz.underlying9 u1
    obtain ⟨p, e2, d2, wp⟩ := DataW.trod_int Tryz.underlying3 u2
    simp only [List.cons.injEq, and_true] at e0 e1 e2
    subst e0 e1 e2
    exact ⟨⟨q, t, p⟩, rfl, w, ht, wp⟩
theorem open_plays {H : Type} {enc : TypeId × Value → H} {W : World} {base : Nat} {sp : Nat → Bool} {held : Bool} {v : Value} {d : DataW H} {p : List MemPlace}
    (hval : Value.okWide Tryz.prog W .any base 22 v) (h : DataW.Trod enc Tryz.prog W 0 sp held 22 v d p) : ∃ ss : List Stp3, PlIn W v ss ∧ ∀ n ∈ ss, n.wf := by
  obtain ⟨a0, len0, cap0, rfl⟩ := okWide_slice Tryz.underlying22 hval
  obtain ⟨fuel, hf⟩ := h
  rcases open_slice Tryz.underlying22 hf with ⟨hc, _⟩ | ⟨a, len, cap, m, n, D, Pl, hc, hb, hl, hm, hmm, _, hx⟩
  · simp [Value.cells] at hc
    obtain ⟨rfl, rfl, rfl⟩ := hc
    exact ⟨[], ⟨none, 0, rfl, by simp, Or.inl rfl⟩, by simp⟩
  · simp [Value.cells] at hc
    obtain ⟨rfl, rfl, rfl⟩ := hc
    have hlm : len0 ≤ m := by rw [hmm]; split <;> omega
    have each : ∀ i, i < len0 → ∃ n : Stp3, W.cells? 0 (a.add (i * 3)) 3 = some n.cells ∧ n.wf := by
      intro i hi
      obtain ⟨cs', h1, h2⟩ := hx i (by omega)
      rw [cellsPlay] at h1
      obtain ⟨n, rfl, hw⟩ := open_play h2
      exact ⟨n, h1, hw⟩
    obtain ⟨q, hq⟩ := choose_lt each
    refine ⟨(List.range len0).map q, ⟨some a, cap0, by simp, by simp; omega, ?_⟩, ?_⟩
    · rcases Nat.eq_zero_or_pos len0 with h0 | h0
      · subst h0; exact Or.inl rfl
      right
      obtain ⟨b, off, spot⟩ := a
      have cells : ∀ i, i < len0 → ∀ j, j < 3 → W.cell? ((⟨b, off, spot⟩ : Addr).add (i * 3 + j)) = (q i).cells[j]? := by
        intro i hi j hj
        obtain ⟨_, _, hcell⟩ := World.cells?_some (hq i hi).1
        have := hcell j hj
        rwa [add_add] at this
      have hspot : spot = none := by
        have := cells 0 h0 0 (by omega)
        simpa [Addr.add, Stp3.cells] using World.cell?_spot this
      subst hspot
      have plain : ∀ k, (⟨b, off, none⟩ : Addr).add k = ⟨b, off + k, none⟩ := by
        intro k
        rcases k with _ | k <;> simp [Addr.add]
      refine ⟨b, off, rfl, ?_, ?_⟩
      · have := cells 0 h0 0 (by omega)
        rw [plain] at this
        rcases Nat.lt_or_ge b W.heap.size with h' | h'
        · exact h'
        · simp [World.cell?, Array.getElem?_eq_none h', Stp3.cells] at this
      · intro i n hn
        have hi : i < len0 := by
          rcases Nat.lt_or_ge i len0 with h' | h'
          · exact h'
          · simp [h'] at hn
        have en : q i = n := by simpa [hi] using hn
        subst en
        have c := cells i hi
        refine ⟨?_, ?_, ?_⟩
        · have := c 0 (by omega); rw [plain] at this; simpa [Nat.add_assoc, Stp3.cells] using this
        · have := c 1 (by omega); rw [plain] at this; simpa [Nat.add_assoc, Stp3.cells] using this
        · have := c 2 (by omega); rw [plain] at this; simpa [Nat.add_assoc, Stp3.cells] using this
    · intro n hn
      obtain ⟨i, hi, rfl⟩ := List.mem_map.1 hn
      exact (hq i (List.mem_range.1 hi)).2
end Go.Proofs.YtcjghhedphmhkaaGreatDoor
