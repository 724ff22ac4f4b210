/- What winnowfansame.Nodes answers. What the document's own functions answer: ClassText. What the document's own functions answer: Signed, ByteText. What the document's own functions answer: With, OfText, Others, Count. -/
import Derived.Test.YtmdfdlljeggbbaaGreatDoorY02
import Derived.Test.YtmdfdlljeggbbaaGreatDoorY03
import Derived.Test.YtmdfdlljeggbbaaGreatDoorY01
import Derived.Laws.BytesArg
import Derived.Test.YtmdfdlljeggbbaaGreatDoorY04
namespace Go.Proofs.YtmdfdlljeggbbaaGreatDoor
set_option linter.unusedSimpArgs false
set_option linter.unusedVariables false
set_option maxRecDepth 100000
open Go.RowKit

theorem list2 {α : Type} (l : List α) (h : l.length = 2) : ∃ a b, l = [a, b] := by
  match l, h with
  | [a, b], _ => exact ⟨a, b, rfl⟩
set_option maxRecDepth 100000 in
theorem eqNd (d : Nat) (n m : Nd) (w : World) : (Op.equalIn (d + 1 + 1 + 1) 41 n.v m.v).run Tryz.prog w = .ok (n.eqb m) w := by
  have hs : Tryz.prog.underlying 41 = some (.struct (Tryz.prog.fieldsOf 41)) := by kernel_rfl
  have hp : Tryz.prog.stoodInHeld 41 = false := by kernel_rfl
  rw [run_equalIn_struct w (d + 1 + 1) _ _ _ hs hp]
  have hf : (Tryz.prog.fieldsOf 41).toList.map (fun f => (f.type, f.offset, f.name == "_")) = [(3, 0, false), (39, 1, false)] := by kernel_rfl
  generalize (Tryz.prog.fieldsOf 41).toList = fs at hf
  obtain ⟨f0, f1, rfl⟩ := list2 fs (by have := congrArg List.length hf; simpa using this)
  · simp only [List.map_cons, List.map_nil, List.cons.injEq, Prod.mk.injEq, and_true] at hf
    obtain ⟨⟨t0, o0, n0⟩, ⟨t1, o1, n1⟩⟩ := hf
    have n0' : f0.name ≠ "_" := by simpa using n0
    have n1' : f1.name ≠ "_" := by simpa using n1
    have hi : ∀ (a b : Int) (w : World), (Op.equalIn (d + 1 + 1) 3 (.int .i64 a) (.int .i64 b)).run Tryz.prog w = .ok (a == b) w := fun a b w => run_equalIn_int w (d + 1) 3 .i64 .i64 a b Tryz.underlying3
    have hc : ∀ (x y : C4) (w : World), (Op.equalIn (d + 1 + 1) 39 x.v y.v).run Tryz.prog w = .ok (x.eqb y) w := fun x y w => eq4d d x y w
    have q0 : ∀ (z : Nd) (w : World), (part 3 z.cells 0).run Tryz.prog w = .ok (.int .i64 z.op) w := fun _ _ => by kernel_rfl
    have q1 : ∀ (z : Nd) (w : World), (part 39 z.cells 1).run Tryz.prog w = .ok z.c.v w := fun _ _ => by kernel_rfl
    simp only [Op.eqFields, t0, o0, t1, o1, ne_eq, n0', n1', not_false_eq_true, if_true, Sem.run_bind, q0, q1, Result.andThen_ok, hi, hc, Sem.run_ite, Sem.run_pure]
    unfold Nd.eqb
    cases h1 : n.op == m.op <;> cases h2 : n.c.eqb m.c <;> simp [q1, hc, h2]
theorem eqN (n m : Nd) (w : World) : (Op.equalIn 10000 41 n.v m.v).run Tryz.prog w = .ok (n.eqb m) w := eqNd 9997 n m w
set_option maxHeartbeats 1000000 in
theorem nodes_len (x y : List Nd) (a1 a2 : Option Addr) (c1 c2 : Nat) (h1 : x.length ≤ maxLen) (h2 : y.length ≤ maxLen) (hne : x.length ≠ y.length) (w : World) :
    Calls Tryz.prog 10 #[.slice a1 x.length c1, .slice a2 y.length c2] w fun e w' => e = .returned (.bool (nsEq x y)) ∧ Below w.heap.size w w' := by
  rw [nsEq_len x y hne]
  have hb : ((x.length : Int) != (y.length : Int)) = true := by rw [bne_iff_ne]; omega
  clear hne
  go_enter Tryz.func10, Tryz.ntmps10
  go_wp2
  go_ret
  exact ⟨rfl, Below.refl _ _⟩
set_option maxHeartbeats 4000000 in
theorem nodes_same (x y : List Nd) (b1 o1 b2 o2 : Nat) (c1 c2 : Nat) (h1 : x.length ≤ maxLen) (hlen : x.length = y.length) (w : World) (hl1 : b1 < w.heap.size) (hl2 : b2 < w.heap.size) (hx : NsAt w b1 o1 x) (hy : NsAt w b2 o2 y) :
    Calls Tryz.prog 10 #[.slice (some ⟨b1, o1, none⟩) x.length c1, .slice (some ⟨b2, o2, none⟩) x.length c2] w fun e w' => e = .returned (.bool (nsEq x y)) ∧ Below w.heap.size w w' := by
  unfold maxLen at h1
  have he := eqN
  have HL := (show Hid _ from hlen)
  clear hlen
  go_enter Tryz.func10, Tryz.ntmps10
  go_wp2
  go_loopw [5] (fun v wr => ∃ i : Nat, i ≤ x.length ∧ v = .int .i64 i ∧ Hid (nsEq x y = nsEq (x.drop i) (y.drop i)) ∧ Below w.heap.size w wr) (fun v _ => x.length - (intOf v).toNat)
  case atStart => exact ⟨0, by omega, rfl, Eq.refl _, Below.refl _ _⟩
  case round =>
    obtain ⟨i, hi, rfl, HS, hB⟩ := hrel
    by_cases hil : i < x.length
    · obtain ⟨n, hn⟩ : ∃ n, x[i]? = some n := ⟨x[i], List.getElem?_eq_getElem hil⟩
      obtain ⟨m, hm⟩ : ∃ m, y[i]? = some m := ⟨y[i]'(by rw [← HL.out]; exact hil), List.getElem?_eq_getElem (by rw [← HL.out]; exact hil)⟩
      obtain ⟨a0, a1, a2, a3, a4⟩ := (hx.below hB hl1) i n hn
      obtain ⟨d0, d1, d2, d3, d4⟩ := (hy.below hB hl2) i m hm
      have HD : Hid _ := nsEq_drop x y i n m hn hm
      have i0 : (0 : Int) ≤ (i : Int) := by omega
      have i1 : (i : Int) < (x.length : Int) := by omega
      clear hn hm
      cases hq : n.eqb m
      · have HF : Hid (nsEq x y = false) := by show _ = _; rw [HS.out, HD.out, hq]; rfl
        go_wp2_with fail
        go_quiet (fail)
        go_wp2
        go_ret
        exact ⟨by rw [HF.out]; rfl, hB.trans ((below_drewN' wr nq).mono hB.size)⟩
      · have HF : Hid (nsEq x y = nsEq (x.drop (i + 1)) (y.drop (i + 1))) := by show _ = _; rw [HS.out, HD.out, hq]; rfl
        go_wp2_with fail
        go_quiet (fail)
        go_wp2
        exact ⟨⟨i + 1, by omega, by go_num, HF, hB.trans ((below_drewN' wr nq).mono hB.size)⟩, by simp [intOf]; omega⟩
    · have HF : Hid (nsEq x y = true) := by
        show _ = _
        have e1 : x.drop i = [] := List.drop_eq_nil_of_le (by omega)
        have e2 : y.drop i = [] := List.drop_eq_nil_of_le (by have := HL.out; omega)
        rw [HS.out, e1, e2]; rfl
      go_wp2
      go_ret
      exact ⟨by rw [HF.out]; rfl, hB⟩
set_option maxHeartbeats 1000000 in
theorem nodes_nil (a1 a2 : Option Addr) (c1 c2 : Nat) (w : World) :
    Calls Tryz.prog 10 #[.slice a1 0 c1, .slice a2 0 c2] w fun e w' => e = .returned (.bool true) ∧ Below w.heap.size w w' := by
  go_enter Tryz.func10, Tryz.ntmps10
  go_wp2
  go_loop [5] (fun v => v = .int .i64 0) (fun _ => 0)
  case atStart => rfl
  case round =>
    subst hrel
    go_wp2
    go_ret
    exact ⟨rfl, Below.refl _ _⟩
theorem nodes_any (x y : List Nd) (v u : Value) (w : World) (hx : NsIn w v x) (hy : NsIn w u y) :
    Calls Tryz.prog 10 #[v, u] w fun e w' => e = .returned (.bool (nsEq x y)) ∧ Below w.heap.size w w' := by
  obtain ⟨a1, c1, rfl, h1, hx⟩ := hx
  obtain ⟨a2, c2, rfl, h2, hy⟩ := hy
  by_cases hlen : x.length = y.length
  · rcases hx with hx | ⟨b1, o1, rfl, hl1, hx⟩
    · subst hx
      have : y = [] := List.eq_nil_of_length_eq_zero (by simpa using hlen.symm)
      subst this
      exact nodes_nil a1 a2 c1 c2 w
    · rcases hy with hy | ⟨b2, o2, rfl, hl2, hy⟩
      · subst hy
        have : x = [] := List.eq_nil_of_length_eq_zero (by simpa using hlen)
        subst this
        exact nodes_nil _ a2 c1 c2 w
      · rw [← hlen]
        exact nodes_same x y b1 o1 b2 o2 c1 c2 h1 hlen w hl1 hl2 hx hy
  · exact nodes_len x y a1 a2 c1 c2 h1 h2 hlen w
end Go.Proofs.YtmdfdlljeggbbaaGreatDoor
namespace Go.Proofs.YtmdfdlljeggbbaaGreatDoor
set_option linter.unusedSimpArgs false
set_option linter.unusedVariables false
open Go.RowKit

theorem cnt_two (p : Nat → Bool) : ∀ (n i j : Nat), i < n → j < n → i ≠ j → p i = true → p j = true → 2 ≤ cnt p n
  | 0, i, j, hi, _, _, _, _ => by omega
  | n + 1, i, j, hi, hj, hij, pi, pj => by
    have pos : ∀ m t, t < m → p t = true → 1 ≤ cnt p m := by
      intro m t ht pt
      rcases Nat.eq_zero_or_pos (cnt p m) with h0 | h0
      · have := cnt_pos p m h0 t ht
        rw [this] at pt
        cases pt
      · exact h0
    rw [cnt]
    by_cases e1 : i = n
    · subst e1
      rw [pi]
      have := pos i j (by omega) pj
      simp
      omega
    · by_cases e2 : j = n
      · subst e2
        rw [pj]
        have := pos j i (by omega) pi
        simp
        omega
      · have := cnt_two p n i j (by omega) (by omega) hij pi pj
        omega
theorem cnt_one (p : Nat → Bool) (n i j : Nat) (h : cnt p n = 1) (hi : i < n) (hj : j < n) (pi : p i = true) (pj : p j = true) : i = j := by
  by_cases e : i = j
  · exact e
  · have := cnt_two p n i j hi hj e pi pj
    omega
theorem cnt_single (p : Nat → Bool) (n t : Nat) (ht : t < n) (h : ∀ i, i < n → p i = decide (i = t)) : cnt p n = 1 := by
  have key : ∀ m, m ≤ n → cnt p m = if t < m then 1 else 0 := by
    intro m
    induction m with
    | zero => intro _; simp [cnt]
    | succ m ih =>
      intro hm
      rw [cnt, ih (by omega), h m (by omega)]
      by_cases e : m = t
      · subst e; simp
      · by_cases c : t < m
        · have : t < m + 1 := by omega
          simp [c, e, this]
        · have : ¬ t < m + 1 := by omega
          simp [c, e, this]
  rw [key n (Nat.le_refl _), if_pos ht]
theorem dotC_ok : dotC.ok := C4.not_ok (ofL_ok _)
theorem dotC_has (n : Nat) (hn : n < 256) : dotC.has n = !decide (n = 10) := by
  unfold dotC
  rw [C4.has_not (ofL_ok _), ofL_has _ n hn]
  congr 1
  simp only [List.mem_singleton, exists_eq_left]
  have : (UInt8.toNat 10 = n) ↔ (n = 10) := by
    have : UInt8.toNat 10 = 10 := rfl
    rw [this]; omega
  simp only [this]
theorem dot_iff {k : C4} (hk : k.ok) : ((((cnt k.not.has 256 : Nat) : Int) == 1) && !k.has 10) = k.eqb dotC := by
  rw [Bool.eq_iff_iff, C4.eqb_iff, Bool.and_eq_true, Bool.not_eq_true', beq_iff_eq]
  constructor
  · rintro ⟨h1, h2⟩
    have h1' : cnt k.not.has 256 = 1 := by omega
    have h3 : k.not.has 10 = true := by rw [C4.has_not hk, h2]; rfl
    apply C4.ext_has hk dotC_ok
    intro i hi
    rw [dotC_has i hi]
    by_cases e : i = 10
    · subst e; rw [h2]; rfl
    · have : k.not.has i = false := by
        cases h : k.not.has i
        · rfl
        · exact absurd (cnt_one _ 256 i 10 h1' hi (by decide) h h3) e
      rw [C4.has_not hk] at this
      simp only [e, decide_false, Bool.not_false]
      simpa using this
  · intro h
    subst h
    refine ⟨?_, by rw [dotC_has 10 (by decide)]; rfl⟩
    have := cnt_single dotC.not.has 256 10 (by decide) (fun i hi => by rw [C4.has_not dotC_ok, dotC_has i hi, Bool.not_not])
    rw [this]
    rfl
theorem runsL_none (p : Nat → Bool) : ∀ (f i : Nat), (∀ n, i ≤ n → n < 256 → p n = false) → runsL p f i = []
  | 0, i, _ => rfl
  | f + 1, i, h => by
    rw [runsL]
    by_cases hi : i < 256
    · have e := rEnd_no p i hi (h i (Nat.le_refl _) hi)
      rw [if_pos hi, e, if_neg (Nat.lt_irrefl _), List.nil_append]
      exact runsL_none p f (i + 1) (fun n h1 h2 => h n (by omega) h2)
    · rw [if_neg hi]
theorem one_run (p : Nat → Bool) (f i : Nat) (hi : i < 256) (h : cnt p 256 = 1) (pi : p i = true) : runsL p (f + 1) i = bt i := by
  have e1 := rEnd_yes p i hi pi
  have e2 : rEnd p (256 - (i + 1)) (i + 1) = i + 1 := by
    by_cases h2 : i + 1 < 256
    · apply rEnd_no p (i + 1) h2
      cases hp : p (i + 1)
      · rfl
      · exact absurd (cnt_one p 256 i (i + 1) h hi h2 pi hp) (by omega)
    · rw [show 256 - (i + 1) = 0 from by omega, rEnd]
  rw [runsL, if_pos hi, e1, e2, if_pos (Nat.lt_succ_self i), runsL_none p f (i + 1 + 1), List.append_nil]
  · simp [rt]
  · intro n h1 h2
    cases hp : p n
    · rfl
    · exact absurd (cnt_one p 256 i n h hi h2 pi hp) (by omega)
/-- What is left to be told, at a place that is in no run. -/
theorem runsL_no (p : Nat → Bool) (f i : Nat) (hi : i < 256) (h : p i = false) : runsL p (f + 1) i = runsL p f (i + 1) := by
  rw [runsL, if_pos hi, rEnd_no p i hi h, if_neg (Nat.lt_irrefl _), List.nil_append]
theorem runsL_yes (p : Nat → Bool) (f i en : Nat) (hi : i < 256) (he : rEnd p (256 - i) i = en) (hlt : i < en) : runsL p (f + 1) i = rt i (en - 1) ++ runsL p (f + 1) en := by
  have h0 : runsL p (f + 1) en = runsL p f (en + 1) := by
    have hle := rEnd_le p (256 - i) i
    have hsp := rEnd_spec p (256 - i) i
    rw [he] at hle hsp
    by_cases h : en < 256
    · exact runsL_no p f en h (hsp.2 (by omega))
    · rw [runsL, if_neg h]
      cases f with
      | zero => rfl
      | succ f => rw [runsL, if_neg (by omega)]
  rw [h0, runsL, if_pos hi, he, if_pos hlt]
theorem many_one {k : C4} (hk : k.ok) : (k.many 4 == 1) = (((cnt k.has 256 : Nat) : Int) == 1) := by rw [many_cnt hk]
end Go.Proofs.YtmdfdlljeggbbaaGreatDoor
namespace Go.Proofs.YtmdfdlljeggbbaaGreatDoor
set_option linter.unusedSimpArgs false
set_option linter.unusedVariables false
open Go.RowKit

def sgn (j : Nat) : Int := ([92, 46, 91, 93, 40, 41, 124, 42, 43, 63, 94, 36, 45] : List Int).getD j 0
def signedB (x : Int) : Bool := ([92, 46, 91, 93, 40, 41, 124, 42, 43, 63, 94, 36, 45] : List Int).any (· == x)
theorem sgn_index (j : Nat) (h : j < 13) (w : World) : (Instr.index 9 (.string ⟨#[92, 46, 91, 93, 40, 41, 124, 42, 43, 63, 94, 36, 45]⟩) (.int .i64 j)).run Tryz.prog w = .ok (.int .u8 (sgn j)) w := by
  match j, h with
  | 0, _ | 1, _ | 2, _ | 3, _ | 4, _ | 5, _ | 6, _ | 7, _ | 8, _ | 9, _ | 10, _ | 11, _ | 12, _ => go_simp; rfl
theorem signed_of (x : Int) (h : ∃ j, j < 13 ∧ sgn j = x) : signedB x = true := by
  obtain ⟨j, hj, rfl⟩ := h
  have key : ∀ j : Fin 13, signedB (sgn j.val) = true := by decide
  exact key ⟨j, hj⟩
theorem signed_not (x : Int) (h : ∀ j, j < 13 → sgn j ≠ x) : signedB x = false := by
  have k0 := h 0 (by decide); have k1 := h 1 (by decide); have k2 := h 2 (by decide); have k3 := h 3 (by decide)
  have k4 := h 4 (by decide); have k5 := h 5 (by decide); have k6 := h 6 (by decide); have k7 := h 7 (by decide)
  have k8 := h 8 (by decide); have k9 := h 9 (by decide); have k10 := h 10 (by decide); have k11 := h 11 (by decide); have k12 := h 12 (by decide)
  simp [sgn] at k0 k1 k2 k3 k4 k5 k6 k7 k8 k9 k10 k11 k12
  simp [signedB, *]
set_option maxHeartbeats 1000000 in
theorem signed_any (x : Int) (w : World) :
    Calls Tryz.prog 42 #[.int .u8 x] w fun e w' => e = .returned (.bool (signedB x)) ∧ w' = w := by
  go_enter Tryz.func42, Tryz.ntmps42
  go_wp2
  go_loop [3] (fun v => ∃ j : Nat, j ≤ 13 ∧ v = .int .i64 j ∧ Hid (∀ i, i < j → sgn i ≠ x)) (fun v => 13 - (intOf v).toNat)
  case atStart => exact ⟨0, by omega, rfl, fun i hi => by omega⟩
  case round =>
    obtain ⟨j, hj, rfl, HN⟩ := hrel
    by_cases hlt : j < 13
    · have hi := sgn_index j hlt
      have i1 : (j : Int) < 13 := by omega
      by_cases he : sgn j = x
      · have he2 : (sgn j == x) = true := by simp [he]
        have HX : Hid (signedB x = true) := signed_of x ⟨j, hlt, he⟩
        clear he
        go_wp2
        go_ret
        exact ⟨by rw [HX.out]; rfl, rfl⟩
      · have he2 : (sgn j == x) = false := by simp [he]
        have HX : Hid (∀ i, i < j + 1 → sgn i ≠ x) := fun i hi => by
          by_cases e : i = j
          · rw [e]; exact he
          · exact HN.out i (by omega)
        clear he
        go_wp2
        exact ⟨⟨j + 1, by omega, by go_num, HX⟩, by simp [intOf]; omega⟩
    · have hj2 : j = 13 := by omega
      subst hj2
      have HX : Hid (signedB x = false) := signed_not x HN.out
      go_wp2
      go_ret
      exact ⟨by rw [HX.out]; rfl, rfl⟩

theorem bt_hexN (n : Nat) (h : n < 256) (h2 : n < 32 ∨ 126 < n) :
    (({ data := #[92, 120] } : ByteArray) ++ ({ data := #[48, 49, 50, 51, 52, 53, 54, 55, 56, 57, 97, 98, 99, 100, 101, 102] } : ByteArray).extract ((n : Int) / 16).toNat ((n : Int) / 16 + 1).toNat ++
      ({ data := #[48, 49, 50, 51, 52, 53, 54, 55, 56, 57, 97, 98, 99, 100, 101, 102] } : ByteArray).extract ((n : Int) % 16).toNat ((n : Int) % 16 + 1).toNat) = ⟨(bt n).toArray⟩ := bt_hex n h h2
set_option maxHeartbeats 1000000 in
theorem byteTextR_hex (n : Nat) (h : n < 256) (h3 : n < 32 ∨ 126 < n) (w : World) :
    Calls Tryz.prog 26 #[.int .i64 n] w fun e w' => e = .returned (.string ⟨(bt n).toArray⟩) ∧ Below w.heap.size w w' := by
  have HB : Hid _ := bt_hexN n h h3
  have q1 : (0:Int) ≤ (n : Int) / 16 := by omega
  have q2 : (n : Int) / 16 < 16 := by omega
  have q3 : (0:Int) ≤ (n : Int) % 16 := by omega
  have q4 : (n : Int) % 16 < 16 := by omega
  rcases h3 with h3 | h3
  · have h5 : (n : Int) < 32 := by omega
    go_enter Tryz.func26, Tryz.ntmps26
    go_wp2
    go_quiet (fail)
    go_wp2
    go_ret
    exact ⟨ret_str HB.out, below_drewN' _ _⟩
  · have h4 : ¬ (n : Int) < 32 := by omega
    have h5 : 126 < (n : Int) := by omega
    go_enter Tryz.func26, Tryz.ntmps26
    go_wp2
    go_quiet (fail)
    go_wp2
    go_ret
    exact ⟨ret_str HB.out, below_drewN' _ _⟩
theorem signs_inR (n : Nat) (h : n < 256) (hm : signedB (n : Int) = true) (h1 : 32 ≤ n) (h2 : n ≤ 126) : bt n = [92, UInt8.ofNat n] := by
  have key : ∀ n : Fin 256, signedB (n.val : Int) = true → 32 ≤ n.val → n.val ≤ 126 → bt n.val = [92, UInt8.ofNat n.val] := by decide +kernel
  exact key ⟨n, h⟩ hm h1 h2
theorem signs_outR (n : Nat) (h : n < 256) (hm : signedB (n : Int) = false) (h1 : 32 ≤ n) (h2 : n ≤ 126) : bt n = [UInt8.ofNat n] := by
  have key : ∀ n : Fin 256, signedB (n.val : Int) = false → 32 ≤ n.val → n.val ≤ 126 → bt n.val = [UInt8.ofNat n.val] := by decide +kernel
  exact key ⟨n, h⟩ hm h1 h2
theorem conv_one (n : Nat) (w : World) : (convert 48 9 (.slice (some ⟨w.heap.size, 0, none⟩) 1 1)).run Tryz.prog (w.alloc (.cells #[.int .u8 (n : Int)] 5)) = .ok (.string ⟨#[UInt8.ofNat n]⟩) (w.alloc (.cells #[.int .u8 (n : Int)] 5)) := by
  have h := run_convert_bytes_arg (P := Tryz.prog) (w.alloc (.cells #[.int .u8 (n : Int)] 5)) 48 5 Tryz.underlying48 Tryz.underlying5 w.heap.size 0 1 1 [(n : Int)] rfl (by
    intro i hi
    have : i = 0 := by omega
    subst this
    simp) 9 Tryz.underlying9
  rw [h]
  rfl
set_option maxHeartbeats 1000000 in
set_option maxRecDepth 100000 in
theorem byteTextR_in (n : Nat) (h1 : 32 ≤ n) (h2 : n ≤ 126) (hm : signedB (n : Int) = true) (w : World) :
    Calls Tryz.prog 26 #[.int .i64 n] w fun e w' => e = .returned (.string ⟨(bt n).toArray⟩) ∧ Below w.heap.size w w' := by
  have HB : Hid _ := signs_inR n (by omega) hm h1 h2
  have h4 : ¬ (n : Int) < 32 := by omega
  have h5 : ¬ 126 < (n : Int) := by omega
  have hcv := conv_one n w
  go_enter Tryz.func26, Tryz.ntmps26
  go_wp2_with fail
  refine (signed_any n _).mono ?_
  rintro e w1 ⟨rfl, rfl⟩
  go_wp2
  go_ret
  refine ⟨ret_str ?_, (Below.refl _ _).alloc (Nat.le_refl _) _⟩
  rw [HB.out]
  rfl
set_option maxHeartbeats 1000000 in
set_option maxRecDepth 100000 in
theorem byteTextR_out (n : Nat) (h1 : 32 ≤ n) (h2 : n ≤ 126) (hm : signedB (n : Int) = false) (w : World) :
    Calls Tryz.prog 26 #[.int .i64 n] w fun e w' => e = .returned (.string ⟨(bt n).toArray⟩) ∧ Below w.heap.size w w' := by
  have HB : Hid _ := signs_outR n (by omega) hm h1 h2
  have h4 : ¬ (n : Int) < 32 := by omega
  have h5 : ¬ 126 < (n : Int) := by omega
  have hcv := conv_one n w
  go_enter Tryz.func26, Tryz.ntmps26
  go_wp2_with fail
  refine (signed_any n _).mono ?_
  rintro e w1 ⟨rfl, rfl⟩
  go_wp2
  go_ret
  refine ⟨ret_str ?_, (Below.refl _ _).alloc (Nat.le_refl _) _⟩
  rw [HB.out]
theorem byteTextR_any (n : Nat) (h : n < 256) (w : World) :
    Calls Tryz.prog 26 #[.int .i64 n] w fun e w' => e = .returned (.string ⟨(bt n).toArray⟩) ∧ Below w.heap.size w w' := by
  by_cases h3 : n < 32 ∨ 126 < n
  · exact byteTextR_hex n h h3 w
  · cases hm : signedB (n : Int)
    · exact byteTextR_out n (by omega) (by omega) hm w
    · exact byteTextR_in n (by omega) (by omega) hm w
end Go.Proofs.YtmdfdlljeggbbaaGreatDoor
namespace Go.Proofs.YtmdfdlljeggbbaaGreatDoor
set_option linter.unusedSimpArgs false
set_option linter.unusedVariables false
open Go.RowKit

set_option maxHeartbeats 1000000 in
theorem withR_not (k : C4) (hk : k.ok) (b : Nat) (hb : b < 256) (hn : k.has b = false) (w : World) :
    Calls Tryz.prog 41 #[k.v, .int .i64 b] w fun e w' => e = .returned (k.add b).v ∧ Below w.heap.size w w' := by
  have HA : Hid _ := C4.put_add hk b hb hn
  have hx0 : (0 : Int) ≤ (b : Int) := by omega
  have hx1 : (b : Int) < 256 := by omega
  go_enter Tryz.func41, Tryz.ntmps41
  go_wp2_with fail
  refine (in_any k hk b hb _).mono ?_
  rintro e w1 ⟨rfl, hb1⟩
  have hK : Hb w1 w.heap.size k := ((Hb.new w k _ rfl).alloc _).below hb1 (by simp; omega)
  have hZ : Hb w1 (w.heap.size + 1) z4 := (Hb.new _ z4 _ (by simp)).below hb1 (by simp)
  have hB : Below w.heap.size w w1 := (((Below.refl _ _).alloc (Nat.le_refl _) _).alloc (by simp) _).trans (hb1.mono (by simp; omega))
  generalize hx : (b : Int) = x at *
  go_wp2
  go_loop [6, 7] (fun n i => ∃ j z : Nat, (j : Int) ≤ x % 64 ∧ Hid (z = 2 ^ j) ∧ i = .int .i64 j ∧ n = .int .u64 (z : Int)) (fun _ i => (x % 64).toNat - (intOf i).toNat)
  case atStart => exact ⟨0, 1, by omega, by show 1 = 2 ^ 0; rfl, rfl, rfl⟩
  case round =>
    obtain ⟨j, z, hj, HZ, rfl, rfl⟩ := hrel
    by_cases hlt : (j : Int) < x % 64
    · go_wp2
      go_round
      case rel =>
        have hz : z * 2 < 18446744073709551616 := by
          rw [HZ.out, ← Nat.pow_succ]
          exact Nat.pow_lt_pow_right (n := 64) (by decide) (by omega)
        exact ⟨j + 1, z * 2, by omega, by show _ = _; rw [HZ.out, Nat.pow_succ], by go_num, wrap_twice z hz⟩
      case measure => simp [intOf]; omega
    · have hj2 : (x % 64).toNat = j := by omega
      have HJ := (show Hid _ from hj2)
      clear hj2
      have cx := hK.cell (x / 64).toNat (by omega)
      have fx := hK.frozen (x / 64).toNat
      have hS := fun v => hK.store (x / 64).toNat (by omega) v
      have hT := fun v => hZ.other ⟨w.heap.size, (x / 64).toNat, none⟩ (.int .u64 v) (by simp only; omega)
      have s0 := fun v => (hS v).c0
      have s1 := fun v => (hS v).c1
      have s2 := fun v => (hS v).c2
      have s3 := fun v => (hS v).c3
      have t0 := fun v => (hT v).c0
      have t1 := fun v => (hT v).c1
      have t2 := fun v => (hT v).c2
      have t3 := fun v => (hT v).c3
      have u0 := fun v => (hT v).frozen 0
      have u1 := fun v => (hT v).frozen 1
      have u2 := fun v => (hT v).frozen 2
      have u3 := fun v => (hT v).frozen 3
      go_wp2
      have ez : k.put (x / 64).toNat (IntKind.u64.wrap (k.w (x / 64).toNat + (z : Int))) = k.add x := by rw [HZ.out, ← HJ.out]; exact HA.out
      have hq := (hT (IntKind.u64.wrap (k.w (x / 64).toNat + (z : Int)))).put4 (k.add x)
      rw [← ez] at hq
      refine bodyPost_ret (v := (k.add x).v) (by rw [← ez]; simp [results, Tryz.results41, go_sem, hq.c0, hq.c1, hq.c2, hq.c3]) rfl ⟨rfl, ?_⟩
      exact below_put4 (hB.setCell (by simp) _) (by omega) _
set_option maxHeartbeats 1000000 in
theorem withR_has (k : C4) (hk : k.ok) (b : Nat) (hb : b < 256) (hn : k.has b = true) (w : World) :
    Calls Tryz.prog 41 #[k.v, .int .i64 b] w fun e w' => e = .returned (k.add b).v ∧ Below w.heap.size w w' := by
  rw [C4.add_same hk b hb hn]
  go_enter Tryz.func41, Tryz.ntmps41
  go_wp2_with fail
  refine (in_any k hk b hb _).mono ?_
  rintro e w1 ⟨rfl, hb1⟩
  have hK : Hb w1 w.heap.size k := ((Hb.new w k _ rfl).alloc _).below hb1 (by simp; omega)
  have hZ : Hb w1 (w.heap.size + 1) z4 := (Hb.new _ z4 _ (by simp)).below hb1 (by simp)
  have hB : Below w.heap.size w w1 := (((Below.refl _ _).alloc (Nat.le_refl _) _).alloc (by simp) _).trans (hb1.mono (by simp; omega))
  obtain ⟨c0, c1, c2, c3, e0, e1, e2, e3⟩ := hK.all
  obtain ⟨d0, d1, d2, d3, f0, f1, f2, f3⟩ := hZ.all
  go_wp2
  have hq := hZ.put4 k
  refine bodyPost_ret (v := k.v) (by simp [results, Tryz.results41, go_sem, hq.c0, hq.c1, hq.c2, hq.c3]) rfl ⟨rfl, ?_⟩
  exact below_put4 hB (by omega) _
theorem withR_z (k : C4) (hk : k.ok) (x : Int) (h0 : 0 ≤ x) (h1 : x < 256) (w : World) :
    Calls Tryz.prog 41 #[k.v, .int .i64 x] w fun e w' => e = .returned (k.add x).v ∧ Below w.heap.size w w' := by
  obtain ⟨b, rfl⟩ := Int.eq_ofNat_of_zero_le h0
  cases hn : k.has b
  · exact withR_not k hk b (by omega) hn w
  · exact withR_has k hk b (by omega) hn w
theorem withR_any (k : C4) (hk : k.ok) (b : Nat) (hb : b < 256) (w : World) :
    Calls Tryz.prog 41 #[k.v, .int .i64 b] w fun e w' => e = .returned (k.add b).v ∧ Below w.heap.size w w' := by
  cases hn : k.has b
  · exact withR_not k hk b hb hn w
  · exact withR_has k hk b hb hn w

set_option maxHeartbeats 1000000 in
theorem ofText_any (s : ByteArray) (w : World) (hs : s.size ≤ maxLen) :
    Calls Tryz.prog 55 #[.string s] w fun e w' => e = .returned (C4.ofL s.data.toList).v ∧ Below w.heap.size w w' := by
  unfold maxLen at hs
  go_enter Tryz.func55, Tryz.ntmps55
  go_wp2
  go_loopw [4] (fun i wr => ∃ k : Nat, k ≤ s.size ∧ i = .int .i64 k ∧ Below w.heap.size w wr ∧ Hb wr w.heap.size z4 ∧ Hb wr (w.heap.size + 1) (C4.ofL (s.data.toList.take k))) (fun i _ => s.size - (intOf i).toNat)
  case atStart =>
    refine ⟨0, by omega, rfl, ?_, ?_, ?_⟩
    · exact ((Below.refl _ _).alloc (Nat.le_refl _) _).alloc (by simp) _
    · exact (Hb.new _ z4 _ rfl).alloc _
    · exact Hb.new _ z4 _ (by simp)
  case round =>
    obtain ⟨k, hk, rfl, hB, hZ, hC⟩ := hrel
    by_cases hlt : k < s.size
    · obtain ⟨c0, c1, c2, c3, e0, e1, e2, e3⟩ := hC.all
      have i0 : (0 : Int) ≤ (k : Int) := by omega
      have i1 : (k : Int) < (s.size : Int) := by omega
      have hts : s.data.toList.take (k + 1) = s.data.toList.take k ++ [s[k]] := by
        rw [List.take_succ_eq_append_getElem (by simpa using hlt)]; rfl
      have HT : Hid (C4.ofL (s.data.toList.take (k + 1)) = (C4.ofL (s.data.toList.take k)).add (s[k].toNat : Int)) := by rw [hts, C4.ofL_snoc]; exact rfl
      clear hts
      have hlb : s[k].toNat < 256 := s[k].toNat_lt
      have hwr : IntKind.i64.wrap (s[k].toNat : Int) = (s[k].toNat : Int) := by rw [IntKind.wrap_i64]; omega
      have hok := ofL_ok (s.data.toList.take k)
      have HO := (show Hid _ from hok)
      clear hok
      go_wp2_with fail
      go_region_with (first | (go_at_call 41; refine (withR_any (C4.ofL (s.data.toList.take k)) HO.out _ hlb _).mono ?_; rintro e w' ⟨rfl, hb⟩; have hC1 := Hb.below hC.drew hb hC.lt; obtain ⟨g0, g1, g2, g3, q0, q1, q2, q3⟩ := hC1.all))
      all_goals
        go_wp2
        refine ⟨⟨k + 1, by omega, by go_num, ?_, ?_, ?_⟩, by simp [intOf]; omega⟩
        · exact below_put4 (hB.drew.trans (hb.mono hB.size)) (by omega) _
        · exact Hb.other4 (Hb.below hZ.drew hb hZ.lt) _ (by omega)
        · rw [HT.out]; exact hC1.put4 _
    · have hk4 : k = s.size := by omega
      subst hk4
      have ht : s.data.toList.take s.size = s.data.toList := List.take_of_length_le (by simp)
      rw [ht] at hC
      clear ht
      obtain ⟨c0, c1, c2, c3, e0, e1, e2, e3⟩ := hC.all
      obtain ⟨d0, d1, d2, d3, f0, f1, f2, f3⟩ := hZ.all
      go_wp2
      have hq := hZ.put4 (C4.ofL s.data.toList)
      refine bodyPost_ret (v := (C4.ofL s.data.toList).v) (by simp [results, Tryz.results55, go_sem, hq.c0, hq.c1, hq.c2, hq.c3]) rfl ⟨rfl, ?_⟩
      exact below_put4 hB (by omega) _
/-! Others, Count -/
def oth (k : C4) : Nat → C4
  | 0 => z4
  | i + 1 => if k.has i then oth k i else (oth k i).add (i : Int)
theorem oth_ok (k : C4) : ∀ i, (oth k i).ok
  | 0 => z4_ok
  | i + 1 => by
    rw [oth]
    split
    · exact oth_ok k i
    · exact C4.add_ok (oth_ok k i) i
theorem oth_has (k : C4) (n : Nat) (hn : n < 256) : ∀ i, i ≤ 256 → (oth k i).has n = (decide (n < i) && !k.has n)
  | 0, _ => by rw [oth, z4_has]; simp
  | i + 1, hi => by
    have ih := oth_has k n hn i (by omega)
    rw [oth]
    by_cases hk : k.has i = true
    · rw [if_pos hk, ih]
      by_cases e : n = i
      · subst e; simp [hk]
      · have : (n < i + 1) ↔ (n < i) := by omega
        simp only [this]
    · rw [if_neg hk, C4.has_add (oth_ok k i) i n (by omega) hn, ih]
      by_cases e : i = n
      · subst e; simp [hk]
      · have : (n < i + 1) ↔ (n < i) := by omega
        simp only [this, e, decide_false, Bool.or_false]
theorem oth_not {k : C4} (hk : k.ok) : oth k 256 = k.not := by
  apply C4.ext_has (oth_ok k 256) (C4.not_ok hk)
  intro i hi
  rw [oth_has k i hi 256 (Nat.le_refl _), C4.has_not hk]
  simp [hi]
set_option maxHeartbeats 1000000 in
theorem others_any (k : C4) (hk : k.ok) (w : World) :
    Calls Tryz.prog 25 #[k.v] w fun e w' => e = .returned k.not.v ∧ Below w.heap.size w w' := by
  rw [← oth_not hk]
  go_enter Tryz.func25, Tryz.ntmps25
  go_wp2
  go_loopw [4] (fun v wr => ∃ i : Nat, i ≤ 256 ∧ v = .int .i64 i ∧ Below w.heap.size w wr ∧ Hb wr w.heap.size k ∧ Hb wr (w.heap.size + 1) z4 ∧ Hb wr (w.heap.size + 1 + 1) (oth k i)) (fun v _ => 256 - (intOf v).toNat)
  case atStart =>
    refine ⟨0, by omega, rfl, ?_, ?_, ?_, ?_⟩
    · exact (((Below.refl _ _).alloc (Nat.le_refl _) _).alloc (by simp) _).alloc (by simp; omega) _
    · exact ((Hb.new _ k _ rfl).alloc _).alloc _
    · exact (Hb.new _ z4 _ (by simp)).alloc _
    · exact Hb.new _ z4 _ (by simp)
  case round =>
    obtain ⟨i, hi, rfl, hB, hK, hZ, hO⟩ := hrel
    obtain ⟨c0, c1, c2, c3, e0, e1, e2, e3⟩ := hK.all
    by_cases hlt : i < 256
    · have i1 : (i : Int) < 256 := by omega
      go_wp2_with fail
      refine (in_any k hk i hlt _).mono ?_
      rintro e w1 ⟨rfl, hb1⟩
      have hB1 := hB.trans (hb1.mono hB.size)
      have hK1 := hK.below hb1 hK.lt
      have hZ1 := hZ.below hb1 hZ.lt
      have hO1 := hO.below hb1 hO.lt
      cases hn : k.has i
      · have HE : Hid (oth k (i + 1) = (oth k i).add (i : Int)) := by show _ = _; rw [oth, hn]; rfl
        obtain ⟨o0, o1, o2, o3, p0, p1, p2, p3⟩ := hO1.all
        go_wp2_with fail
        refine (withR_any (oth k i) (oth_ok k i) i hlt _).mono ?_
        rintro e w2 ⟨rfl, hb2⟩
        have hO2 := hO1.below hb2 hO1.lt
        obtain ⟨r0, r1, r2, r3, t0, t1, t2, t3⟩ := hO2.all
        go_wp2
        refine ⟨⟨i + 1, by omega, by go_num, ?_, ?_, ?_, ?_⟩, by simp [intOf]; omega⟩
        · exact below_put4 (hB1.trans (hb2.mono hB1.size)) (by omega) _
        · exact Hb.other4 (hK1.below hb2 hK1.lt) _ (by omega)
        · exact Hb.other4 (hZ1.below hb2 hZ1.lt) _ (by omega)
        · rw [HE.out]; exact hO2.put4 _
      · have HE : Hid (oth k (i + 1) = oth k i) := by show _ = _; rw [oth, hn]; rfl
        go_wp2
        refine ⟨⟨i + 1, by omega, by go_num, hB1, hK1, hZ1, ?_⟩, by simp [intOf]; omega⟩
        rw [HE.out]; exact hO1
    · have hi2 : i = 256 := by omega
      subst hi2
      obtain ⟨o0, o1, o2, o3, p0, p1, p2, p3⟩ := hO.all
      obtain ⟨d0, d1, d2, d3, f0, f1, f2, f3⟩ := hZ.all
      go_wp2
      have hq := hZ.put4 (oth k 256)
      refine bodyPost_ret (v := (oth k 256).v) (by simp [results, Tryz.results25, go_sem, hq.c0, hq.c1, hq.c2, hq.c3]) rfl ⟨rfl, ?_⟩
      exact below_put4 hB (by omega) _
end Go.Proofs.YtmdfdlljeggbbaaGreatDoor
