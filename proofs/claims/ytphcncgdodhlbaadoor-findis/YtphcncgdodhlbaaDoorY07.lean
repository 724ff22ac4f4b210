/- What the document's own functions answer: AllOf. What winnowfansame.Spans answers. What the document's own functions answer: Count. What the document's own Count answers, as a class is none. What the document's own functions answer: Fault. -/
import Derived.Test.YtphcncgdodhlbaaDoorY06
import Derived.Test.YtphcncgdodhlbaaDoorY04
import Derived.Test.YtphcncgdodhlbaaDoorY05
import Derived.Test.YtphcncgdodhlbaaDoorY02
namespace Go.Proofs.YtphcncgdodhlbaaDoor
set_option linter.unusedSimpArgs false
set_option linter.unusedVariables false
set_option maxRecDepth 100000
open Go.RowKit
theorem SpOwn.row {w : World} {B : Nat} {v : Value} {l : List (Nat × Nat)} (h : SpOwn w B v l) (k : Nat) (e : v.ownBlock = some k) : B ≤ k ∧ k < w.heap.size := by
  rcases h.2 with ⟨hv, _⟩ | ⟨b, cap, cur, hv, hb, hh, _⟩
  · rw [hv] at e; cases e
  · rw [hv] at e
    injection e with e
    simp only at e
    subst e
    exact ⟨hb, (Array.getElem?_eq_some_iff.1 hh).1⟩
/-- A box that was laid behind the row lies as it lay. -/
theorem box_kept {w1 w2 : World} {B : Nat} {v : Value} {l : List (Nat × Nat)} (h : SpOwn w1 B v l) (a b : Value) (o2 : Obj) (t : TypeId) (hgr : ((w1.alloc (.cells #[a, b] t)).alloc o2).grownBy w2 v.ownBlock) : w2.cell? ⟨w1.heap.size, 0, none⟩ = some a ∧ w2.cell? ⟨w1.heap.size, 1, none⟩ = some b := by
  have h1 : w2.heap[w1.heap.size]? = some (.cells #[a, b] t (0, 0)) := by
    rw [hgr.block w1.heap.size (by simp; omega) (fun e => by have := (h.row _ e.symm).2; omega), Below.heap_alloc _ _ _ (by simp)]
    exact heap_new w1 _
  exact ⟨(Lib.cell_of_heap h1 0).trans rfl, (Lib.cell_of_heap h1 1).trans rfl⟩
/-- Between two rounds: L is what was found till k, r is what is found behind it. -/
def AlR (s : List UInt8) (t : Rx) (all : List (Nat × Nat)) (B : Nat) (w : World) (k : Nat) (u : Value) (wr : World) : Prop := ∃ L r, all = L ++ r ∧ SpOwn wr B u L ∧ AllR s t k r ∧ L.length ≤ k ∧ Below B w wr
set_option maxHeartbeats 4000000 in
theorem allOf_own (t : Rx) (ht : t.Ok) (v : Value) (s : ByteArray) (hs : s.size ≤ 400) (all : List (Nat × Nat)) (ha : AllR s.data.toList t 0 all) (w : World) (hN : NsIn w v t.flat) (ho : ∀ n ∈ t.flat, (1 ≤ n.op ∧ n.op ≤ 9) ∧ n.c.ok) (hl : t.flat.length ≤ 60) :
    Calls Tryd.prog 8 #[v, .string s] w fun e w' => ∃ u, e = .returned u ∧ SpOwn w' w.heap.size u all ∧ Below w.heap.size w w' := by
  have HF : Hid (∀ (k : Nat) r, k ≤ s.size + 1 → FndR s.data.toList t k r → ∀ w', Below w.heap.size w w' → _) := fun k r hk hr w' hb => findOf_any t ht v s hs k r hr hk w' (hN.below hb) ho hl
  have hlen : s.data.toList.length = s.size := by simp
  have hall : all.length ≤ 401 := by
    have := ha.len
    omega
  have H0 : Hid (AlR s.data.toList t all w.heap.size w 0 (.slice none 0 0) w) := ⟨[], all, rfl, SpOwn.nil _ _, ha, by simp, Below.refl _ _⟩
  obtain ⟨va, vc, rfl, vm⟩ : ∃ a c, v = .slice a t.flat.length c ∧ t.flat.length ≤ maxLen := by
    obtain ⟨a, c, h1, h2, _⟩ := hN
    exact ⟨a, c, h1, h2⟩
  clear hN ho ha
  go_enter Tryd.func8, Tryd.ntmps8
  go_wp2_with fail
  go_loopw [5, 6] (fun u v wr => ∃ k : Nat, k ≤ s.size + 1 ∧ v = .int .i64 (k : Int) ∧ Hid (AlR s.data.toList t all w.heap.size w k u wr)) (fun _ v _ => s.size + 1 - (intOf v).toNat)
  case atStart => exact ⟨0, by omega, rfl, H0⟩
  case round =>
    clear H0
    obtain ⟨k, hk, rfl, HA⟩ := hrel
    obtain ⟨L, r, hap, hO, hR, hLk, hB⟩ := HA.out
    obtain ⟨ua, uc, rfl⟩ := hO.form
    have hLl : L.length ≤ 401 := by rw [hap] at hall; simp at hall; omega
    by_cases hks : k ≤ s.size
    · have g1 : (k : Int) ≤ (s.size : Int) := by omega
      cases hR with
      | nil _ hn =>
        have C := hid (HF.out k none (by omega) hn wr hB)
        rw [show spV (spO none) = .agg #[.int .i64 0, .int .i64 0] from rfl, show Option.isSome (none : Option (Nat × Nat)) = false from rfl] at C
        have HY : Hid (∀ w', Below wr.heap.size wr w' → SpOwn w' w.heap.size (.slice ua L.length uc) all ∧ Below w.heap.size w w') := fun w' hb => ⟨by rw [hap, List.append_nil]; exact hO.kept hb, hB.trans (hb.mono hB.size)⟩
        clear HA hn hO hB hap
        go_wp2_with fail
        refine Calls.mono C.out ?_
        rintro e w1 ⟨rfl, hb1⟩
        have HY2 := hid (HY.out _ (hb1.alloc hb1.size (.cells #[.int .i64 0, .int .i64 0] 28)))
        clear hb1 C HY
        go_wp2
        go_ret
        exact ⟨_, rfl, HY2.out.1, HY2.out.2⟩
      | cons _ x r' hx hr =>
        obtain ⟨a, b⟩ := x
        have C := hid (HF.out k (some (a, b)) (by omega) hx wr hB)
        rw [show spV (spO (some (a, b))) = .agg #[.int .i64 (a : Int), .int .i64 (b : Int)] from rfl, show Option.isSome (some (a, b)) = true from rfl] at C
        have hnx := nextAt_lt hx
        have hle := hx.le
        have HO := hid hO
        have HR := hid hr
        have HB := hid hB
        have HAP : Hid (all = (L ++ [(a, b)]) ++ r') := by show _ = _; rw [hap]; simp
        clear HA hx hO hB hap hr
        go_wp2_with fail
        refine Calls.mono C.out ?_
        rintro e w1 ⟨rfl, hb1⟩
        have HO1 := hid (HO.out.kept hb1)
        have HB1 := hid (HB.out.trans (hb1.mono HB.out.size))
        clear hb1 C HO HB
        obtain ⟨o1, ho1⟩ : ∃ o1 : Obj, o1 = .cells #[.int .i64 (a : Int), .int .i64 (b : Int)] 28 := ⟨_, rfl⟩
        have HO2 := hid ((HO1.out.kept ((Below.refl _ _).alloc (Nat.le_refl _) o1)).kept ((Below.refl _ _).alloc (Nat.le_refl _) o1))
        have HB2 : Hid (Below w.heap.size w ((w1.alloc o1).alloc o1)) := (HB1.out.alloc HB1.out.size o1).alloc (by have := HB1.out.size; simp; omega) o1
        rw [ho1] at HO2 HB2
        clear ho1
        by_cases hab : (a : Int) = (b : Int)
        · have hwr : IntKind.i64.wrap ((b : Int) + 1) = (b : Int) + 1 := by rw [IntKind.wrap_i64]; omega
          have enx : nextAt (a, b) = b + 1 := by simp [nextAt]; omega
          rw [enx] at HR hnx
          have eab : ((a : Int) == (b : Int)) = true := by rw [beq_iff_eq]; exact hab
          have HAB := hid hab
          clear hab
          go_wp2_with (at_builtin; refine wpList_append_sp rfl _ _ rfl w.heap.size _ rfl L HO2.out (w1.heap.size + 1) 1 (a, b) rfl (by rw [World.cell?_alloc_at (w := w1.alloc _) _ _ (w1.heap.size + 1) 0 (by simp)]; rfl) (by rw [World.cell?_alloc_at (w := w1.alloc _) _ _ (w1.heap.size + 1) 1 (by simp)]; rfl) (by omega) HB2.out.size ?_; intro g cap w2 hown hgr _ _; obtain ⟨d0, d1⟩ := box_kept HO1.out _ _ _ _ hgr; have HBX := hid (HB2.out.trans (HO2.out.grown HB2.out.size hgr)); have HOX := hid hown; clear hown hgr)
          have HR2 : Hid (AlR s.data.toList t all w.heap.size w (b + 1) (.slice (some ⟨g, 0, none⟩) (L.length + 1) cap) w2) := ⟨L ++ [(a, b)], r', HAP.out, HOX.out, HR.out, by simp; omega, HBX.out⟩
          exact ⟨⟨b + 1, by omega, by go_num, HR2⟩, by simp [intOf]; omega⟩
        · have enx : nextAt (a, b) = b := by simp [nextAt]; omega
          rw [enx] at HR hnx
          have eab : ((a : Int) == (b : Int)) = false := by rw [beq_eq_false_iff_ne]; exact hab
          clear hab
          go_wp2_with (at_builtin; refine wpList_append_sp rfl _ _ rfl w.heap.size _ rfl L HO2.out (w1.heap.size + 1) 1 (a, b) rfl (by rw [World.cell?_alloc_at (w := w1.alloc _) _ _ (w1.heap.size + 1) 0 (by simp)]; rfl) (by rw [World.cell?_alloc_at (w := w1.alloc _) _ _ (w1.heap.size + 1) 1 (by simp)]; rfl) (by omega) HB2.out.size ?_; intro g cap w2 hown hgr _ _; obtain ⟨d0, d1⟩ := box_kept HO1.out _ _ _ _ hgr; have HBX := hid (HB2.out.trans (HO2.out.grown HB2.out.size hgr)); have HOX := hid hown; clear hown hgr)
          have HR2 : Hid (AlR s.data.toList t all w.heap.size w b (.slice (some ⟨g, 0, none⟩) (L.length + 1) cap) w2) := ⟨L ++ [(a, b)], r', HAP.out, HOX.out, HR.out, by simp; omega, HBX.out⟩
          exact ⟨⟨b, by omega, by go_num, HR2⟩, by simp [intOf]; omega⟩
    · have g1 : ¬ (k : Int) ≤ (s.size : Int) := by omega
      have HY : Hid (SpOwn wr w.heap.size (.slice ua L.length uc) all ∧ Below w.heap.size w wr) := by
        cases hR with
        | nil _ hn => exact ⟨by rw [hap, List.append_nil]; exact hO, hB⟩
        | cons _ x r' hx hr =>
          have := hx.le
          omega
      clear HA hO hB hap hR
      go_wp2
      go_ret
      exact ⟨_, rfl, HY.out.1, HY.out.2⟩
theorem allOf_any (t : Rx) (ht : t.Ok) (v : Value) (s : ByteArray) (hs : s.size ≤ 400) (all : List (Nat × Nat)) (ha : AllR s.data.toList t 0 all) (w : World) (hN : NsIn w v t.flat) (ho : ∀ n ∈ t.flat, (1 ≤ n.op ∧ n.op ≤ 9) ∧ n.c.ok) (hl : t.flat.length ≤ 60) :
    Calls Tryd.prog 8 #[v, .string s] w fun e w' => ∃ u, e = .returned u ∧ SpIn w' u all ∧ Below w.heap.size w w' := by
  have hall : all.length ≤ 401 := by
    have := ha.len
    have hlen : s.data.toList.length = s.size := by simp
    omega
  refine (allOf_own t ht v s hs all ha w hN ho hl).mono ?_
  rintro e w' ⟨u, rfl, h1, h2⟩
  exact ⟨u, rfl, h1.isIn (by unfold maxLen; omega), h2⟩
end Go.Proofs.YtphcncgdodhlbaaDoor
namespace Go.Proofs.YtphcncgdodhlbaaDoor
set_option linter.unusedSimpArgs false
set_option linter.unusedVariables false
set_option maxRecDepth 100000
open Go.RowKit
/-- Two lists of spans are the same. -/
def spEq : List (Nat × Nat) → List (Nat × Nat) → Bool
  | [], [] => true
  | x :: r, y :: q => ((x.1 : Int) == (y.1 : Int) && (x.2 : Int) == (y.2 : Int)) && spEq r q
  | _, _ => false
theorem spEq_self : ∀ x, spEq x x = true
  | [] => rfl
  | x :: r => by simp [spEq, spEq_self r]
theorem spEq_iff : ∀ x y, spEq x y = true ↔ x = y
  | [], [] => by simp [spEq]
  | [], y :: q => by simp [spEq]
  | x :: r, [] => by simp [spEq]
  | x :: r, y :: q => by
    obtain ⟨a, b⟩ := x
    obtain ⟨c, d⟩ := y
    simp only [spEq, Bool.and_eq_true, spEq_iff r q, beq_iff_eq, List.cons.injEq, Prod.mk.injEq]
    constructor
    · rintro ⟨⟨h1, h2⟩, h3⟩; exact ⟨⟨by omega, by omega⟩, h3⟩
    · rintro ⟨⟨h1, h2⟩, h3⟩; exact ⟨⟨by omega, by omega⟩, h3⟩
theorem spEq_len : ∀ (x y : List (Nat × Nat)), x.length ≠ y.length → spEq x y = false := by
  intro x y h
  cases he : spEq x y with
  | false => rfl
  | true => exact absurd (congrArg List.length ((spEq_iff x y).1 he)) h
theorem spEq_drop : ∀ (x y : List (Nat × Nat)) (i : Nat) (n m : Nat × Nat), x[i]? = some n → y[i]? = some m → spEq (x.drop i) (y.drop i) = (((n.1 : Int) == (m.1 : Int) && (n.2 : Int) == (m.2 : Int)) && spEq (x.drop (i + 1)) (y.drop (i + 1)))
  | [], y, i, n, m, h, h' => by simp at h
  | x :: r, [], i, n, m, h, h' => by simp at h'
  | x :: r, y :: q, 0, n, m, h, h' => by
    simp at h h'
    subst h h'
    rfl
  | x :: r, y :: q, i + 1, n, m, h, h' => by
    simp only [List.drop_succ_cons]
    exact spEq_drop r q i n m (by simpa using h) (by simpa using h')
set_option maxHeartbeats 1000000 in
theorem spans_len (x y : List (Nat × Nat)) (a1 a2 : Option Addr) (c1 c2 : Nat) (h1 : x.length ≤ maxLen) (h2 : y.length ≤ maxLen) (hne : x.length ≠ y.length) (w : World) :
    Calls Tryd.prog 13 #[.slice a1 x.length c1, .slice a2 y.length c2] w fun e w' => e = .returned (.bool (spEq x y)) ∧ Below w.heap.size w w' := by
  rw [spEq_len x y hne]
  have hb : ((x.length : Int) != (y.length : Int)) = true := by rw [bne_iff_ne]; omega
  clear hne
  go_enter Tryd.func13, Tryd.ntmps13
  go_wp2
  go_ret
  exact ⟨rfl, Below.refl _ _⟩
set_option maxHeartbeats 4000000 in
theorem spans_same (x y : List (Nat × Nat)) (b1 o1 b2 o2 : Nat) (c1 c2 : Nat) (h1 : x.length ≤ maxLen) (hlen : x.length = y.length) (w : World) (hl1 : b1 < w.heap.size) (hl2 : b2 < w.heap.size) (hx : SpAt w b1 o1 x) (hy : SpAt w b2 o2 y) :
    Calls Tryd.prog 13 #[.slice (some ⟨b1, o1, none⟩) x.length c1, .slice (some ⟨b2, o2, none⟩) x.length c2] w fun e w' => e = .returned (.bool (spEq x y)) ∧ Below w.heap.size w w' := by
  unfold maxLen at h1
  have he := eqSp
  have HL := (show Hid _ from hlen)
  clear hlen
  go_enter Tryd.func13, Tryd.ntmps13
  go_wp2
  go_loopw [5] (fun v wr => ∃ i : Nat, i ≤ x.length ∧ v = .int .i64 i ∧ Hid (spEq x y = spEq (x.drop i) (y.drop i)) ∧ Below w.heap.size w wr) (fun v _ => x.length - (intOf v).toNat)
  case atStart => exact ⟨0, by omega, rfl, Eq.refl _, Below.refl _ _⟩
  case round =>
    obtain ⟨i, hi, rfl, HS, hB⟩ := hrel
    by_cases hil : i < x.length
    · obtain ⟨n, hn⟩ : ∃ n, x[i]? = some n := ⟨x[i], List.getElem?_eq_getElem hil⟩
      obtain ⟨m, hm⟩ : ∃ m, y[i]? = some m := ⟨y[i]'(by rw [← HL.out]; exact hil), List.getElem?_eq_getElem (by rw [← HL.out]; exact hil)⟩
      obtain ⟨a0, a1⟩ := (hx.below hB hl1) i n hn
      obtain ⟨d0, d1⟩ := (hy.below hB hl2) i m hm
      have HD : Hid _ := hid (spEq_drop x y i n m hn hm)
      have i0 : (0 : Int) ≤ (i : Int) := by omega
      have i1 : (i : Int) < (x.length : Int) := by omega
      clear hn hm
      obtain ⟨p, hp⟩ : ∃ p, p = ((n.1 : Int) == (m.1 : Int) && (n.2 : Int) == (m.2 : Int)) := ⟨_, rfl⟩
      have hq : ∀ w, (Op.equalIn 10000 28 (.agg #[.int .i64 (n.1 : Int), .int .i64 (n.2 : Int)]) (.agg #[.int .i64 (m.1 : Int), .int .i64 (m.2 : Int)])).run Tryd.prog w = .ok p w := fun w => by rw [hp]; exact he _ _ _ _ w
      rw [← hp] at HD
      clear he hp
      cases p
      · have HF : Hid (spEq x y = false) := by show _ = _; rw [HS.out, HD.out]; rfl
        go_wp2_with fail
        go_quiet (fail)
        go_wp2
        go_ret
        exact ⟨by rw [HF.out]; rfl, hB.trans ((below_drewN' wr nq).mono hB.size)⟩
      · have HF : Hid (spEq x y = spEq (x.drop (i + 1)) (y.drop (i + 1))) := by show _ = _; rw [HS.out, HD.out]; rfl
        go_wp2_with fail
        go_quiet (fail)
        go_wp2
        exact ⟨⟨i + 1, by omega, by go_num, HF, hB.trans ((below_drewN' wr nq).mono hB.size)⟩, by simp [intOf]; omega⟩
    · have HF : Hid (spEq x y = true) := by
        show _ = _
        have e1 : x.drop i = [] := List.drop_eq_nil_of_le (by omega)
        have e2 : y.drop i = [] := List.drop_eq_nil_of_le (by have := HL.out; omega)
        rw [HS.out, e1, e2]; rfl
      go_wp2
      go_ret
      exact ⟨by rw [HF.out]; rfl, hB⟩
set_option maxHeartbeats 1000000 in
theorem spans_nil (a1 a2 : Option Addr) (c1 c2 : Nat) (w : World) :
    Calls Tryd.prog 13 #[.slice a1 0 c1, .slice a2 0 c2] w fun e w' => e = .returned (.bool true) ∧ Below w.heap.size w w' := by
  go_enter Tryd.func13, Tryd.ntmps13
  go_wp2
  go_loop [5] (fun v => v = .int .i64 0) (fun _ => 0)
  case atStart => rfl
  case round =>
    subst hrel
    go_wp2
    go_ret
    exact ⟨rfl, Below.refl _ _⟩
theorem spans_any (x y : List (Nat × Nat)) (v u : Value) (w : World) (hx : SpIn w v x) (hy : SpIn w u y) :
    Calls Tryd.prog 13 #[v, u] w fun e w' => e = .returned (.bool (spEq x y)) ∧ Below w.heap.size w w' := by
  obtain ⟨a1, c1, rfl, h1, hx⟩ := hx
  obtain ⟨a2, c2, rfl, h2, hy⟩ := hy
  by_cases hlen : x.length = y.length
  · rcases hx with hx | ⟨b1, o1, rfl, hl1, hx⟩
    · subst hx
      have : y = [] := List.eq_nil_of_length_eq_zero (by simpa using hlen.symm)
      subst this
      exact spans_nil a1 a2 c1 c2 w
    · rcases hy with hy | ⟨b2, o2, rfl, hl2, hy⟩
      · subst hy
        have : x = [] := List.eq_nil_of_length_eq_zero (by simpa using hlen)
        subst this
        exact spans_nil _ a2 c1 c2 w
      · rw [← hlen]
        exact spans_same x y b1 o1 b2 o2 c1 c2 h1 hlen w hl1 hl2 hx hy
  · exact spans_len x y a1 a2 c1 c2 h1 h2 hlen w
end Go.Proofs.YtphcncgdodhlbaaDoor
namespace Go.Proofs.YtphcncgdodhlbaaDoor
set_option linter.unusedSimpArgs false
set_option linter.unusedVariables false
open Go.RowKit

set_option maxHeartbeats 1000000 in
theorem count_any (k : C4) (hk : k.ok) (w : World) :
    Calls Tryd.prog 16 #[k.v] w fun e w' => e = .returned (.int .i64 (cnt k.has 256)) ∧ Below w.heap.size w w' := by
  go_enter Tryd.func16, Tryd.ntmps16
  go_wp2
  go_loopw [3, 4] (fun u v wr => ∃ i c : Nat, i ≤ 256 ∧ c ≤ i ∧ Hid (c = cnt k.has i) ∧ v = .int .i64 i ∧ u = .int .i64 c ∧ Below w.heap.size w wr ∧ Hb wr w.heap.size k) (fun _ v _ => 256 - (intOf v).toNat)
  case atStart => exact ⟨0, 0, by omega, by omega, Eq.refl _, rfl, rfl, (Below.refl _ _).alloc (Nat.le_refl _) _, Hb.new _ k _ rfl⟩
  case round =>
    obtain ⟨i, c, hi, hc, HC, rfl, rfl, hB, hK⟩ := hrel
    obtain ⟨c0, c1, c2, c3, e0, e1, e2, e3⟩ := hK.all
    by_cases hlt : i < 256
    · have i1 : (i : Int) < 256 := by omega
      go_wp2_with fail
      refine (in_any k hk i hlt _).mono ?_
      rintro e w1 ⟨rfl, hb1⟩
      have hB1 := hB.trans (hb1.mono hB.size)
      have hK1 := hK.below hb1 hK.lt
      cases hn : k.has i
      · have HE : Hid (c = cnt k.has (i + 1)) := by show _ = _; rw [cnt, hn, HC.out]; rfl
        go_wp2
        exact ⟨⟨i + 1, c, by omega, by omega, HE, by go_num, by go_num, hB1, hK1⟩, by simp [intOf]; omega⟩
      · have HE : Hid (c + 1 = cnt k.has (i + 1)) := by show _ = _; rw [cnt, hn, HC.out]; rfl
        go_wp2
        exact ⟨⟨i + 1, c + 1, by omega, by omega, HE, by go_num, by go_num, hB1, hK1⟩, by simp [intOf]; omega⟩
    · have hi2 : i = 256 := by omega
      subst hi2
      go_wp2
      go_ret
      exact ⟨ret_int (by rw [HC.out]), hB⟩
end Go.Proofs.YtphcncgdodhlbaaDoor
namespace Go.Proofs.YtphcncgdodhlbaaDoor
set_option linter.unusedSimpArgs false
set_option linter.unusedVariables false
set_option maxRecDepth 100000
open Go.RowKit
theorem count_b (k : C4) (hk : k.ok) (w : World) :
    Calls Tryd.prog 16 #[k.v] w fun e w' => ∃ c : Nat, e = .returned (.int .i64 c) ∧ Hid (((0 : Int) < (c : Int)) ↔ ¬ k.eqb z4 = true) ∧ c ≤ 256 ∧ Below w.heap.size w w' := by
  refine (count_any k hk w).mono ?_
  rintro e w' ⟨rfl, hb⟩
  exact ⟨cnt k.has 256, rfl, cnt_zero_iff hk, cnt_le _ _, hb⟩
end Go.Proofs.YtphcncgdodhlbaaDoor
namespace Go.Proofs.YtphcncgdodhlbaaDoor
set_option linter.unusedSimpArgs false
set_option linter.unusedVariables false
set_option maxRecDepth 100000
open Go.RowKit

set_option maxHeartbeats 4000000 in
theorem fault_at (ns : List Nd) (ho : NdOk ns) (b off cap : Nat) (hm : ns.length ≤ maxLen) (w : World) (hlt : b < w.heap.size) (hN : NsAt w b off ns) (h0 : 0 < ns.length) :
    Calls Tryd.prog 7 #[.slice (some ⟨b, off, none⟩) ns.length cap] w fun e w' => e = .returned (.int .i64 (faultL ns)) ∧ Below w.heap.size w w' := by
  have HM := (show Hid _ from hm)
  unfold maxLen at hm
  by_cases h60 : 60 < ns.length
  · have g60 : (60 : Int) < (ns.length : Int) := by omega
    have HF : Hid (faultL ns = 3) := by show _ = _; rw [faultL, if_pos h60]
    go_enter Tryd.func7, Tryd.ntmps7
    go_wp2
    go_ret
    exact ⟨by rw [HF.out]; rfl, Below.refl _ _⟩
  · have g60 : ¬ (60 : Int) < (ns.length : Int) := by omega
    go_enter Tryd.func7, Tryd.ntmps7
    go_wp2
    go_loopw [3] (fun v wr => ∃ i : Nat, i ≤ ns.length ∧ v = .int .i64 i ∧ Hid (scanL ns = scanL (ns.drop i)) ∧ Below w.heap.size w wr) (fun v _ => ns.length - (intOf v).toNat)
    case atStart => exact ⟨0, by omega, rfl, Eq.refl _, Below.refl _ _⟩
    case round =>
      obtain ⟨i, hi, rfl, HS, hB⟩ := hrel
      have hNr := hN.below hB hlt
      by_cases hil : i < ns.length
      · obtain ⟨n, hn⟩ : ∃ n, ns[i]? = some n := ⟨ns[i], List.getElem?_eq_getElem hil⟩
        have hno : n.c.ok := ho n (List.mem_of_getElem? hn)
        obtain ⟨c0, c1, c2, c3, c4⟩ := hNr i n hn
        have HD : Hid _ := scan_drop ns i n hn
        have i0 : (0 : Int) ≤ (i : Int) := by omega
        have i1 : (i : Int) < (ns.length : Int) := by omega
        clear hn
        by_cases hr : n.op < 1 ∨ 9 < n.op
        · have HF : Hid (faultL ns = 1) := by
            show _ = _
            have e1 : scanL ns = 1 := by rw [HS.out, HD.out, if_pos hr]
            rw [faultL, if_neg h60, e1]; rfl
          rcases hr with hr | hr
          · go_wp2
            go_ret
            exact ⟨by rw [HF.out]; rfl, hB⟩
          · have hr2 : ¬ n.op < 1 := by omega
            go_wp2
            go_ret
            exact ⟨by rw [HF.out]; rfl, hB⟩
        · have hr1 : ¬ n.op < 1 := by omega
          have hr2 : ¬ 9 < n.op := by omega
          by_cases hb1 : n.op = 1
          · have hb2 : (n.op != 1) = false := by simp [hb1]
            have HS2 : Hid (scanL ns = scanL (ns.drop (i + 1))) := by
              show _ = _
              rw [HS.out, HD.out, if_neg hr, if_neg (by simp [hb1])]
            clear hb1
            go_wp2
            exact ⟨⟨i + 1, by omega, by go_num, HS2, hB⟩, by simp [intOf]; omega⟩
          · have hb2 : (n.op != 1) = true := by simp [hb1]
            go_wp2_with fail
            refine (count_b n.c hno _).mono ?_
            rintro e w1 ⟨c, rfl, HC, hc, hb3⟩
            have hB1 := hB.trans (hb3.mono hB.size)
            by_cases hz : n.c.eqb z4 = true
            · have gz : ¬ (0 : Int) < (c : Int) := fun h => (HC.out.1 h) hz
              have HS2 : Hid (scanL ns = scanL (ns.drop (i + 1))) := by
                show _ = _
                rw [HS.out, HD.out, if_neg hr, if_neg (by simp [hz])]
              clear hz
              go_wp2
              exact ⟨⟨i + 1, by omega, by go_num, HS2, hB1⟩, by simp [intOf]; omega⟩
            · have gz : (0 : Int) < (c : Int) := HC.out.2 hz
              have HF : Hid (faultL ns = 2) := by
                show _ = _
                have e1 : scanL ns = 2 := by rw [HS.out, HD.out, if_neg hr, if_pos ⟨hb1, hz⟩]
                rw [faultL, if_neg h60, e1]; rfl
              clear hz
              go_wp2
              go_ret
              exact ⟨by rw [HF.out]; rfl, hB1⟩
      · have hi2 : i = ns.length := by omega
        subst hi2
        have e0 : scanL ns = 0 := by rw [HS.out, List.drop_length]; rfl
        have z0 : ((ns.length : Int) == 0) = false := by rw [beq_eq_false_iff_ne]; omega
        have hne : ns ≠ [] := by intro e; rw [e] at h0; simp at h0
        have HF : Hid (faultL ns = if endE ns 0 ≠ some ns.length then 2 else 0) := by
          show _ = _
          rw [faultL, if_neg h60, e0]
          simp [hne]
        clear e0 hne
        go_wp2_with fail
        refine (endOf_any ns _ 0 _ ⟨_, cap, rfl, HM.out, Or.inr ⟨b, off, rfl, Nat.lt_of_lt_of_le hlt hB.size, hNr⟩⟩).mono ?_
        rintro e w1 ⟨rfl, rfl⟩
        cases he : endE ns 0 with
        | none =>
          have HF2 : Hid (faultL ns = 2) := by show _ = _; rw [HF.out, he]; simp
          have q : ((-1 : Int) != (ns.length : Int)) = true := by rw [bne_iff_ne]; omega
          simp only [endI]
          clear he
          go_wp2
          go_ret
          exact ⟨by rw [HF2.out]; rfl, hB⟩
        | some j =>
          by_cases hj : j = ns.length
          · have HF2 : Hid (faultL ns = 0) := by show _ = _; rw [HF.out, he, hj]; simp
            simp only [endI]
            have q : ((j : Int) != (ns.length : Int)) = false := by rw [hj]; simp
            clear he hj
            go_wp2
            go_ret
            exact ⟨by rw [HF2.out]; rfl, hB⟩
          · have HF2 : Hid (faultL ns = 2) := by show _ = _; rw [HF.out, he]; simp [hj]
            simp only [endI]
            have q : ((j : Int) != (ns.length : Int)) = true := by rw [bne_iff_ne]; omega
            clear he hj
            go_wp2
            go_ret
            exact ⟨by rw [HF2.out]; rfl, hB⟩
set_option maxHeartbeats 1000000 in
theorem fault_nil (a : Option Addr) (cap : Nat) (w : World) :
    Calls Tryd.prog 7 #[.slice a 0 cap] w fun e w' => e = .returned (.int .i64 2) ∧ Below w.heap.size w w' := by
  go_enter Tryd.func7, Tryd.ntmps7
  go_wp2
  go_loop [3] (fun v => v = .int .i64 0) (fun _ => 0)
  case atStart => rfl
  case round =>
    subst hrel
    go_wp2
    go_ret
    exact ⟨rfl, Below.refl _ _⟩
theorem fault_any (ns : List Nd) (ho : NdOk ns) (v : Value) (w : World) (hN : NsIn w v ns) :
    Calls Tryd.prog 7 #[v] w fun e w' => e = .returned (.int .i64 (faultL ns)) ∧ Below w.heap.size w w' := by
  obtain ⟨a, cap, rfl, hm, h | ⟨b, off, rfl, hlt, hn⟩⟩ := hN
  · subst h
    exact fault_nil a cap w
  · by_cases h0 : 0 < ns.length
    · exact fault_at ns ho b off cap hm w hlt hn h0
    · have : ns = [] := List.eq_nil_of_length_eq_zero (by omega)
      subst this
      exact fault_nil _ cap w
end Go.Proofs.YtphcncgdodhlbaaDoor
