/- What the document's own functions answer: TurnOf. What winnowfansame.Nodes answers. The law RexIs: from what package rex answers. -/
import Derived.Test.YtajkkmnojfghoaaDoorY11
import Derived.Test.YtajkkmnojfghoaaDoorY02
import Derived.Test.YtajkkmnojfghoaaDoorY07
import Derived.Test.YtajkkmnojfghoaaDoorY03
namespace Go.Proofs.YtajkkmnojfghoaaDoor
set_option linter.unusedSimpArgs false
set_option linter.unusedVariables false
set_option maxRecDepth 100000
open Go.RowKit

/-- A block that holds a node. -/
def ndObT (op : Int) (c : C4) : Obj := .cells #[.int .i64 op, .int .u64 c.a, .int .u64 c.b, .int .u64 c.c, .int .u64 c.d] 56 (0, 0)
structure TurSet (w w2 : World) (op : Int) (c : C4) : Prop where
  b : Below w.heap.size w w2
  s : w2.heap.size = w.heap.size + 2
  c0 : w2.cell? ⟨w.heap.size, 0, none⟩ = some (.int .i64 op)
  o : NsOwn w2 w.heap.size (.slice (some ⟨w.heap.size + 1, 0, none⟩) 1 1) [⟨op, c⟩]
theorem tur_set (w : World) (op : Int) (c : C4) : TurSet w ((w.alloc (ndObT op c)).alloc (ndObT op c)) op c := by
  have hh1 : (w.alloc (ndObT op c)).heap.size = w.heap.size + 1 := by simp
  have e1 : (w.alloc (ndObT op c)).heap[w.heap.size]? = some (ndObT op c) := by show (w.heap.push _)[w.heap.size]? = _; simp
  have e2 : ((w.alloc (ndObT op c)).alloc (ndObT op c)).heap[w.heap.size]? = some (ndObT op c) := (Below.heap_alloc _ _ _ (by omega)).trans e1
  have e3 : ((w.alloc (ndObT op c)).alloc (ndObT op c)).heap[w.heap.size + 1]? = some (ndObT op c) := by
    have : ((w.alloc (ndObT op c)).alloc (ndObT op c)).heap[(w.alloc (ndObT op c)).heap.size]? = some (ndObT op c) := by
      generalize w.alloc (ndObT op c) = w1
      show (w1.heap.push _)[w1.heap.size]? = _
      simp
    rwa [hh1] at this
  refine ⟨?_, ?_, ?_, ?_⟩
  · exact Below.alloc (Below.alloc (Below.refl _ _) (Nat.le_refl _) _) (by omega) _
  · simp
  · rw [Lib.cell_of_heap e2]; rfl
  · refine ⟨rfl, Or.inr ⟨w.heap.size + 1, 1, _, rfl, by omega, e3, Nat.le_refl 1, by decide, rfl, rfl⟩⟩
structure TurMid (w w2 w3 w4 : World) (op : Int) (c : C4) : Prop where
  b : Below w.heap.size w w4
  c0 : w4.cell? ⟨w.heap.size, 0, none⟩ = some (.int .i64 op)
  o : NsOwn w4 w.heap.size (.slice (some ⟨w.heap.size + 1, 0, none⟩) 1 1) [⟨op, c⟩]
  k : ∀ g j u, w2.heap.size ≤ g → g < w3.heap.size → w3.cell? ⟨g, j, none⟩ = some u → w4.cell? ⟨g, j, none⟩ = some u
theorem tur_mid {w w2 w3 w4 : World} {op : Int} {c : C4} (h : TurSet w w2 op c) (h3 : Below w2.heap.size w2 w3) (h4 : Below w3.heap.size w3 w4) : TurMid w w2 w3 w4 op c := by
  have hs := h.s
  have s3 := h3.size
  have B : Below w2.heap.size w2 w4 := h3.trans (h4.mono s3)
  refine ⟨h.b.trans (B.mono (by omega)), ?_, h.o.below B, ?_⟩
  · exact (B.cell (p := ⟨w.heap.size, 0, none⟩) (by simp only; omega)).trans h.c0
  · intro g j u _ hg hc
    exact (h4.cell (p := ⟨g, j, none⟩) hg).trans hc
set_option maxHeartbeats 4000000 in
theorem turnOf_leaf (ns : List Nd) (b off cap : Nat) (hm : ns.length ≤ maxLen) (w : World) (hlt : b < w.heap.size) (hN : NsAt w b off ns) (i : Nat) (n : Nd) (hn : ns[i]? = some n) (h0 : prt n.op = 0) (h8 : n.op ≠ 8) (h9 : n.op ≠ 9) :
    Calls Tryd.prog 28 #[.slice (some ⟨b, off, none⟩) ns.length cap, .int .i64 i] w fun e w' => ∃ v, e = .returned v ∧ Below w.heap.size w w' ∧ NsOwn w' w.heap.size v [n.flip] := by
  have hil : i < ns.length := by
    rcases Nat.lt_or_ge i ns.length with h' | h'
    · exact h'
    · rw [List.getElem?_eq_none h'] at hn; cases hn
  obtain ⟨c0, c1, c2, c3, c4⟩ := hN i n hn
  have i0 : (0 : Int) ≤ (i : Int) := by omega
  have i1 : (i : Int) < (ns.length : Int) := by omega
  have p8 : (n.op == 8) = false := by simp [h8]
  have p9 : (n.op == 9) = false := by simp [h9]
  have HF : Hid (n.flip = n) := by show _ = _; simp [Nd.flip, flipOp, h8, h9]
  have HP := (show Hid _ from parts_any n.op)
  have TS := (show Hid _ from tur_set w n.op n.c)
  have H0 := (show Hid _ from h0)
  clear hn h0 h8 h9
  go_enter Tryd.func28, Tryd.ntmps28
  go_wp2_with fail
  refine Calls.mono (HP.out _) ?_
  rintro e w1 ⟨rfl, rfl⟩
  rw [H0.out]
  go_wp2
  go_ret
  exact ⟨_, rfl, TS.out.b, by rw [HF.out]; exact TS.out.o⟩
set_option maxHeartbeats 4000000 in
theorem turnOf_flip (ns : List Nd) (b off cap : Nat) (hm : ns.length ≤ maxLen) (w : World) (hlt : b < w.heap.size) (hN : NsAt w b off ns) (i : Nat) (n : Nd) (hn : ns[i]? = some n) (h8 : n.op = 8 ∨ n.op = 9) :
    Calls Tryd.prog 28 #[.slice (some ⟨b, off, none⟩) ns.length cap, .int .i64 i] w fun e w' => ∃ v, e = .returned v ∧ Below w.heap.size w w' ∧ NsOwn w' w.heap.size v [n.flip] := by
  have hil : i < ns.length := by
    rcases Nat.lt_or_ge i ns.length with h' | h'
    · exact h'
    · rw [List.getElem?_eq_none h'] at hn; cases hn
  obtain ⟨c0, c1, c2, c3, c4⟩ := hN i n hn
  have i0 : (0 : Int) ≤ (i : Int) := by omega
  have i1 : (i : Int) < (ns.length : Int) := by omega
  obtain ⟨op, c⟩ := n
  clear hn
  simp only at *
  rcases h8 with rfl | rfl
  · have TS := (show Hid _ from tur_set w 9 c)
    go_enter Tryd.func28, Tryd.ntmps28
    go_wp2
    go_ret
    exact ⟨_, rfl, TS.out.b, TS.out.o⟩
  · have TS := (show Hid _ from tur_set w 8 c)
    go_enter Tryd.func28, Tryd.ntmps28
    go_wp2
    go_ret
    exact ⟨_, rfl, TS.out.b, TS.out.o⟩
/-- The contract of a call at i. -/
def TurOk (ns : List Nd) (b off cap i : Nat) (t : List Nd) : Prop := ∀ w : World, b < w.heap.size → NsAt w b off ns →
  Calls Tryd.prog 28 #[.slice (some ⟨b, off, none⟩) ns.length cap, .int .i64 i] w fun e w' => ∃ v, e = .returned v ∧ Below w.heap.size w w' ∧ NsOwn w' w.heap.size v t
set_option maxHeartbeats 4000000 in
theorem turnOf_one (ns : List Nd) (b off cap : Nat) (hm40 : ns.length * 40 ≤ 140737488355328) (w : World) (hlt : b < w.heap.size) (hN : NsAt w b off ns) (i : Nat) (n : Nd) (hn : ns[i]? = some n) (h0 : prt n.op = 1) (t : List Nd) (ht : TurOk ns b off cap (i + 1) t) (ht0 : 0 < t.length) (htl : t.length < ns.length) :
    Calls Tryd.prog 28 #[.slice (some ⟨b, off, none⟩) ns.length cap, .int .i64 i] w fun e w' => ∃ v, e = .returned v ∧ Below w.heap.size w w' ∧ NsOwn w' w.heap.size v (n.flip :: t) := by
  have hil : i < ns.length := by
    rcases Nat.lt_or_ge i ns.length with h' | h'
    · exact h'
    · rw [List.getElem?_eq_none h'] at hn; cases hn
  obtain ⟨c0, c1, c2, c3, c4⟩ := hN i n hn
  have i0 : (0 : Int) ≤ (i : Int) := by omega
  have i1 : (i : Int) < (ns.length : Int) := by omega
  have h8 : n.op ≠ 8 := by intro e; rw [e] at h0; simp [prt] at h0
  have h9 : n.op ≠ 9 := by intro e; rw [e] at h0; simp [prt] at h0
  have p8 : (n.op == 8) = false := by simp [h8]
  have p9 : (n.op == 9) = false := by simp [h9]
  have HF : Hid (n.flip = n) := by show _ = _; simp [Nd.flip, flipOp, h8, h9]
  obtain ⟨w2, TS, HP⟩ : ∃ w2, Hid (TurSet w w2 n.op n.c) ∧ Hid (Calls Tryd.prog 55 #[.int .i64 n.op] ((w.alloc (ndObT n.op n.c)).alloc (ndObT n.op n.c)) fun e w' => e = .returned (.int .i64 1) ∧ w' = w2) := by
    refine ⟨_, tur_set w n.op n.c, ?_⟩
    have := parts_any n.op ((w.alloc (ndObT n.op n.c)).alloc (ndObT n.op n.c))
    rw [h0] at this
    exact this
  have C1 : Hid _ := ht w2 (Nat.lt_of_lt_of_le hlt TS.out.b.size) (hN.below TS.out.b hlt)
  rw [arg_succ] at C1
  have HM := (show Hid _ from hm40)
  have HL := (show Hid _ from And.intro ht0 htl)
  have hm : ns.length ≤ 3518437208883 := by omega
  clear hn h0 h8 h9 hN ht hm40 ht0 htl
  go_enter Tryd.func28, Tryd.ntmps28
  go_wp2_with fail
  refine Calls.mono HP.out ?_
  rintro e w1 ⟨rfl, rfl⟩
  go_wp2_with fail
  refine Calls.mono C1.out ?_
  rintro e w3 ⟨v, rfl, hb3, ho3⟩
  obtain ⟨g, cap3, rfl, hg1, hg2, hc3⟩ := ho3.form HL.out.1
  have B3 := (show Hid _ from hb3)
  have O3 := (show Hid _ from TS.out.o.below hb3)
  have S3 := (show Hid _ from hc3)
  have BB : Hid (Below w.heap.size w w3) := TS.out.b.trans (hb3.mono (by have := TS.out.s; omega))
  clear hb3 ho3 hg1 hg2 hc3
  go_wp2_with (at_builtin; refine wpList_append_ns (by rfl) _ _ (by rfl) w.heap.size _ (by rfl) _ O3.out g _ _ t (by rfl) (by rfl) S3.out HL.out.1 (by have := HL.out; have := HM.out; simp; omega) BB.out.size ?_; intro g4 cap4 w4 ho4 hg4 hb4 hl4)
  go_ret
  refine ⟨_, rfl, BB.out.grown hg4 BB.out.size (fun k hk => ?_), ?_⟩
  · injection hk with hk
    simp only at hk
    omega
  · rw [HF.out]
    exact ho4
set_option maxHeartbeats 4000000 in
theorem turnOf_two (ns : List Nd) (b off cap : Nat) (hm40 : ns.length * 40 ≤ 140737488355328) (w : World) (hlt : b < w.heap.size) (hN : NsAt w b off ns) (i : Nat) (n : Nd) (hn : ns[i]? = some n) (h0 : prt n.op = 2) (k : Nat) (t u : List Nd) (ht : TurOk ns b off cap (i + 1) t) (hu : TurOk ns b off cap k u)
    (hE : ∀ w : World, b < w.heap.size → NsAt w b off ns → Calls Tryd.prog 32 #[.slice (some ⟨b, off, none⟩) ns.length cap, .int .i64 (i + 1 : Nat)] w fun e w' => e = .returned (.int .i64 k) ∧ w' = w)
    (ht0 : 0 < t.length) (hu0 : 0 < u.length) (htl : t.length + u.length < ns.length) :
    Calls Tryd.prog 28 #[.slice (some ⟨b, off, none⟩) ns.length cap, .int .i64 i] w fun e w' => ∃ v, e = .returned v ∧ Below w.heap.size w w' ∧ NsOwn w' w.heap.size v (n.flip :: (if n.op = 3 then u ++ t else t ++ u)) := by
  have hil : i < ns.length := by
    rcases Nat.lt_or_ge i ns.length with h' | h'
    · exact h'
    · rw [List.getElem?_eq_none h'] at hn; cases hn
  obtain ⟨c0, c1, c2, c3, c4⟩ := hN i n hn
  have i0 : (0 : Int) ≤ (i : Int) := by omega
  have i1 : (i : Int) < (ns.length : Int) := by omega
  have h8 : n.op ≠ 8 := by intro e; rw [e] at h0; simp [prt] at h0
  have h9 : n.op ≠ 9 := by intro e; rw [e] at h0; simp [prt] at h0
  have p8 : (n.op == 8) = false := by simp [h8]
  have p9 : (n.op == 9) = false := by simp [h9]
  have HF : Hid (n.flip = n) := by show _ = _; simp [Nd.flip, flipOp, h8, h9]
  obtain ⟨w2, TS, HP⟩ : ∃ w2, Hid (TurSet w w2 n.op n.c) ∧ Hid (Calls Tryd.prog 55 #[.int .i64 n.op] ((w.alloc (ndObT n.op n.c)).alloc (ndObT n.op n.c)) fun e w' => e = .returned (.int .i64 2) ∧ w' = w2) := by
    refine ⟨_, tur_set w n.op n.c, ?_⟩
    have := parts_any n.op ((w.alloc (ndObT n.op n.c)).alloc (ndObT n.op n.c))
    rw [h0] at this
    exact this
  have C1 : Hid _ := ht w2 (Nat.lt_of_lt_of_le hlt TS.out.b.size) (hN.below TS.out.b hlt)
  have CU := (show Hid _ from hu)
  have CE := (show Hid _ from hE)
  rw [arg_succ] at C1 CE
  have HN := (show Hid _ from hN)
  have HM := (show Hid _ from hm40)
  have HL := (show Hid _ from And.intro ht0 (And.intro hu0 htl))
  have hm : ns.length ≤ 3518437208883 := by omega
  clear hn h0 h8 h9 hN ht hm40 ht0 htl hu hE hu0
  by_cases h3 : n.op = 3
  · have p3 : (n.op == 3) = true := by simp [h3]
    rw [if_pos h3, HF.out]
    have H3 := (show Hid _ from h3)
    clear h3
    go_enter Tryd.func28, Tryd.ntmps28
    go_wp2_with fail
    refine Calls.mono HP.out ?_
    rintro e w2 ⟨rfl, rfl⟩
    go_wp2_with fail
    refine Calls.mono C1.out ?_
    rintro e w3 ⟨v, rfl, hb3, ho3⟩
    obtain ⟨g, cap3, rfl, hg1, hg2, hc3⟩ := ho3.form HL.out.1
    have BB : Hid (Below w.heap.size w w3) := TS.out.b.trans (hb3.mono (by have := TS.out.s; omega))
    have B3 := (show Hid _ from hb3)
    have G3 := (show Hid _ from And.intro hg1 (And.intro hg2 hc3))
    have C5 : Hid _ := CE.out w3 (Nat.lt_of_lt_of_le hlt BB.out.size) (NsAt.below HN.out BB.out hlt)
    have C6 : Hid _ := CU.out w3 (Nat.lt_of_lt_of_le hlt BB.out.size) (NsAt.below HN.out BB.out hlt)
    clear hb3 ho3 hg1 hg2 hc3
    go_wp2_with fail
    refine Calls.mono C5.out ?_
    rintro e w3 ⟨rfl, rfl⟩
    go_wp2_with fail
    refine Calls.mono C6.out ?_
    rintro e w4 ⟨v, rfl, hb4, ho4⟩
    obtain ⟨gu, cap4, rfl, hg1, hg2, hc4⟩ := ho4.form HL.out.2.1
    have TM := (show Hid _ from tur_mid TS.out B3.out hb4)
    have c5 := TM.out.c0
    have T4 : Hid (∀ (j : Nat) u, (nsCells t)[j]? = some u → w4.cell? ⟨g, j, none⟩ = some u) := fun j u hj => TM.out.k g j u G3.out.1 G3.out.2.1 (G3.out.2.2 j u hj)
    have U4 := (show Hid _ from hc4)
    have GU : Hid ((w.heap.size + 2 ≤ g ∧ g < w4.heap.size) ∧ w.heap.size + 2 ≤ gu ∧ gu < w4.heap.size) := by
      have := TS.out.s
      have := B3.out.size
      have := hb4.size
      have := G3.out.1
      have := G3.out.2.1
      refine ⟨⟨?_, ?_⟩, ?_, hg2⟩ <;> omega
    clear hb4 ho4 hg1 hg2 hc4
    go_wp2_with (at_builtin; first
      | (refine wpList_append_ns (by rfl) _ _ (by rfl) w.heap.size _ (by rfl) _ TM.out.o gu _ _ u (by rfl) (by rfl) U4.out HL.out.2.1 (by have := HL.out; have := HM.out; simp; omega) TM.out.b.size ?_; intro g5 cap5 w5 ho5 hg5 hb5 hl5; have O5 := (show Hid _ from ho5); have W5 : Hid (w4.grownBy w5 (some (w.heap.size + 1))) := hg5; clear ho5 hg5)
      | (refine wpList_append_ns (by rfl) _ _ (by rfl) w.heap.size _ (by rfl) _ O5.out g _ _ t (by rfl) (by rfl) (grown_cells W5.out (by have := GU.out; omega) (by have := GU.out; omega) T4.out) HL.out.1 (by have := HL.out; have := HM.out; simp; omega) (Nat.le_trans TM.out.b.size W5.out.size) ?_; intro g6 cap6 w6 ho6 hg6 hb6 hl6))
    go_ret
    refine ⟨_, rfl, (TM.out.b.grown W5.out TM.out.b.size (fun k hk => ?_)).grown hg6 (Nat.le_trans TM.out.b.size W5.out.size) (fun k hk => ?_), ?_⟩
    · injection hk with hk
      try simp only at hk
      omega
    · injection hk with hk
      try simp only at hk
      omega
    · exact ho6
  · have p3 : (n.op == 3) = false := by simp [h3]
    rw [if_neg h3, HF.out]
    have H3 := (show Hid _ from h3)
    clear h3
    go_enter Tryd.func28, Tryd.ntmps28
    go_wp2_with fail
    refine Calls.mono HP.out ?_
    rintro e w2 ⟨rfl, rfl⟩
    go_wp2_with fail
    refine Calls.mono C1.out ?_
    rintro e w3 ⟨v, rfl, hb3, ho3⟩
    obtain ⟨g, cap3, rfl, hg1, hg2, hc3⟩ := ho3.form HL.out.1
    have BB : Hid (Below w.heap.size w w3) := TS.out.b.trans (hb3.mono (by have := TS.out.s; omega))
    have B3 := (show Hid _ from hb3)
    have G3 := (show Hid _ from And.intro hg1 (And.intro hg2 hc3))
    have C5 : Hid _ := CE.out w3 (Nat.lt_of_lt_of_le hlt BB.out.size) (NsAt.below HN.out BB.out hlt)
    have C6 : Hid _ := CU.out w3 (Nat.lt_of_lt_of_le hlt BB.out.size) (NsAt.below HN.out BB.out hlt)
    clear hb3 ho3 hg1 hg2 hc3
    go_wp2_with fail
    refine Calls.mono C5.out ?_
    rintro e w3 ⟨rfl, rfl⟩
    go_wp2_with fail
    refine Calls.mono C6.out ?_
    rintro e w4 ⟨v, rfl, hb4, ho4⟩
    obtain ⟨gu, cap4, rfl, hg1, hg2, hc4⟩ := ho4.form HL.out.2.1
    have TM := (show Hid _ from tur_mid TS.out B3.out hb4)
    have c5 := TM.out.c0
    have T4 : Hid (∀ (j : Nat) u, (nsCells t)[j]? = some u → w4.cell? ⟨g, j, none⟩ = some u) := fun j u hj => TM.out.k g j u G3.out.1 G3.out.2.1 (G3.out.2.2 j u hj)
    have U4 := (show Hid _ from hc4)
    have GU : Hid ((w.heap.size + 2 ≤ g ∧ g < w4.heap.size) ∧ w.heap.size + 2 ≤ gu ∧ gu < w4.heap.size) := by
      have := TS.out.s
      have := B3.out.size
      have := hb4.size
      have := G3.out.1
      have := G3.out.2.1
      refine ⟨⟨?_, ?_⟩, ?_, hg2⟩ <;> omega
    clear hb4 ho4 hg1 hg2 hc4
    go_wp2_with (at_builtin; first
      | (refine wpList_append_ns (by rfl) _ _ (by rfl) w.heap.size _ (by rfl) _ TM.out.o g _ _ t (by rfl) (by rfl) T4.out HL.out.1 (by have := HL.out; have := HM.out; simp; omega) TM.out.b.size ?_; intro g5 cap5 w5 ho5 hg5 hb5 hl5; have O5 := (show Hid _ from ho5); have W5 : Hid (w4.grownBy w5 (some (w.heap.size + 1))) := hg5; clear ho5 hg5)
      | (refine wpList_append_ns (by rfl) _ _ (by rfl) w.heap.size _ (by rfl) _ O5.out gu _ _ u (by rfl) (by rfl) (grown_cells W5.out (by have := GU.out; omega) (by have := GU.out; omega) U4.out) HL.out.2.1 (by have := HL.out; have := HM.out; simp; omega) (Nat.le_trans TM.out.b.size W5.out.size) ?_; intro g6 cap6 w6 ho6 hg6 hb6 hl6))
    go_ret
    refine ⟨_, rfl, (TM.out.b.grown W5.out TM.out.b.size (fun k hk => ?_)).grown hg6 (Nat.le_trans TM.out.b.size W5.out.size) (fun k hk => ?_), ?_⟩
    · injection hk with hk
      try simp only at hk
      omega
    · injection hk with hk
      try simp only at hk
      omega
    · exact ho6
theorem turnOf_at (ns : List Nd) (b off cap : Nat) (hm40 : ns.length * 40 ≤ 140737488355328) : ∀ (f i j : Nat), f ≤ ns.length + 1 → endF ns f i = some j → TurOk ns b off cap i (turF ns f i)
  | 0, i, j, _, h => by simp [endF] at h
  | f + 1, i, j, hf, h => by
    have hml : ns.length ≤ maxLen := by unfold maxLen; omega
    obtain ⟨n, hn, hil, hc⟩ := part_cases ns f i j h
    have gj := endF_gt ns (f + 1) i j h
    intro w hlt hN
    rw [turF_at ns f i n hn]
    rcases hc with ⟨h0, rfl⟩ | ⟨h0, h1⟩ | ⟨h0, k, h1, h2⟩
    · have e3 : ¬ n.op = 3 := by intro e; rw [e] at h0; simp [prt] at h0
      have e4 : ¬ n.op = 4 := by intro e; rw [e] at h0; simp [prt] at h0
      rw [if_neg (by omega), if_neg e3, if_neg e4]
      by_cases h8 : n.op = 8
      · exact turnOf_flip ns b off cap hml w hlt hN i n hn (Or.inl h8)
      · by_cases h9 : n.op = 9
        · exact turnOf_flip ns b off cap hml w hlt hN i n hn (Or.inr h9)
        · exact turnOf_leaf ns b off cap hml w hlt hN i n hn h0 h8 h9
    · rw [if_pos h0]
      have l1 := turF_len ns f _ _ (by omega) h1
      have g1 := endF_gt ns f _ _ h1
      exact turnOf_one ns b off cap hm40 w hlt hN i n hn h0 _ (turnOf_at ns b off cap hm40 f _ _ (by omega) h1) (by omega) (by omega)
    · have l1 := turF_len ns f _ _ (by omega) h1
      have g1 := endF_gt ns f _ _ h1
      have l2 := turF_len ns f _ _ (by omega) h2
      have g2 := endF_gt ns f _ _ h2
      have c := turnOf_two ns b off cap hm40 w hlt hN i n hn h0 k _ _ (turnOf_at ns b off cap hm40 f _ _ (by omega) h1) (turnOf_at ns b off cap hm40 f _ _ (by omega) h2) (fun w hlt hN => endOf_k ns _ (i + 1) f k w ⟨_, cap, rfl, hml, Or.inr ⟨b, off, rfl, hlt, hN⟩⟩ (by omega) h1) (by omega) (by omega) (by omega)
      rw [if_neg (by omega), endE_of ns f (i + 1) k (by omega) h1]
      rcases (prt_two n.op).1 h0 with e3 | e4
      · rw [if_pos e3] at c ⊢
        exact c
      · rw [if_neg (by omega)] at c
        rw [if_neg (by omega), if_pos e4]
        exact c
theorem turnOf_any (ns : List Nd) (v : Value) (w : World) (hN : NsIn w v ns) (hm40 : ns.length * 40 ≤ 140737488355328) (hv : endE ns 0 = some ns.length) :
    Calls Tryd.prog 28 #[v, .int .i64 0] w fun e w' => ∃ v, e = .returned v ∧ Below w.heap.size w w' ∧ NsOwn w' w.heap.size v (turE ns) := by
  obtain ⟨a, cap, rfl, hm, h | ⟨b, off, rfl, hlt, hn⟩⟩ := hN
  · subst h
    rw [endE_nil] at hv; cases hv
  · exact turnOf_at ns b off cap hm40 (ns.length + 1) 0 ns.length (by omega) hv w hlt hn
end Go.Proofs.YtajkkmnojfghoaaDoor
namespace Go.Proofs.YtajkkmnojfghoaaDoor
set_option linter.unusedSimpArgs false
set_option linter.unusedVariables false
set_option maxRecDepth 100000
open Go.RowKit

theorem list2 {α : Type} (l : List α) (h : l.length = 2) : ∃ a b, l = [a, b] := by
  match l, h with
  | [a, b], _ => exact ⟨a, b, rfl⟩
set_option maxRecDepth 100000 in
theorem eqNd (d : Nat) (n m : Nd) (w : World) : (Op.equalIn (d + 1 + 1 + 1) 56 n.v m.v).run Tryd.prog w = .ok (n.eqb m) w := by
  have hs : Tryd.prog.underlying 56 = some (.struct (Tryd.prog.fieldsOf 56)) := by kernel_rfl
  have hp : Tryd.prog.stoodInHeld 56 = false := by kernel_rfl
  rw [run_equalIn_struct w (d + 1 + 1) _ _ _ hs hp]
  have hf : (Tryd.prog.fieldsOf 56).toList.map (fun f => (f.type, f.offset, f.name == "_")) = [(3, 0, false), (24, 1, false)] := by kernel_rfl
  generalize (Tryd.prog.fieldsOf 56).toList = fs at hf
  obtain ⟨f0, f1, rfl⟩ := list2 fs (by have := congrArg List.length hf; simpa using this)
  · simp only [List.map_cons, List.map_nil, List.cons.injEq, Prod.mk.injEq, and_true] at hf
    obtain ⟨⟨t0, o0, n0⟩, ⟨t1, o1, n1⟩⟩ := hf
    have n0' : f0.name ≠ "_" := by simpa using n0
    have n1' : f1.name ≠ "_" := by simpa using n1
    have hi : ∀ (a b : Int) (w : World), (Op.equalIn (d + 1 + 1) 3 (.int .i64 a) (.int .i64 b)).run Tryd.prog w = .ok (a == b) w := fun a b w => run_equalIn_int w (d + 1) 3 .i64 .i64 a b Tryd.underlying3
    have hc : ∀ (x y : C4) (w : World), (Op.equalIn (d + 1 + 1) 24 x.v y.v).run Tryd.prog w = .ok (x.eqb y) w := fun x y w => eq4d d x y w
    have q0 : ∀ (z : Nd) (w : World), (part 3 z.cells 0).run Tryd.prog w = .ok (.int .i64 z.op) w := fun _ _ => by kernel_rfl
    have q1 : ∀ (z : Nd) (w : World), (part 24 z.cells 1).run Tryd.prog w = .ok z.c.v w := fun _ _ => by kernel_rfl
    simp only [Op.eqFields, t0, o0, t1, o1, ne_eq, n0', n1', not_false_eq_true, if_true, Sem.run_bind, q0, q1, Result.andThen_ok, hi, hc, Sem.run_ite, Sem.run_pure]
    unfold Nd.eqb
    cases h1 : n.op == m.op <;> cases h2 : n.c.eqb m.c <;> simp [q1, hc, h2]
theorem eqN (n m : Nd) (w : World) : (Op.equalIn 10000 56 n.v m.v).run Tryd.prog w = .ok (n.eqb m) w := eqNd 9997 n m w
set_option maxHeartbeats 1000000 in
theorem nodes_len (x y : List Nd) (a1 a2 : Option Addr) (c1 c2 : Nat) (h1 : x.length ≤ maxLen) (h2 : y.length ≤ maxLen) (hne : x.length ≠ y.length) (w : World) :
    Calls Tryd.prog 31 #[.slice a1 x.length c1, .slice a2 y.length c2] w fun e w' => e = .returned (.bool (nsEq x y)) ∧ Below w.heap.size w w' := by
  rw [nsEq_len x y hne]
  have hb : ((x.length : Int) != (y.length : Int)) = true := by rw [bne_iff_ne]; omega
  clear hne
  go_enter Tryd.func31, Tryd.ntmps31
  go_wp2
  go_ret
  exact ⟨rfl, Below.refl _ _⟩
set_option maxHeartbeats 4000000 in
theorem nodes_same (x y : List Nd) (b1 o1 b2 o2 : Nat) (c1 c2 : Nat) (h1 : x.length ≤ maxLen) (hlen : x.length = y.length) (w : World) (hl1 : b1 < w.heap.size) (hl2 : b2 < w.heap.size) (hx : NsAt w b1 o1 x) (hy : NsAt w b2 o2 y) :
    Calls Tryd.prog 31 #[.slice (some ⟨b1, o1, none⟩) x.length c1, .slice (some ⟨b2, o2, none⟩) x.length c2] w fun e w' => e = .returned (.bool (nsEq x y)) ∧ Below w.heap.size w w' := by
  unfold maxLen at h1
  have he := eqN
  have HL := (show Hid _ from hlen)
  clear hlen
  go_enter Tryd.func31, Tryd.ntmps31
  go_wp2
  go_loopw [5] (fun v wr => ∃ i : Nat, i ≤ x.length ∧ v = .int .i64 i ∧ Hid (nsEq x y = nsEq (x.drop i) (y.drop i)) ∧ Below w.heap.size w wr) (fun v _ => x.length - (intOf v).toNat)
  case atStart => exact ⟨0, by omega, rfl, Eq.refl _, Below.refl _ _⟩
  case round =>
    obtain ⟨i, hi, rfl, HS, hB⟩ := hrel
    by_cases hil : i < x.length
    · obtain ⟨n, hn⟩ : ∃ n, x[i]? = some n := ⟨x[i], List.getElem?_eq_getElem hil⟩
      obtain ⟨m, hm⟩ : ∃ m, y[i]? = some m := ⟨y[i]'(by rw [← HL.out]; exact hil), List.getElem?_eq_getElem (by rw [← HL.out]; exact hil)⟩
      obtain ⟨a0, a1, a2, a3, a4⟩ := (hx.below hB hl1) i n hn
      obtain ⟨d0, d1, d2, d3, d4⟩ := (hy.below hB hl2) i m hm
      have HD : Hid _ := nsEq_drop x y i n m hn hm
      have i0 : (0 : Int) ≤ (i : Int) := by omega
      have i1 : (i : Int) < (x.length : Int) := by omega
      clear hn hm
      cases hq : n.eqb m
      · have HF : Hid (nsEq x y = false) := by show _ = _; rw [HS.out, HD.out, hq]; rfl
        go_wp2_with fail
        go_quiet (fail)
        go_wp2
        go_ret
        exact ⟨by rw [HF.out]; rfl, hB.trans ((below_drewN' wr nq).mono hB.size)⟩
      · have HF : Hid (nsEq x y = nsEq (x.drop (i + 1)) (y.drop (i + 1))) := by show _ = _; rw [HS.out, HD.out, hq]; rfl
        go_wp2_with fail
        go_quiet (fail)
        go_wp2
        exact ⟨⟨i + 1, by omega, by go_num, HF, hB.trans ((below_drewN' wr nq).mono hB.size)⟩, by simp [intOf]; omega⟩
    · have HF : Hid (nsEq x y = true) := by
        show _ = _
        have e1 : x.drop i = [] := List.drop_eq_nil_of_le (by omega)
        have e2 : y.drop i = [] := List.drop_eq_nil_of_le (by have := HL.out; omega)
        rw [HS.out, e1, e2]; rfl
      go_wp2
      go_ret
      exact ⟨by rw [HF.out]; rfl, hB⟩
set_option maxHeartbeats 1000000 in
theorem nodes_nil (a1 a2 : Option Addr) (c1 c2 : Nat) (w : World) :
    Calls Tryd.prog 31 #[.slice a1 0 c1, .slice a2 0 c2] w fun e w' => e = .returned (.bool true) ∧ Below w.heap.size w w' := by
  go_enter Tryd.func31, Tryd.ntmps31
  go_wp2
  go_loop [5] (fun v => v = .int .i64 0) (fun _ => 0)
  case atStart => rfl
  case round =>
    subst hrel
    go_wp2
    go_ret
    exact ⟨rfl, Below.refl _ _⟩
theorem nodes_any (x y : List Nd) (v u : Value) (w : World) (hx : NsIn w v x) (hy : NsIn w u y) :
    Calls Tryd.prog 31 #[v, u] w fun e w' => e = .returned (.bool (nsEq x y)) ∧ Below w.heap.size w w' := by
  obtain ⟨a1, c1, rfl, h1, hx⟩ := hx
  obtain ⟨a2, c2, rfl, h2, hy⟩ := hy
  by_cases hlen : x.length = y.length
  · rcases hx with hx | ⟨b1, o1, rfl, hl1, hx⟩
    · subst hx
      have : y = [] := List.eq_nil_of_length_eq_zero (by simpa using hlen.symm)
      subst this
      exact nodes_nil a1 a2 c1 c2 w
    · rcases hy with hy | ⟨b2, o2, rfl, hl2, hy⟩
      · subst hy
        have : x = [] := List.eq_nil_of_length_eq_zero (by simpa using hlen)
        subst this
        exact nodes_nil _ a2 c1 c2 w
      · rw [← hlen]
        exact nodes_same x y b1 o1 b2 o2 c1 c2 h1 hlen w hl1 hl2 hx hy
  · exact nodes_len x y a1 a2 c1 c2 h1 h2 hlen w
end Go.Proofs.YtajkkmnojfghoaaDoor
namespace Go.Proofs.YtajkkmnojfghoaaDoor
set_option linter.unusedSimpArgs false
set_option linter.unusedVariables false
set_option maxRecDepth 100000
open Go.RowKit

/-- What End answers: the place, and the fault. -/
def endN (ns : List Nd) (i : Int) : Int := if faultL ns = 0 ∧ 0 ≤ i ∧ i < ns.length then endI (endE ns i.toNat) else 0
def endErr (ns : List Nd) (i : Int) : Int := if faultL ns = 0 then (if 0 ≤ i ∧ i < ns.length then 0 else 1) else faultL ns
/-- What the document asks of package rex. -/
structure RexC : Prop extends RexT where
  check : ∀ ns v w, NsIn w v ns → (∀ n ∈ ns, n.wf) → Calls Tryd.prog 26 #[v] w fun e w' => e = .returned (errV (faultL ns)) ∧ Below w.heap.size w w'
  ends : ∀ ns v (i : Int) w, NsIn w v ns → (∀ n ∈ ns, n.wf) → Calls Tryd.prog 33 #[v, .int .i64 i] w fun e w' => e = .returned (.tuple #[.int .i64 (endN ns i), errV (endErr ns i)]) ∧ Below w.heap.size w w'
theorem rexEnd_in (ns : List Nd) (i : Int) (h : faultL ns = 0) (h1 : 0 ≤ i) (h2 : i < ns.length) : endN ns i = endI (endE ns i.toNat) ∧ endErr ns i = 0 := by
  simp [endN, endErr, h, h1, h2]
theorem rexEnd_out (ns : List Nd) (i : Int) (h : faultL ns = 0) (h1 : ¬ (0 ≤ i ∧ i < ns.length)) : endN ns i = 0 ∧ endErr ns i = 1 := by
  rw [endN, endErr, if_neg (fun h2 => h1 h2.2), if_pos h, if_neg h1]
  exact ⟨rfl, rfl⟩
theorem rexEnd_bad (ns : List Nd) (i : Int) (h : ¬ faultL ns = 0) : endN ns i = 0 ∧ endErr ns i = faultL ns := by
  rw [endN, endErr, if_neg (fun h2 => h h2.1), if_neg h]
  exact ⟨rfl, rfl⟩
set_option maxHeartbeats 4000000 in
theorem rexIs_bad (R : RexC) (ns : List Nd) (v : Value) (i : Int) (w : World) (hN : NsIn w v ns) (hw : ∀ n ∈ ns, n.wf) (hE : w.cell? ⟨0, 0, none⟩ = some (rty 28)) (h0 : 0 < w.heap.size) (hf : ¬ faultL ns = 0) :
    Calls Tryd.prog 4 #[v, .int .i64 i] w fun e w' => e = .returned (.bool true) ∧ Below w.heap.size w w' := by
  have HO : Hid (NdOk ns) := fun n hn => C4.wf_ok (hw n hn).2
  have H0 : Hid _ := h0
  have S0 : Hid (Stay w w) := ⟨Below.refl _ _, hE⟩
  obtain ⟨c1, c2⟩ := rexEnd_bad ns i hf
  have C1 : Hid (∀ w', Below w.heap.size w w' → Calls Tryd.prog 26 #[v] w' fun e w'' => e = .returned (errV (faultL ns)) ∧ Below w'.heap.size w' w'') := fun w' hb => R.check ns v w' (hN.below hb) hw
  have C2 : Hid (∀ w', Below w.heap.size w w' → Calls Tryd.prog 29 #[v] w' fun e w'' => e = .returned (.tuple #[.bool false, errV (faultL ns)]) ∧ Below w'.heap.size w' w'') := fun w' hb => by
    have := R.empty ns v w' (hN.below hb) hw
    rw [decide_eq_false hf, Bool.false_and] at this
    exact this
  have C3 : Hid (∀ w', Below w.heap.size w w' → Calls Tryd.prog 30 #[v] w' fun e w'' => ∃ u, e = .returned (.tuple #[u, errV (faultL ns)]) ∧ Below w'.heap.size w' w'' ∧ NsIn w'' u []) := fun w' hb => by
    have := R.turn ns v w' (hN.below hb) hw
    rw [if_neg hf] at this
    exact this
  have C4 : Hid (∀ w', Below w.heap.size w w' → Calls Tryd.prog 33 #[v, .int .i64 i] w' fun e w'' => e = .returned (.tuple #[.int .i64 0, errV (faultL ns)]) ∧ Below w'.heap.size w' w'') := fun w' hb => by
    have := R.ends ns v i w' (hN.below hb) hw
    rw [c1, c2] at this
    exact this
  have CF : Hid _ := fault_any ns HO.out v w hN
  obtain ⟨a, cap, rfl, hm⟩ := nsIn_form hN
  have pf : (faultL ns == 0) = false := by simp [hf]
  clear hw R hN hE h0 c1 c2 hf
  generalize faultL ns = ft at *
  go_enter Tryd.func4, Tryd.ntmps4
  go_wp2_with fail
  refine Calls.mono (CF.out) ?_
  rintro e w1 ⟨rfl, hb⟩
  have S1 : Hid (Stay w w1) := S0.out.more H0.out hb
  clear hb
  go_wp2_with fail
  refine Calls.mono (C1.out _ S1.out.b) ?_
  rintro e w2 ⟨rfl, hb⟩
  have S2 : Hid (Stay w w2) := S1.out.more H0.out hb
  clear hb
  go_wp2_with fail
  refine Calls.mono (error_self _ _ S2.out.e) ?_
  rintro e w3 ⟨rfl, hb⟩
  have S3 : Hid (Stay w w3) := S2.out.more H0.out hb
  clear hb
  go_wp2_with fail
  refine Calls.mono (C2.out _ S3.out.b) ?_
  rintro e w4 ⟨rfl, hb⟩
  have S4 : Hid (Stay w w4) := S3.out.more H0.out hb
  clear hb
  go_wp2_with fail
  refine Calls.mono (error_self _ _ S4.out.e) ?_
  rintro e w5 ⟨rfl, hb⟩
  have S5 : Hid (Stay w w5) := S4.out.more H0.out hb
  clear hb
  go_wp2_with fail
  refine Calls.mono (C3.out _ S5.out.b) ?_
  rintro e w6 ⟨u, rfl, hb, hu⟩
  have S6 : Hid (Stay w w6) := S5.out.more H0.out hb
  have U6u : Hid (NsIn w6 u []) := hu
  clear hb hu
  go_wp2_with fail
  refine Calls.mono (error_self _ _ S6.out.e) ?_
  rintro e w7 ⟨rfl, hb⟩
  have S7 : Hid (Stay w w7) := S6.out.more H0.out hb
  have U7u : Hid (NsIn w7 u []) := NsIn.below U6u.out hb
  clear hb
  have CN : Hid _ := nodes_any [] [] u (.slice none 0 0) w7 U7u.out (nsIn_nil _)
  rw [nsEq_refl] at CN
  go_wp2_with fail
  refine Calls.mono (CN.out) ?_
  rintro e w8 ⟨rfl, hb⟩
  have S8 : Hid (Stay w w8) := S7.out.more H0.out hb
  clear hb
  go_wp2_with fail
  refine Calls.mono (C4.out _ S8.out.b) ?_
  rintro e w9 ⟨rfl, hb⟩
  have S9 : Hid (Stay w w9) := S8.out.more H0.out hb
  clear hb
  go_wp2_with fail
  refine Calls.mono (error_self _ _ S9.out.e) ?_
  rintro e w10 ⟨rfl, hb⟩
  have S10 : Hid (Stay w w10) := S9.out.more H0.out hb
  clear hb
  go_wp2
  go_ret
  exact ⟨rfl, S10.out.b⟩
set_option maxHeartbeats 4000000 in
theorem rexIs_in (R : RexC) (ns : List Nd) (v : Value) (i : Int) (w : World) (hN : NsIn w v ns) (hw : ∀ n ∈ ns, n.wf) (hE : w.cell? ⟨0, 0, none⟩ = some (rty 28)) (h0 : 0 < w.heap.size) (hf : faultL ns = 0) (h1 : 0 ≤ i) (h2 : i < ns.length) :
    Calls Tryd.prog 4 #[v, .int .i64 i] w fun e w' => e = .returned (.bool true) ∧ Below w.heap.size w w' := by
  have HO : Hid (NdOk ns) := fun n hn => C4.wf_ok (hw n hn).2
  have H0 : Hid _ := h0
  have S0 : Hid (Stay w w) := ⟨Below.refl _ _, hE⟩
  obtain ⟨c1, c2⟩ := rexEnd_in ns i hf h1 h2
  obtain ⟨hl, _, hv⟩ := (faultL_zero ns).1 hf
  have C1 : Hid (∀ w', Below w.heap.size w w' → Calls Tryd.prog 26 #[v] w' fun e w'' => e = .returned (errV 0) ∧ Below w'.heap.size w' w'') := fun w' hb => by
    have := R.check ns v w' (hN.below hb) hw
    rw [hf] at this
    exact this
  have C2 : Hid (∀ w', Below w.heap.size w w' → Calls Tryd.prog 29 #[v] w' fun e w'' => e = .returned (.tuple #[.bool (empE ns), errV 0]) ∧ Below w'.heap.size w' w'') := fun w' hb => by
    have := R.empty ns v w' (hN.below hb) hw
    rw [decide_eq_true hf, Bool.true_and, hf] at this
    exact this
  have C3 : Hid (∀ w', Below w.heap.size w w' → Calls Tryd.prog 30 #[v] w' fun e w'' => ∃ u, e = .returned (.tuple #[u, errV 0]) ∧ Below w'.heap.size w' w'' ∧ NsIn w'' u (turE ns)) := fun w' hb => by
    have := R.turn ns v w' (hN.below hb) hw
    rw [if_pos hf, hf] at this
    exact this
  have C4 : Hid (∀ w', Below w.heap.size w w' → Calls Tryd.prog 33 #[v, .int .i64 i] w' fun e w'' => e = .returned (.tuple #[.int .i64 (endI (endE ns i.toNat)), errV 0]) ∧ Below w'.heap.size w' w'') := fun w' hb => by
    have := R.ends ns v i w' (hN.below hb) hw
    rw [c1, c2] at this
    exact this
  have CF : Hid (Calls Tryd.prog 25 #[v] w fun e w' => e = .returned (.int .i64 0) ∧ Below w.heap.size w w') := by
    have := fault_any ns HO.out v w hN
    rw [hf] at this
    exact this
  have R1 : Hid (∀ w', Below w.heap.size w w' → Calls Tryd.prog 27 #[v, .int .i64 0] w' fun e w'' => e = .returned (.bool (empE ns)) ∧ w'' = w') := fun w' hb => emptyOf_any ns v w' (hN.below hb) hv
  have R2 : Hid (∀ w', Below w.heap.size w w' → Calls Tryd.prog 28 #[v, .int .i64 0] w' fun e w'' => ∃ u, e = .returned u ∧ Below w'.heap.size w' w'' ∧ NsIn w'' u (turE ns)) := fun w' hb =>
    (turnOf_any ns v w' (hN.below hb) (by omega) hv).mono fun e w'' ⟨u, h1, h2, h3⟩ => ⟨u, h1, h2, h3.isIn (by rw [turE_len ns hv]; unfold maxLen; omega)⟩
  obtain ⟨j, rfl⟩ : ∃ j : Nat, i = (j : Int) := ⟨i.toNat, by omega⟩
  rw [Int.toNat_natCast] at C4
  have R3 : Hid (∀ w', Below w.heap.size w w' → Calls Tryd.prog 32 #[v, .int .i64 (j : Int)] w' fun e w'' => e = .returned (.int .i64 (endI (endE ns j))) ∧ w'' = w') := fun w' hb => endOf_any ns v j w' (hN.below hb)
  obtain ⟨a, cap, rfl, hm⟩ := nsIn_form hN
  clear hw R hN hE h0 c1 c2 hf hv
  generalize empE ns = em at *
  generalize endI (endE ns j) = en at *
  go_enter Tryd.func4, Tryd.ntmps4
  go_wp2_with fail
  refine Calls.mono (CF.out) ?_
  rintro e w1 ⟨rfl, hb⟩
  have S1 : Hid (Stay w w1) := S0.out.more H0.out hb
  clear hb
  go_wp2_with fail
  refine Calls.mono (C1.out _ S1.out.b) ?_
  rintro e w2 ⟨rfl, hb⟩
  have S2 : Hid (Stay w w2) := S1.out.more H0.out hb
  clear hb
  go_wp2_with fail
  refine Calls.mono (error_self _ _ S2.out.e) ?_
  rintro e w3 ⟨rfl, hb⟩
  have S3 : Hid (Stay w w3) := S2.out.more H0.out hb
  clear hb
  go_wp2_with fail
  refine Calls.mono (R1.out _ S3.out.b) ?_
  rintro e w3 ⟨rfl, rfl⟩
  go_wp2_with fail
  refine Calls.mono (R2.out _ S3.out.b) ?_
  rintro e w4 ⟨t, rfl, hb, hu⟩
  have S4 : Hid (Stay w w4) := S3.out.more H0.out hb
  have U4t : Hid (NsIn w4 t (turE ns)) := hu
  clear hb hu
  go_wp2_with fail
  refine Calls.mono (C2.out _ S4.out.b) ?_
  rintro e w5 ⟨rfl, hb⟩
  have S5 : Hid (Stay w w5) := S4.out.more H0.out hb
  have U5t : Hid (NsIn w5 t (turE ns)) := NsIn.below U4t.out hb
  clear hb
  go_wp2_with fail
  refine Calls.mono (error_self _ _ S5.out.e) ?_
  rintro e w6 ⟨rfl, hb⟩
  have S6 : Hid (Stay w w6) := S5.out.more H0.out hb
  have U6t : Hid (NsIn w6 t (turE ns)) := NsIn.below U5t.out hb
  clear hb
  go_wp2_with fail
  refine Calls.mono (C3.out _ S6.out.b) ?_
  rintro e w7 ⟨u, rfl, hb, hu⟩
  have S7 : Hid (Stay w w7) := S6.out.more H0.out hb
  have U7t : Hid (NsIn w7 t (turE ns)) := NsIn.below U6t.out hb
  have U7u : Hid (NsIn w7 u (turE ns)) := hu
  clear hb hu
  go_wp2_with fail
  refine Calls.mono (error_self _ _ S7.out.e) ?_
  rintro e w8 ⟨rfl, hb⟩
  have S8 : Hid (Stay w w8) := S7.out.more H0.out hb
  have U8t : Hid (NsIn w8 t (turE ns)) := NsIn.below U7t.out hb
  have U8u : Hid (NsIn w8 u (turE ns)) := NsIn.below U7u.out hb
  clear hb
  have CN : Hid _ := nodes_any (turE ns) (turE ns) u t w8 U8u.out U8t.out
  rw [nsEq_refl] at CN
  go_wp2_with fail
  refine Calls.mono (CN.out) ?_
  rintro e w9 ⟨rfl, hb⟩
  have S9 : Hid (Stay w w9) := S8.out.more H0.out hb
  clear hb
  go_wp2_with fail
  refine Calls.mono (R3.out _ S9.out.b) ?_
  rintro e w9 ⟨rfl, rfl⟩
  go_wp2_with fail
  refine Calls.mono (C4.out _ S9.out.b) ?_
  rintro e w10 ⟨rfl, hb⟩
  have S10 : Hid (Stay w w10) := S9.out.more H0.out hb
  clear hb
  go_wp2_with fail
  refine Calls.mono (error_self _ _ S10.out.e) ?_
  rintro e w11 ⟨rfl, hb⟩
  have S11 : Hid (Stay w w11) := S10.out.more H0.out hb
  clear hb
  go_wp2
  go_ret
  exact ⟨rfl, S11.out.b⟩
set_option maxHeartbeats 4000000 in
theorem rexIs_out (R : RexC) (ns : List Nd) (v : Value) (i : Int) (w : World) (hN : NsIn w v ns) (hw : ∀ n ∈ ns, n.wf) (hE : w.cell? ⟨0, 0, none⟩ = some (rty 28)) (h0 : 0 < w.heap.size) (hf : faultL ns = 0) (h1 : ¬ (0 ≤ i ∧ i < ns.length)) :
    Calls Tryd.prog 4 #[v, .int .i64 i] w fun e w' => e = .returned (.bool true) ∧ Below w.heap.size w w' := by
  have HO : Hid (NdOk ns) := fun n hn => C4.wf_ok (hw n hn).2
  have H0 : Hid _ := h0
  have S0 : Hid (Stay w w) := ⟨Below.refl _ _, hE⟩
  obtain ⟨c1, c2⟩ := rexEnd_out ns i hf h1
  obtain ⟨hl, _, hv⟩ := (faultL_zero ns).1 hf
  have C1 : Hid (∀ w', Below w.heap.size w w' → Calls Tryd.prog 26 #[v] w' fun e w'' => e = .returned (errV 0) ∧ Below w'.heap.size w' w'') := fun w' hb => by
    have := R.check ns v w' (hN.below hb) hw
    rw [hf] at this
    exact this
  have C2 : Hid (∀ w', Below w.heap.size w w' → Calls Tryd.prog 29 #[v] w' fun e w'' => e = .returned (.tuple #[.bool (empE ns), errV 0]) ∧ Below w'.heap.size w' w'') := fun w' hb => by
    have := R.empty ns v w' (hN.below hb) hw
    rw [decide_eq_true hf, Bool.true_and, hf] at this
    exact this
  have C3 : Hid (∀ w', Below w.heap.size w w' → Calls Tryd.prog 30 #[v] w' fun e w'' => ∃ u, e = .returned (.tuple #[u, errV 0]) ∧ Below w'.heap.size w' w'' ∧ NsIn w'' u (turE ns)) := fun w' hb => by
    have := R.turn ns v w' (hN.below hb) hw
    rw [if_pos hf, hf] at this
    exact this
  have C4 : Hid (∀ w', Below w.heap.size w w' → Calls Tryd.prog 33 #[v, .int .i64 i] w' fun e w'' => e = .returned (.tuple #[.int .i64 (0), errV 1]) ∧ Below w'.heap.size w' w'') := fun w' hb => by
    have := R.ends ns v i w' (hN.below hb) hw
    rw [c1, c2] at this
    exact this
  have CF : Hid (Calls Tryd.prog 25 #[v] w fun e w' => e = .returned (.int .i64 0) ∧ Below w.heap.size w w') := by
    have := fault_any ns HO.out v w hN
    rw [hf] at this
    exact this
  have R1 : Hid (∀ w', Below w.heap.size w w' → Calls Tryd.prog 27 #[v, .int .i64 0] w' fun e w'' => e = .returned (.bool (empE ns)) ∧ w'' = w') := fun w' hb => emptyOf_any ns v w' (hN.below hb) hv
  have R2 : Hid (∀ w', Below w.heap.size w w' → Calls Tryd.prog 28 #[v, .int .i64 0] w' fun e w'' => ∃ u, e = .returned u ∧ Below w'.heap.size w' w'' ∧ NsIn w'' u (turE ns)) := fun w' hb =>
    (turnOf_any ns v w' (hN.below hb) (by omega) hv).mono fun e w'' ⟨u, h1, h2, h3⟩ => ⟨u, h1, h2, h3.isIn (by rw [turE_len ns hv]; unfold maxLen; omega)⟩
  obtain ⟨a, cap, rfl, hm⟩ := nsIn_form hN
  by_cases g1 : i < 0
  · clear h1
    clear hw R hN hE h0 c1 c2 hf hv
    generalize empE ns = em at *
    go_enter Tryd.func4, Tryd.ntmps4
    go_wp2_with fail
    refine Calls.mono (CF.out) ?_
    rintro e w1 ⟨rfl, hb⟩
    have S1 : Hid (Stay w w1) := S0.out.more H0.out hb
    clear hb
    go_wp2_with fail
    refine Calls.mono (C1.out _ S1.out.b) ?_
    rintro e w2 ⟨rfl, hb⟩
    have S2 : Hid (Stay w w2) := S1.out.more H0.out hb
    clear hb
    go_wp2_with fail
    refine Calls.mono (error_self _ _ S2.out.e) ?_
    rintro e w3 ⟨rfl, hb⟩
    have S3 : Hid (Stay w w3) := S2.out.more H0.out hb
    clear hb
    go_wp2_with fail
    refine Calls.mono (R1.out _ S3.out.b) ?_
    rintro e w3 ⟨rfl, rfl⟩
    go_wp2_with fail
    refine Calls.mono (R2.out _ S3.out.b) ?_
    rintro e w4 ⟨t, rfl, hb, hu⟩
    have S4 : Hid (Stay w w4) := S3.out.more H0.out hb
    have U4t : Hid (NsIn w4 t (turE ns)) := hu
    clear hb hu
    go_wp2_with fail
    refine Calls.mono (C2.out _ S4.out.b) ?_
    rintro e w5 ⟨rfl, hb⟩
    have S5 : Hid (Stay w w5) := S4.out.more H0.out hb
    have U5t : Hid (NsIn w5 t (turE ns)) := NsIn.below U4t.out hb
    clear hb
    go_wp2_with fail
    refine Calls.mono (error_self _ _ S5.out.e) ?_
    rintro e w6 ⟨rfl, hb⟩
    have S6 : Hid (Stay w w6) := S5.out.more H0.out hb
    have U6t : Hid (NsIn w6 t (turE ns)) := NsIn.below U5t.out hb
    clear hb
    go_wp2_with fail
    refine Calls.mono (C3.out _ S6.out.b) ?_
    rintro e w7 ⟨u, rfl, hb, hu⟩
    have S7 : Hid (Stay w w7) := S6.out.more H0.out hb
    have U7t : Hid (NsIn w7 t (turE ns)) := NsIn.below U6t.out hb
    have U7u : Hid (NsIn w7 u (turE ns)) := hu
    clear hb hu
    go_wp2_with fail
    refine Calls.mono (error_self _ _ S7.out.e) ?_
    rintro e w8 ⟨rfl, hb⟩
    have S8 : Hid (Stay w w8) := S7.out.more H0.out hb
    have U8t : Hid (NsIn w8 t (turE ns)) := NsIn.below U7t.out hb
    have U8u : Hid (NsIn w8 u (turE ns)) := NsIn.below U7u.out hb
    clear hb
    have CN : Hid _ := nodes_any (turE ns) (turE ns) u t w8 U8u.out U8t.out
    rw [nsEq_refl] at CN
    go_wp2_with fail
    refine Calls.mono (CN.out) ?_
    rintro e w9 ⟨rfl, hb⟩
    have S9 : Hid (Stay w w9) := S8.out.more H0.out hb
    clear hb
    go_wp2_with fail
    refine Calls.mono (C4.out _ S9.out.b) ?_
    rintro e w10 ⟨rfl, hb⟩
    have S10 : Hid (Stay w w10) := S9.out.more H0.out hb
    clear hb
    go_wp2_with fail
    refine Calls.mono (error_self _ _ S10.out.e) ?_
    rintro e w11 ⟨rfl, hb⟩
    have S11 : Hid (Stay w w11) := S10.out.more H0.out hb
    clear hb
    go_wp2
    go_ret
    exact ⟨rfl, S11.out.b⟩
  · have g2 : ¬ i < (ns.length : Int) := by omega
    clear h1
    clear hw R hN hE h0 c1 c2 hf hv
    generalize empE ns = em at *
    go_enter Tryd.func4, Tryd.ntmps4
    go_wp2_with fail
    refine Calls.mono (CF.out) ?_
    rintro e w1 ⟨rfl, hb⟩
    have S1 : Hid (Stay w w1) := S0.out.more H0.out hb
    clear hb
    go_wp2_with fail
    refine Calls.mono (C1.out _ S1.out.b) ?_
    rintro e w2 ⟨rfl, hb⟩
    have S2 : Hid (Stay w w2) := S1.out.more H0.out hb
    clear hb
    go_wp2_with fail
    refine Calls.mono (error_self _ _ S2.out.e) ?_
    rintro e w3 ⟨rfl, hb⟩
    have S3 : Hid (Stay w w3) := S2.out.more H0.out hb
    clear hb
    go_wp2_with fail
    refine Calls.mono (R1.out _ S3.out.b) ?_
    rintro e w3 ⟨rfl, rfl⟩
    go_wp2_with fail
    refine Calls.mono (R2.out _ S3.out.b) ?_
    rintro e w4 ⟨t, rfl, hb, hu⟩
    have S4 : Hid (Stay w w4) := S3.out.more H0.out hb
    have U4t : Hid (NsIn w4 t (turE ns)) := hu
    clear hb hu
    go_wp2_with fail
    refine Calls.mono (C2.out _ S4.out.b) ?_
    rintro e w5 ⟨rfl, hb⟩
    have S5 : Hid (Stay w w5) := S4.out.more H0.out hb
    have U5t : Hid (NsIn w5 t (turE ns)) := NsIn.below U4t.out hb
    clear hb
    go_wp2_with fail
    refine Calls.mono (error_self _ _ S5.out.e) ?_
    rintro e w6 ⟨rfl, hb⟩
    have S6 : Hid (Stay w w6) := S5.out.more H0.out hb
    have U6t : Hid (NsIn w6 t (turE ns)) := NsIn.below U5t.out hb
    clear hb
    go_wp2_with fail
    refine Calls.mono (C3.out _ S6.out.b) ?_
    rintro e w7 ⟨u, rfl, hb, hu⟩
    have S7 : Hid (Stay w w7) := S6.out.more H0.out hb
    have U7t : Hid (NsIn w7 t (turE ns)) := NsIn.below U6t.out hb
    have U7u : Hid (NsIn w7 u (turE ns)) := hu
    clear hb hu
    go_wp2_with fail
    refine Calls.mono (error_self _ _ S7.out.e) ?_
    rintro e w8 ⟨rfl, hb⟩
    have S8 : Hid (Stay w w8) := S7.out.more H0.out hb
    have U8t : Hid (NsIn w8 t (turE ns)) := NsIn.below U7t.out hb
    have U8u : Hid (NsIn w8 u (turE ns)) := NsIn.below U7u.out hb
    clear hb
    have CN : Hid _ := nodes_any (turE ns) (turE ns) u t w8 U8u.out U8t.out
    rw [nsEq_refl] at CN
    go_wp2_with fail
    refine Calls.mono (CN.out) ?_
    rintro e w9 ⟨rfl, hb⟩
    have S9 : Hid (Stay w w9) := S8.out.more H0.out hb
    clear hb
    go_wp2_with fail
    refine Calls.mono (C4.out _ S9.out.b) ?_
    rintro e w10 ⟨rfl, hb⟩
    have S10 : Hid (Stay w w10) := S9.out.more H0.out hb
    clear hb
    go_wp2_with fail
    refine Calls.mono (error_self _ _ S10.out.e) ?_
    rintro e w11 ⟨rfl, hb⟩
    have S11 : Hid (Stay w w11) := S10.out.more H0.out hb
    clear hb
    go_wp2
    go_ret
    exact ⟨rfl, S11.out.b⟩
theorem rexIs_any (R : RexC) (ns : List Nd) (v : Value) (i : Int) (w : World) (hN : NsIn w v ns) (hw : ∀ n ∈ ns, n.wf) (hE : w.cell? ⟨0, 0, none⟩ = some (rty 28)) (h0 : 0 < w.heap.size) :
    Calls Tryd.prog 4 #[v, .int .i64 i] w fun e w' => e = .returned (.bool true) ∧ Below w.heap.size w w' := by
  by_cases hf : faultL ns = 0
  · by_cases h1 : 0 ≤ i ∧ i < ns.length
    · exact rexIs_in R ns v i w hN hw hE h0 hf h1.1 h1.2
    · exact rexIs_out R ns v i w hN hw hE h0 hf h1
  · exact rexIs_bad R ns v i w hN hw hE h0 hf
end Go.Proofs.YtajkkmnojfghoaaDoor
