/- The landed sim: the closure that goes all ways at a place. The landed sim: all steps that are come to at a place. -/
import Derived.Test.YtopoiljgghglaaaDoorY15
namespace Go.Proofs.YtopoiljgghglaaaDoor
set_option linter.unusedSimpArgs false
set_option linter.unusedVariables false
set_option maxRecDepth 100000
open Go.RowKit
theorem stp_stay {ss : List St} {s : List UInt8} {a k y : Nat} {n : St} (hn : ss[k]? = some n) : Stp ss s k a y a ↔ (n.op = 2 ∧ (y = n.x.toNat ∨ y = n.y.toNat)) ∨ (n.op = 3 ∧ y = n.x.toNat ∧ a = 0) ∨ (n.op = 4 ∧ y = n.x.toNat ∧ a = s.length) := by
  constructor
  · rintro ⟨n', hn', h⟩
    rw [hn] at hn'
    obtain rfl := Option.some.inj hn'
    rcases h with ⟨_, _, h, _⟩ | ⟨h1, h2, _⟩ | ⟨h1, h2, _, h3⟩ | ⟨h1, h2, _, h3⟩
    · omega
    · exact Or.inl ⟨h1, h2⟩
    · exact Or.inr (Or.inl ⟨h1, h2, h3⟩)
    · exact Or.inr (Or.inr ⟨h1, h2, h3⟩)
  · rintro (⟨h1, h2⟩ | ⟨h1, h2, h3⟩ | ⟨h1, h2, h3⟩)
    · exact ⟨n, hn, Or.inr (Or.inl ⟨h1, h2, rfl⟩)⟩
    · exact ⟨n, hn, Or.inr (Or.inr (Or.inl ⟨h1, h2, rfl, h3⟩))⟩
    · exact ⟨n, hn, Or.inr (Or.inr (Or.inr ⟨h1, h2, rfl, h3⟩))⟩
/-- What it leaves, entered at k. -/
def VsP (c : Vc) (S : List Nat) (K : List Nat) (w : World) (e : Ending) (w' : World) : Prop := ∃ v S', e = .returned v ∧ c.At w' S' ∧ Vst c.ss c.s.data.toList c.a S S' K ∧ c.Kp w w' ∧ Below c.B w w'
/-- The closure keeps its word while so many steps are left. -/
def VsOk (c : Vc) (f : Nat) : Prop := ∀ (S : List Nat) (k : Nat) (w : World), c.ss.length ≤ S.length + f → k < c.ss.length → c.At w S → Calls Tryd.prog 49 #[.int .i64 (k : Int), .pointer (some ⟨c.bs, 0, none⟩), .pointer (some ⟨c.bf, 0, none⟩), .pointer (some ⟨c.br, 0, none⟩), .pointer (some ⟨c.bv, 0, none⟩), .pointer (some ⟨c.ba, 0, none⟩)] w (VsP c S [k] w)
/-- The cells of a step in a box. -/
theorem mine7 {c : Vc} (hc : c.Good) {w w' : World} {S : List Nat} (h : c.At w S) (n : St) (hk : c.Kp (w.alloc (.cells n.arr 54)) w') :
    w'.cell? ⟨w.heap.size, 5, none⟩ = some (.int .i64 n.x) ∧ w'.cell? ⟨w.heap.size, 6, none⟩ = some (.int .i64 n.y) := by
  constructor
  · rcases h.mine hc _ hk 5 with h1 | h1
    · rw [h1]; simp
    · cases h1
  · rcases h.mine hc _ hk 6 with h1 | h1
    · rw [h1]; simp
    · cases h1
theorem enter_box {c : Vc} (hc : c.Good) {w W3 : World} {S : List Nat} {k : Nat} {u : Value} (h : c.At w S) (hu : Boxed w c.bf 34 u) (ho : IsOwn w c.R u S) (o : Obj)
    (hgr : ((w.setCell ⟨c.bs, k, none⟩ (.bool true)).alloc o).grownBy W3 u.ownBlock) : Boxed W3 c.bf 34 u := by
  have e1 : (w.setCell ⟨c.bs, k, none⟩ (.bool true)).heap[c.bf]? = w.heap[c.bf]? := by simp [World.setCell, Array.getElem?_modify, Ne.symm hc.fs]
  have e2 : ((w.setCell ⟨c.bs, k, none⟩ (.bool true)).alloc o).heap[c.bf]? = (w.setCell ⟨c.bs, k, none⟩ (.bool true)).heap[c.bf]? := Below.heap_alloc _ _ _ (by simp; exact hu.lt)
  have e3 := hgr.block c.bf (by simp; have := hu.lt; omega) (fun e => by have := (own_base ho _ e.symm).1; have := hc.Rf; omega)
  exact (e3.trans (e2.trans e1)).trans hu
theorem enter_own {c : Vc} (hc : c.Good) {w : World} {S : List Nat} {u : Value} (h : c.At w S) (ho : IsOwn w c.R u S) (k : Nat) (o : Obj) : IsOwn ((w.setCell ⟨c.bs, k, none⟩ (.bool true)).alloc o) c.R u S := by
  have h1 : IsOwn (w.setCell ⟨c.bs, k, none⟩ (.bool true)) c.R u S := World.ownsRow.kept (row := some c.bs) ho ⟨rfl, rfl, rfl, by simp, fun j hj hne => by
    have : c.bs ≠ j := fun e => hne (by rw [e])
    simp [World.setCell, Array.getElem?_modify, this]⟩ (Or.inr (fun e => by have := (own_base ho _ e).1; have := hc.Rs; omega))
  exact h1.kept ((Below.refl _ _).alloc (Nat.le_refl _) _)
/-- The step's box is laid. -/
theorem entered {c : Vc} (hc : c.Good) {w W4 : World} {S : List Nat} (h : c.At W4 S) (hk : c.Kp w W4) (hb : Below c.B w W4) (n : St) (W5 : World) (e : W4.alloc (.cells n.arr 54) = W5) :
    c.At W5 S ∧ c.Kp w W5 ∧ Below c.B w W5 ∧ W5.cell? ⟨W4.heap.size, 0, none⟩ = some (.int .i64 n.op) ∧ W5.cell? ⟨W4.heap.size, 5, none⟩ = some (.int .i64 n.x) ∧ W5.cell? ⟨W4.heap.size, 6, none⟩ = some (.int .i64 n.y) ∧ ∀ w', c.Kp W5 w' → w'.cell? ⟨W4.heap.size, 5, none⟩ = some (.int .i64 n.x) ∧ w'.cell? ⟨W4.heap.size, 6, none⟩ = some (.int .i64 n.y) := by
  subst e
  obtain ⟨u, hu, _⟩ := h.box
  have hb1 : Below W4.heap.size W4 (W4.alloc (.cells n.arr 54)) := (Below.refl _ _).alloc (Nat.le_refl _) _
  refine ⟨h.below hc hb1, hk.trans (KpF.below _ hb1 hu.lt), hb.trans (hb1.mono ?_), by simp, by simp, by simp, fun w' hk' => mine7 hc h n hk'⟩
  have := h.sz
  have := hc.Br
  have := hc.Rr
  omega
set_option maxHeartbeats 8000000 in
theorem visit_idle (c : Vc) (hc : c.Good) (f : Nat) (ih : VsOk c f) : ∀ (S : List Nat) (k : Nat) (w : World), c.ss.length ≤ S.length + (f + 1) → k < c.ss.length → c.At w S → ¬ k ∈ S → ∀ n : St, c.ss[k]? = some n → (n.op = 1 ∨ n.op = 5) → Calls Tryd.prog 49 #[.int .i64 (k : Int), .pointer (some ⟨c.bs, 0, none⟩), .pointer (some ⟨c.bf, 0, none⟩), .pointer (some ⟨c.br, 0, none⟩), .pointer (some ⟨c.bv, 0, none⟩), .pointer (some ⟨c.ba, 0, none⟩)] w (VsP c S [k] w) := by
  intro S k w hfu hkl h hk n hn HOPS
  obtain ⟨h200, hpos, hst⟩ := stepsF_zero hc.fault
  have hrg := (hst n (List.mem_of_getElem? hn)).1
  have k0 : (0 : Int) ≤ (k : Int) := by omega
  have k1 : (k : Int) < 200 := by omega
  have k2 : (k : Int) < (c.ss.length : Int) := by omega
  have hS := h.len
  have hpl := hc.place
  have hsz := hc.size
  have cs : w.cell? ⟨c.bs, k, none⟩ = some (.bool (decide (k ∈ S))) := by
    rw [Lib.cell_of_heap h.seen, rowB_at 199 _ k (by omega)]
  have fz : w.frozen? ⟨c.bs, k, none⟩ = false := Lib.frozen_of_heap h.seen k
  rw [decide_eq_false hk] at cs
  obtain ⟨u, hu, ho⟩ := h.box
  obtain ⟨ua, uc, rfl⟩ := ho.form
  have cf : (w.setCell ⟨c.bs, k, none⟩ (.bool true)).cell? ⟨c.bf, 0, none⟩ = some (.slice ua S.length uc) := by
    have := hc.fs
    simp [World.cell?, World.setCell, Array.getElem?_modify, show w.heap[c.bf]? = _ from hu, Ne.symm this]
  have HOA : Hid (IsOwn ((w.setCell ⟨c.bs, k, none⟩ (.bool true)).alloc (.cells #[.int .i64 (k : Int)] 3)) c.R (.slice ua S.length uc) S) := enter_own hc h ho k _
  have HSZ : Hid (c.R ≤ ((w.setCell ⟨c.bs, k, none⟩ (.bool true)).alloc (.cells #[.int .i64 (k : Int)] 3)).heap.size) := by
    have := h.sz
    show _ ≤ _
    simp
    omega
  have HAT := hid h
  have HBX := hid hu
  have HOW := hid ho
  have HN := hid hn
  have HRG := hid hrg
  have HIH := hid ih
  have HFU : Hid (c.ss.length ≤ S.length + (f + 1)) := hfu
  clear h hu ho hn hrg ih hst hfu
  have o2 : (n.op == 2) = false := by rw [beq_eq_false_iff_ne]; omega
  have o3 : (n.op == 3) = false := by rw [beq_eq_false_iff_ne]; omega
  have o4 : (n.op == 4) = false := by rw [beq_eq_false_iff_ne]; omega
  have HO := hid HOPS
  clear HOPS
  go_enter Tryd.func49, Tryd.ntmps49
  go_wp2_with (at_builtin; refine wpList_append_isr rfl _ _ rfl c.R _ rfl S HOA.out w.heap.size 1 k rfl (by rw [World.cell?_alloc_at (w := w.setCell ⟨c.bs, k, none⟩ (.bool true)) _ _ w.heap.size 0 (by simp)]; rfl) (by omega) HSZ.out ?_; intro gg cc W3 hown hgr hgb hrow; obtain ⟨hA4, hK4, hB4⟩ := HAT.out.enter hc hk hkl HBX.out HOW.out _ hgr hown (hrow.imp id (fun e => by simpa using e)); have hb3 : Boxed W3 c.bf 34 (.slice ua S.length uc) := enter_box hc HAT.out HBX.out HOW.out _ hgr; have cW := hb3.cell; have fW := hb3.frozen; obtain ⟨W4, hw4⟩ : ∃ W4, W3.setCell ⟨c.bf, 0, none⟩ (.slice (some ⟨gg, 0, none⟩) (S.length + 1) cc) = W4 := ⟨_, rfl⟩; rw [hw4] at hA4 hK4 hB4; obtain ⟨c0, c1, c2, c3, c4, c5, c6⟩ := hA4.steps k n HN.out; have r00 := hA4.r0; obtain ⟨W5, hw5⟩ : ∃ W5, W4.alloc (.cells #[.int .i64 n.op, .int .u64 n.c.a, .int .u64 n.c.b, .int .u64 n.c.c, .int .u64 n.c.d, .int .i64 n.x, .int .i64 n.y] 54) = W5 := ⟨_, rfl⟩; obtain ⟨hA5, hK5, hB5, d0, d5, d6, HM⟩ := entered hc hA4 hK4 hB4 n _ hw5; have v0 := hA5.v0; have a0 := hA5.a0; have r1 := hA5.r1; replace hA5 := hid hA5; replace hK5 := hid hK5; replace hB5 := hid hB5; replace HM := hid HM; clear hb3 hown hgr hgb hrow hA4 hK4 hB4; try rw [eop] at c0 d0 hw5; try rw [enx] at c5 d5 hw5; try rw [eny] at c6 d6 hw5; try (rw [o0] at a0; clear o0))
  first | go_end0 | go_ret
  exact ⟨_, S ++ [k], rfl, hA5.out, (Vst.refl _ _ _ _ [] (fun x hx => by cases hx)).enter (fun y => by rw [stp_stay HN.out]; constructor <;> intro hh <;> first | (exfalso; have := HO.out; omega) | cases hh), hK5.out, hB5.out⟩
set_option maxHeartbeats 8000000 in
theorem visit_notFirst (c : Vc) (hc : c.Good) (f : Nat) (ih : VsOk c f) : ∀ (S : List Nat) (k : Nat) (w : World), c.ss.length ≤ S.length + (f + 1) → k < c.ss.length → c.At w S → ¬ k ∈ S → ∀ n : St, c.ss[k]? = some n → (n.op = 3 ∧ c.a ≠ 0) → Calls Tryd.prog 49 #[.int .i64 (k : Int), .pointer (some ⟨c.bs, 0, none⟩), .pointer (some ⟨c.bf, 0, none⟩), .pointer (some ⟨c.br, 0, none⟩), .pointer (some ⟨c.bv, 0, none⟩), .pointer (some ⟨c.ba, 0, none⟩)] w (VsP c S [k] w) := by
  intro S k w hfu hkl h hk n hn HOPS
  obtain ⟨h200, hpos, hst⟩ := stepsF_zero hc.fault
  have hrg := (hst n (List.mem_of_getElem? hn)).1
  have k0 : (0 : Int) ≤ (k : Int) := by omega
  have k1 : (k : Int) < 200 := by omega
  have k2 : (k : Int) < (c.ss.length : Int) := by omega
  have hS := h.len
  have hpl := hc.place
  have hsz := hc.size
  have cs : w.cell? ⟨c.bs, k, none⟩ = some (.bool (decide (k ∈ S))) := by
    rw [Lib.cell_of_heap h.seen, rowB_at 199 _ k (by omega)]
  have fz : w.frozen? ⟨c.bs, k, none⟩ = false := Lib.frozen_of_heap h.seen k
  rw [decide_eq_false hk] at cs
  obtain ⟨u, hu, ho⟩ := h.box
  obtain ⟨ua, uc, rfl⟩ := ho.form
  have cf : (w.setCell ⟨c.bs, k, none⟩ (.bool true)).cell? ⟨c.bf, 0, none⟩ = some (.slice ua S.length uc) := by
    have := hc.fs
    simp [World.cell?, World.setCell, Array.getElem?_modify, show w.heap[c.bf]? = _ from hu, Ne.symm this]
  have HOA : Hid (IsOwn ((w.setCell ⟨c.bs, k, none⟩ (.bool true)).alloc (.cells #[.int .i64 (k : Int)] 3)) c.R (.slice ua S.length uc) S) := enter_own hc h ho k _
  have HSZ : Hid (c.R ≤ ((w.setCell ⟨c.bs, k, none⟩ (.bool true)).alloc (.cells #[.int .i64 (k : Int)] 3)).heap.size) := by
    have := h.sz
    show _ ≤ _
    simp
    omega
  have HAT := hid h
  have HBX := hid hu
  have HOW := hid ho
  have HN := hid hn
  have HRG := hid hrg
  have HIH := hid ih
  have HFU : Hid (c.ss.length ≤ S.length + (f + 1)) := hfu
  clear h hu ho hn hrg ih hst hfu
  have eop := HOPS.1
  have o0 : ((c.a : Int) == 0) = false := by rw [beq_eq_false_iff_ne]; omega
  have HO := hid HOPS
  clear HOPS
  go_enter Tryd.func49, Tryd.ntmps49
  go_wp2_with (at_builtin; refine wpList_append_isr rfl _ _ rfl c.R _ rfl S HOA.out w.heap.size 1 k rfl (by rw [World.cell?_alloc_at (w := w.setCell ⟨c.bs, k, none⟩ (.bool true)) _ _ w.heap.size 0 (by simp)]; rfl) (by omega) HSZ.out ?_; intro gg cc W3 hown hgr hgb hrow; obtain ⟨hA4, hK4, hB4⟩ := HAT.out.enter hc hk hkl HBX.out HOW.out _ hgr hown (hrow.imp id (fun e => by simpa using e)); have hb3 : Boxed W3 c.bf 34 (.slice ua S.length uc) := enter_box hc HAT.out HBX.out HOW.out _ hgr; have cW := hb3.cell; have fW := hb3.frozen; obtain ⟨W4, hw4⟩ : ∃ W4, W3.setCell ⟨c.bf, 0, none⟩ (.slice (some ⟨gg, 0, none⟩) (S.length + 1) cc) = W4 := ⟨_, rfl⟩; rw [hw4] at hA4 hK4 hB4; obtain ⟨c0, c1, c2, c3, c4, c5, c6⟩ := hA4.steps k n HN.out; have r00 := hA4.r0; obtain ⟨W5, hw5⟩ : ∃ W5, W4.alloc (.cells #[.int .i64 n.op, .int .u64 n.c.a, .int .u64 n.c.b, .int .u64 n.c.c, .int .u64 n.c.d, .int .i64 n.x, .int .i64 n.y] 54) = W5 := ⟨_, rfl⟩; obtain ⟨hA5, hK5, hB5, d0, d5, d6, HM⟩ := entered hc hA4 hK4 hB4 n _ hw5; have v0 := hA5.v0; have a0 := hA5.a0; have r1 := hA5.r1; replace hA5 := hid hA5; replace hK5 := hid hK5; replace hB5 := hid hB5; replace HM := hid HM; clear hb3 hown hgr hgb hrow hA4 hK4 hB4; try rw [eop] at c0 d0 hw5; try rw [enx] at c5 d5 hw5; try rw [eny] at c6 d6 hw5; try (rw [o0] at a0; clear o0))
  first | go_end0 | go_ret
  exact ⟨_, S ++ [k], rfl, hA5.out, (Vst.refl _ _ _ _ [] (fun x hx => by cases hx)).enter (fun y => by rw [stp_stay HN.out]; constructor <;> intro hh <;> first | (exfalso; have := HO.out; omega) | cases hh), hK5.out, hB5.out⟩
set_option maxHeartbeats 8000000 in
theorem visit_notLast (c : Vc) (hc : c.Good) (f : Nat) (ih : VsOk c f) : ∀ (S : List Nat) (k : Nat) (w : World), c.ss.length ≤ S.length + (f + 1) → k < c.ss.length → c.At w S → ¬ k ∈ S → ∀ n : St, c.ss[k]? = some n → (n.op = 4 ∧ c.a ≠ c.s.size) → Calls Tryd.prog 49 #[.int .i64 (k : Int), .pointer (some ⟨c.bs, 0, none⟩), .pointer (some ⟨c.bf, 0, none⟩), .pointer (some ⟨c.br, 0, none⟩), .pointer (some ⟨c.bv, 0, none⟩), .pointer (some ⟨c.ba, 0, none⟩)] w (VsP c S [k] w) := by
  intro S k w hfu hkl h hk n hn HOPS
  obtain ⟨h200, hpos, hst⟩ := stepsF_zero hc.fault
  have hrg := (hst n (List.mem_of_getElem? hn)).1
  have k0 : (0 : Int) ≤ (k : Int) := by omega
  have k1 : (k : Int) < 200 := by omega
  have k2 : (k : Int) < (c.ss.length : Int) := by omega
  have hS := h.len
  have hpl := hc.place
  have hsz := hc.size
  have cs : w.cell? ⟨c.bs, k, none⟩ = some (.bool (decide (k ∈ S))) := by
    rw [Lib.cell_of_heap h.seen, rowB_at 199 _ k (by omega)]
  have fz : w.frozen? ⟨c.bs, k, none⟩ = false := Lib.frozen_of_heap h.seen k
  rw [decide_eq_false hk] at cs
  obtain ⟨u, hu, ho⟩ := h.box
  obtain ⟨ua, uc, rfl⟩ := ho.form
  have cf : (w.setCell ⟨c.bs, k, none⟩ (.bool true)).cell? ⟨c.bf, 0, none⟩ = some (.slice ua S.length uc) := by
    have := hc.fs
    simp [World.cell?, World.setCell, Array.getElem?_modify, show w.heap[c.bf]? = _ from hu, Ne.symm this]
  have HOA : Hid (IsOwn ((w.setCell ⟨c.bs, k, none⟩ (.bool true)).alloc (.cells #[.int .i64 (k : Int)] 3)) c.R (.slice ua S.length uc) S) := enter_own hc h ho k _
  have HSZ : Hid (c.R ≤ ((w.setCell ⟨c.bs, k, none⟩ (.bool true)).alloc (.cells #[.int .i64 (k : Int)] 3)).heap.size) := by
    have := h.sz
    show _ ≤ _
    simp
    omega
  have HAT := hid h
  have HBX := hid hu
  have HOW := hid ho
  have HN := hid hn
  have HRG := hid hrg
  have HIH := hid ih
  have HFU : Hid (c.ss.length ≤ S.length + (f + 1)) := hfu
  clear h hu ho hn hrg ih hst hfu
  have eop := HOPS.1
  have o0 : ((c.a : Int) == (c.s.size : Int)) = false := by rw [beq_eq_false_iff_ne]; omega
  have o1 : (c.a == c.s.size) = false := by rw [beq_eq_false_iff_ne]; omega
  have HO : Hid (n.op = 4 ∧ c.a ≠ c.s.data.toList.length) := ⟨HOPS.1, by simpa using HOPS.2⟩
  clear HOPS
  go_enter Tryd.func49, Tryd.ntmps49
  go_wp2_with (at_builtin; refine wpList_append_isr rfl _ _ rfl c.R _ rfl S HOA.out w.heap.size 1 k rfl (by rw [World.cell?_alloc_at (w := w.setCell ⟨c.bs, k, none⟩ (.bool true)) _ _ w.heap.size 0 (by simp)]; rfl) (by omega) HSZ.out ?_; intro gg cc W3 hown hgr hgb hrow; obtain ⟨hA4, hK4, hB4⟩ := HAT.out.enter hc hk hkl HBX.out HOW.out _ hgr hown (hrow.imp id (fun e => by simpa using e)); have hb3 : Boxed W3 c.bf 34 (.slice ua S.length uc) := enter_box hc HAT.out HBX.out HOW.out _ hgr; have cW := hb3.cell; have fW := hb3.frozen; obtain ⟨W4, hw4⟩ : ∃ W4, W3.setCell ⟨c.bf, 0, none⟩ (.slice (some ⟨gg, 0, none⟩) (S.length + 1) cc) = W4 := ⟨_, rfl⟩; rw [hw4] at hA4 hK4 hB4; obtain ⟨c0, c1, c2, c3, c4, c5, c6⟩ := hA4.steps k n HN.out; have r00 := hA4.r0; obtain ⟨W5, hw5⟩ : ∃ W5, W4.alloc (.cells #[.int .i64 n.op, .int .u64 n.c.a, .int .u64 n.c.b, .int .u64 n.c.c, .int .u64 n.c.d, .int .i64 n.x, .int .i64 n.y] 54) = W5 := ⟨_, rfl⟩; obtain ⟨hA5, hK5, hB5, d0, d5, d6, HM⟩ := entered hc hA4 hK4 hB4 n _ hw5; have v0 := hA5.v0; have a0 := hA5.a0; have r1 := hA5.r1; replace hA5 := hid hA5; replace hK5 := hid hK5; replace hB5 := hid hB5; replace HM := hid HM; clear hb3 hown hgr hgb hrow hA4 hK4 hB4; try rw [eop] at c0 d0 hw5; try rw [enx] at c5 d5 hw5; try rw [eny] at c6 d6 hw5; try (rw [o0] at a0; clear o0))
  first | go_end0 | go_ret
  exact ⟨_, S ++ [k], rfl, hA5.out, (Vst.refl _ _ _ _ [] (fun x hx => by cases hx)).enter (fun y => by rw [stp_stay HN.out]; constructor <;> intro hh <;> first | (exfalso; have := HO.out; omega) | cases hh), hK5.out, hB5.out⟩
set_option maxHeartbeats 8000000 in
theorem visit_first (c : Vc) (hc : c.Good) (f : Nat) (ih : VsOk c f) : ∀ (S : List Nat) (k : Nat) (w : World), c.ss.length ≤ S.length + (f + 1) → k < c.ss.length → c.At w S → ¬ k ∈ S → ∀ n : St, c.ss[k]? = some n → (n.op = 3 ∧ c.a = 0) → Calls Tryd.prog 49 #[.int .i64 (k : Int), .pointer (some ⟨c.bs, 0, none⟩), .pointer (some ⟨c.bf, 0, none⟩), .pointer (some ⟨c.br, 0, none⟩), .pointer (some ⟨c.bv, 0, none⟩), .pointer (some ⟨c.ba, 0, none⟩)] w (VsP c S [k] w) := by
  intro S k w hfu hkl h hk n hn HOPS
  obtain ⟨h200, hpos, hst⟩ := stepsF_zero hc.fault
  have hrg := (hst n (List.mem_of_getElem? hn)).1
  have k0 : (0 : Int) ≤ (k : Int) := by omega
  have k1 : (k : Int) < 200 := by omega
  have k2 : (k : Int) < (c.ss.length : Int) := by omega
  have hS := h.len
  have hpl := hc.place
  have hsz := hc.size
  have cs : w.cell? ⟨c.bs, k, none⟩ = some (.bool (decide (k ∈ S))) := by
    rw [Lib.cell_of_heap h.seen, rowB_at 199 _ k (by omega)]
  have fz : w.frozen? ⟨c.bs, k, none⟩ = false := Lib.frozen_of_heap h.seen k
  rw [decide_eq_false hk] at cs
  obtain ⟨u, hu, ho⟩ := h.box
  obtain ⟨ua, uc, rfl⟩ := ho.form
  have cf : (w.setCell ⟨c.bs, k, none⟩ (.bool true)).cell? ⟨c.bf, 0, none⟩ = some (.slice ua S.length uc) := by
    have := hc.fs
    simp [World.cell?, World.setCell, Array.getElem?_modify, show w.heap[c.bf]? = _ from hu, Ne.symm this]
  have HOA : Hid (IsOwn ((w.setCell ⟨c.bs, k, none⟩ (.bool true)).alloc (.cells #[.int .i64 (k : Int)] 3)) c.R (.slice ua S.length uc) S) := enter_own hc h ho k _
  have HSZ : Hid (c.R ≤ ((w.setCell ⟨c.bs, k, none⟩ (.bool true)).alloc (.cells #[.int .i64 (k : Int)] 3)).heap.size) := by
    have := h.sz
    show _ ≤ _
    simp
    omega
  have HAT := hid h
  have HBX := hid hu
  have HOW := hid ho
  have HN := hid hn
  have HRG := hid hrg
  have HIH := hid ih
  have HFU : Hid (c.ss.length ≤ S.length + (f + 1)) := hfu
  clear h hu ho hn hrg ih hst hfu
  have eop := HOPS.1
  have o0 : (c.a : Int) = 0 := by omega
  have hxr : ¬ (n.x < 0 ∨ (c.ss.length : Int) ≤ n.x) := fun h => HRG.out (Or.inr (Or.inr (Or.inl ⟨by omega, h⟩)))
  obtain ⟨x, enx⟩ : ∃ x : Nat, n.x = (x : Int) := ⟨n.x.toNat, by omega⟩
  have hxl : x < c.ss.length := by omega
  have HEX : Hid (n.x.toNat = x) := by show _ = _; omega
  have HO := hid HOPS
  clear HOPS hxr
  go_enter Tryd.func49, Tryd.ntmps49
  go_wp2_with (at_builtin; refine wpList_append_isr rfl _ _ rfl c.R _ rfl S HOA.out w.heap.size 1 k rfl (by rw [World.cell?_alloc_at (w := w.setCell ⟨c.bs, k, none⟩ (.bool true)) _ _ w.heap.size 0 (by simp)]; rfl) (by omega) HSZ.out ?_; intro gg cc W3 hown hgr hgb hrow; obtain ⟨hA4, hK4, hB4⟩ := HAT.out.enter hc hk hkl HBX.out HOW.out _ hgr hown (hrow.imp id (fun e => by simpa using e)); have hb3 : Boxed W3 c.bf 34 (.slice ua S.length uc) := enter_box hc HAT.out HBX.out HOW.out _ hgr; have cW := hb3.cell; have fW := hb3.frozen; obtain ⟨W4, hw4⟩ : ∃ W4, W3.setCell ⟨c.bf, 0, none⟩ (.slice (some ⟨gg, 0, none⟩) (S.length + 1) cc) = W4 := ⟨_, rfl⟩; rw [hw4] at hA4 hK4 hB4; obtain ⟨c0, c1, c2, c3, c4, c5, c6⟩ := hA4.steps k n HN.out; have r00 := hA4.r0; obtain ⟨W5, hw5⟩ : ∃ W5, W4.alloc (.cells #[.int .i64 n.op, .int .u64 n.c.a, .int .u64 n.c.b, .int .u64 n.c.c, .int .u64 n.c.d, .int .i64 n.x, .int .i64 n.y] 54) = W5 := ⟨_, rfl⟩; obtain ⟨hA5, hK5, hB5, d0, d5, d6, HM⟩ := entered hc hA4 hK4 hB4 n _ hw5; have v0 := hA5.v0; have a0 := hA5.a0; have r1 := hA5.r1; replace hA5 := hid hA5; replace hK5 := hid hK5; replace hB5 := hid hB5; replace HM := hid HM; clear hb3 hown hgr hgb hrow hA4 hK4 hB4; try rw [eop] at c0 d0 hw5; try rw [enx] at c5 d5 hw5; try rw [eny] at c6 d6 hw5; try (rw [o0] at a0; clear o0))
  refine Calls.mono (HIH.out (S ++ [k]) x W5 (by have := HFU.out; simp; omega) hxl hA5.out) ?_
  rintro e W6 ⟨vv, S1, rfl, hA6, hV6, hK6, hB6⟩
  have HP : Hid (∀ v, VsP c S [k] w (.returned v) W6) := fun v => ⟨v, S1, rfl, hA6, hV6.enter (fun y => by rw [stp_stay HN.out, List.mem_singleton]; constructor <;> intro hh <;> first | (have := HO.out; have := HEX.out; omega) | omega), hK5.out.trans hK6, hB5.out.trans hB6⟩
  clear hA6 hV6 hK6 hB6 v0 a0 r1 d0 d5 d6 HM
  go_wp2
  first | go_end0 | go_ret
  exact HP.out _
set_option maxHeartbeats 8000000 in
theorem visit_last (c : Vc) (hc : c.Good) (f : Nat) (ih : VsOk c f) : ∀ (S : List Nat) (k : Nat) (w : World), c.ss.length ≤ S.length + (f + 1) → k < c.ss.length → c.At w S → ¬ k ∈ S → ∀ n : St, c.ss[k]? = some n → (n.op = 4 ∧ c.a = c.s.size) → Calls Tryd.prog 49 #[.int .i64 (k : Int), .pointer (some ⟨c.bs, 0, none⟩), .pointer (some ⟨c.bf, 0, none⟩), .pointer (some ⟨c.br, 0, none⟩), .pointer (some ⟨c.bv, 0, none⟩), .pointer (some ⟨c.ba, 0, none⟩)] w (VsP c S [k] w) := by
  intro S k w hfu hkl h hk n hn HOPS
  obtain ⟨h200, hpos, hst⟩ := stepsF_zero hc.fault
  have hrg := (hst n (List.mem_of_getElem? hn)).1
  have k0 : (0 : Int) ≤ (k : Int) := by omega
  have k1 : (k : Int) < 200 := by omega
  have k2 : (k : Int) < (c.ss.length : Int) := by omega
  have hS := h.len
  have hpl := hc.place
  have hsz := hc.size
  have cs : w.cell? ⟨c.bs, k, none⟩ = some (.bool (decide (k ∈ S))) := by
    rw [Lib.cell_of_heap h.seen, rowB_at 199 _ k (by omega)]
  have fz : w.frozen? ⟨c.bs, k, none⟩ = false := Lib.frozen_of_heap h.seen k
  rw [decide_eq_false hk] at cs
  obtain ⟨u, hu, ho⟩ := h.box
  obtain ⟨ua, uc, rfl⟩ := ho.form
  have cf : (w.setCell ⟨c.bs, k, none⟩ (.bool true)).cell? ⟨c.bf, 0, none⟩ = some (.slice ua S.length uc) := by
    have := hc.fs
    simp [World.cell?, World.setCell, Array.getElem?_modify, show w.heap[c.bf]? = _ from hu, Ne.symm this]
  have HOA : Hid (IsOwn ((w.setCell ⟨c.bs, k, none⟩ (.bool true)).alloc (.cells #[.int .i64 (k : Int)] 3)) c.R (.slice ua S.length uc) S) := enter_own hc h ho k _
  have HSZ : Hid (c.R ≤ ((w.setCell ⟨c.bs, k, none⟩ (.bool true)).alloc (.cells #[.int .i64 (k : Int)] 3)).heap.size) := by
    have := h.sz
    show _ ≤ _
    simp
    omega
  have HAT := hid h
  have HBX := hid hu
  have HOW := hid ho
  have HN := hid hn
  have HRG := hid hrg
  have HIH := hid ih
  have HFU : Hid (c.ss.length ≤ S.length + (f + 1)) := hfu
  clear h hu ho hn hrg ih hst hfu
  have eop := HOPS.1
  have o0 : (c.a : Int) = (c.s.size : Int) := by omega
  have hxr : ¬ (n.x < 0 ∨ (c.ss.length : Int) ≤ n.x) := fun h => HRG.out (Or.inr (Or.inr (Or.inl ⟨by omega, h⟩)))
  obtain ⟨x, enx⟩ : ∃ x : Nat, n.x = (x : Int) := ⟨n.x.toNat, by omega⟩
  have hxl : x < c.ss.length := by omega
  have HEX : Hid (n.x.toNat = x) := by show _ = _; omega
  have HO : Hid (n.op = 4 ∧ c.a = c.s.data.toList.length) := ⟨HOPS.1, by simpa using HOPS.2⟩
  clear HOPS hxr
  go_enter Tryd.func49, Tryd.ntmps49
  go_wp2_with (at_builtin; refine wpList_append_isr rfl _ _ rfl c.R _ rfl S HOA.out w.heap.size 1 k rfl (by rw [World.cell?_alloc_at (w := w.setCell ⟨c.bs, k, none⟩ (.bool true)) _ _ w.heap.size 0 (by simp)]; rfl) (by omega) HSZ.out ?_; intro gg cc W3 hown hgr hgb hrow; obtain ⟨hA4, hK4, hB4⟩ := HAT.out.enter hc hk hkl HBX.out HOW.out _ hgr hown (hrow.imp id (fun e => by simpa using e)); have hb3 : Boxed W3 c.bf 34 (.slice ua S.length uc) := enter_box hc HAT.out HBX.out HOW.out _ hgr; have cW := hb3.cell; have fW := hb3.frozen; obtain ⟨W4, hw4⟩ : ∃ W4, W3.setCell ⟨c.bf, 0, none⟩ (.slice (some ⟨gg, 0, none⟩) (S.length + 1) cc) = W4 := ⟨_, rfl⟩; rw [hw4] at hA4 hK4 hB4; obtain ⟨c0, c1, c2, c3, c4, c5, c6⟩ := hA4.steps k n HN.out; have r00 := hA4.r0; obtain ⟨W5, hw5⟩ : ∃ W5, W4.alloc (.cells #[.int .i64 n.op, .int .u64 n.c.a, .int .u64 n.c.b, .int .u64 n.c.c, .int .u64 n.c.d, .int .i64 n.x, .int .i64 n.y] 54) = W5 := ⟨_, rfl⟩; obtain ⟨hA5, hK5, hB5, d0, d5, d6, HM⟩ := entered hc hA4 hK4 hB4 n _ hw5; have v0 := hA5.v0; have a0 := hA5.a0; have r1 := hA5.r1; replace hA5 := hid hA5; replace hK5 := hid hK5; replace hB5 := hid hB5; replace HM := hid HM; clear hb3 hown hgr hgb hrow hA4 hK4 hB4; try rw [eop] at c0 d0 hw5; try rw [enx] at c5 d5 hw5; try rw [eny] at c6 d6 hw5; try (rw [o0] at a0; clear o0))
  refine Calls.mono (HIH.out (S ++ [k]) x W5 (by have := HFU.out; simp; omega) hxl hA5.out) ?_
  rintro e W6 ⟨vv, S1, rfl, hA6, hV6, hK6, hB6⟩
  have HP : Hid (∀ v, VsP c S [k] w (.returned v) W6) := fun v => ⟨v, S1, rfl, hA6, hV6.enter (fun y => by rw [stp_stay HN.out, List.mem_singleton]; constructor <;> intro hh <;> first | (have := HO.out; have := HEX.out; omega) | omega), hK5.out.trans hK6, hB5.out.trans hB6⟩
  clear hA6 hV6 hK6 hB6 v0 a0 r1 d0 d5 d6 HM
  go_wp2
  first | go_end0 | go_ret
  exact HP.out _
set_option maxHeartbeats 8000000 in
theorem visit_fork (c : Vc) (hc : c.Good) (f : Nat) (ih : VsOk c f) : ∀ (S : List Nat) (k : Nat) (w : World), c.ss.length ≤ S.length + (f + 1) → k < c.ss.length → c.At w S → ¬ k ∈ S → ∀ n : St, c.ss[k]? = some n → (n.op = 2) → Calls Tryd.prog 49 #[.int .i64 (k : Int), .pointer (some ⟨c.bs, 0, none⟩), .pointer (some ⟨c.bf, 0, none⟩), .pointer (some ⟨c.br, 0, none⟩), .pointer (some ⟨c.bv, 0, none⟩), .pointer (some ⟨c.ba, 0, none⟩)] w (VsP c S [k] w) := by
  intro S k w hfu hkl h hk n hn HOPS
  obtain ⟨h200, hpos, hst⟩ := stepsF_zero hc.fault
  have hrg := (hst n (List.mem_of_getElem? hn)).1
  have k0 : (0 : Int) ≤ (k : Int) := by omega
  have k1 : (k : Int) < 200 := by omega
  have k2 : (k : Int) < (c.ss.length : Int) := by omega
  have hS := h.len
  have hpl := hc.place
  have hsz := hc.size
  have cs : w.cell? ⟨c.bs, k, none⟩ = some (.bool (decide (k ∈ S))) := by
    rw [Lib.cell_of_heap h.seen, rowB_at 199 _ k (by omega)]
  have fz : w.frozen? ⟨c.bs, k, none⟩ = false := Lib.frozen_of_heap h.seen k
  rw [decide_eq_false hk] at cs
  obtain ⟨u, hu, ho⟩ := h.box
  obtain ⟨ua, uc, rfl⟩ := ho.form
  have cf : (w.setCell ⟨c.bs, k, none⟩ (.bool true)).cell? ⟨c.bf, 0, none⟩ = some (.slice ua S.length uc) := by
    have := hc.fs
    simp [World.cell?, World.setCell, Array.getElem?_modify, show w.heap[c.bf]? = _ from hu, Ne.symm this]
  have HOA : Hid (IsOwn ((w.setCell ⟨c.bs, k, none⟩ (.bool true)).alloc (.cells #[.int .i64 (k : Int)] 3)) c.R (.slice ua S.length uc) S) := enter_own hc h ho k _
  have HSZ : Hid (c.R ≤ ((w.setCell ⟨c.bs, k, none⟩ (.bool true)).alloc (.cells #[.int .i64 (k : Int)] 3)).heap.size) := by
    have := h.sz
    show _ ≤ _
    simp
    omega
  have HAT := hid h
  have HBX := hid hu
  have HOW := hid ho
  have HN := hid hn
  have HRG := hid hrg
  have HIH := hid ih
  have HFU : Hid (c.ss.length ≤ S.length + (f + 1)) := hfu
  clear h hu ho hn hrg ih hst hfu
  have eop := HOPS
  have hxr : ¬ (n.x < 0 ∨ (c.ss.length : Int) ≤ n.x) := fun h => HRG.out (Or.inr (Or.inr (Or.inl ⟨by omega, h⟩)))
  obtain ⟨x, enx⟩ : ∃ x : Nat, n.x = (x : Int) := ⟨n.x.toNat, by omega⟩
  have hxl : x < c.ss.length := by omega
  have HEX : Hid (n.x.toNat = x) := by show _ = _; omega
  have hyr : ¬ (n.y < 0 ∨ (c.ss.length : Int) ≤ n.y) := fun h => HRG.out (Or.inr (Or.inr (Or.inr ⟨by omega, h⟩)))
  obtain ⟨y, eny⟩ : ∃ y : Nat, n.y = (y : Int) := ⟨n.y.toNat, by omega⟩
  have hyl : y < c.ss.length := by omega
  have HEY : Hid (n.y.toNat = y) := by show _ = _; omega
  have HO := hid HOPS
  clear HOPS hxr hyr
  go_enter Tryd.func49, Tryd.ntmps49
  go_wp2_with (at_builtin; refine wpList_append_isr rfl _ _ rfl c.R _ rfl S HOA.out w.heap.size 1 k rfl (by rw [World.cell?_alloc_at (w := w.setCell ⟨c.bs, k, none⟩ (.bool true)) _ _ w.heap.size 0 (by simp)]; rfl) (by omega) HSZ.out ?_; intro gg cc W3 hown hgr hgb hrow; obtain ⟨hA4, hK4, hB4⟩ := HAT.out.enter hc hk hkl HBX.out HOW.out _ hgr hown (hrow.imp id (fun e => by simpa using e)); have hb3 : Boxed W3 c.bf 34 (.slice ua S.length uc) := enter_box hc HAT.out HBX.out HOW.out _ hgr; have cW := hb3.cell; have fW := hb3.frozen; obtain ⟨W4, hw4⟩ : ∃ W4, W3.setCell ⟨c.bf, 0, none⟩ (.slice (some ⟨gg, 0, none⟩) (S.length + 1) cc) = W4 := ⟨_, rfl⟩; rw [hw4] at hA4 hK4 hB4; obtain ⟨c0, c1, c2, c3, c4, c5, c6⟩ := hA4.steps k n HN.out; have r00 := hA4.r0; obtain ⟨W5, hw5⟩ : ∃ W5, W4.alloc (.cells #[.int .i64 n.op, .int .u64 n.c.a, .int .u64 n.c.b, .int .u64 n.c.c, .int .u64 n.c.d, .int .i64 n.x, .int .i64 n.y] 54) = W5 := ⟨_, rfl⟩; obtain ⟨hA5, hK5, hB5, d0, d5, d6, HM⟩ := entered hc hA4 hK4 hB4 n _ hw5; have v0 := hA5.v0; have a0 := hA5.a0; have r1 := hA5.r1; replace hA5 := hid hA5; replace hK5 := hid hK5; replace hB5 := hid hB5; replace HM := hid HM; clear hb3 hown hgr hgb hrow hA4 hK4 hB4; try rw [eop] at c0 d0 hw5; try rw [enx] at c5 d5 hw5; try rw [eny] at c6 d6 hw5; try (rw [o0] at a0; clear o0))
  refine Calls.mono (HIH.out (S ++ [k]) x W5 (by have := HFU.out; simp; omega) hxl hA5.out) ?_
  rintro e W6 ⟨vv, S1, rfl, hA6, hV6, hK6, hB6⟩
  have e6 := (HM.out W6 hK6).2
  have v6 := hA6.v0
  rw [eny] at e6
  have HA6 := hid hA6
  have HV6 := hid hV6
  have HK6 := hid (hK5.out.trans hK6)
  have HB6 := hid (hB5.out.trans hB6)
  have HF6 : Hid (c.ss.length ≤ S1.length + f) := by
    obtain ⟨m, hm⟩ := hV6.pre
    have := HFU.out
    show _ ≤ _
    rw [hm]
    simp
    omega
  clear hA6 hV6 hK6 hB6 v0 a0 r1 d0 d5 d6 HM
  go_wp2_with fail
  refine Calls.mono (HIH.out S1 y W6 HF6.out hyl HA6.out) ?_
  rintro e W7 ⟨vv2, S2, rfl, hA7, hV7, hK7, hB7⟩
  have HP : Hid (∀ v, VsP c S [k] w (.returned v) W7) := fun v => ⟨v, S2, rfl, hA7, (HV6.out.comp hV7).enter (fun z => by rw [stp_stay HN.out]; simp; constructor <;> intro hh <;> omega), HK6.out.trans hK7, HB6.out.trans hB7⟩
  clear hA7 hV7 hK7 hB7 v6 e6
  go_wp2
  first | go_end0 | go_ret
  exact HP.out _
theorem visit_step (c : Vc) (hc : c.Good) (f : Nat) (ih : VsOk c f) : VsOk c (f + 1) := by
  intro S k w hfu hkl h
  obtain ⟨h200, hpos, hst⟩ := stepsF_zero hc.fault
  obtain ⟨n, hn⟩ : ∃ n, c.ss[k]? = some n := ⟨c.ss[k], List.getElem?_eq_getElem hkl⟩
  have hrg := (hst n (List.mem_of_getElem? hn)).1
  by_cases hk : k ∈ S
  · have k0 : (0 : Int) ≤ (k : Int) := by omega
    have k1 : (k : Int) < 200 := by omega
    have cs : w.cell? ⟨c.bs, k, none⟩ = some (.bool (decide (k ∈ S))) := by
      rw [Lib.cell_of_heap h.seen, rowB_at 199 _ k (by omega)]
    have HP : Hid (∀ v, VsP c S [k] w (.returned v) w) := fun v => ⟨v, S, rfl, h, Vst.refl _ _ _ _ _ (fun x hx => by rw [List.mem_singleton.1 hx]; exact hk), KpF.refl _ _ _, Below.refl _ _⟩
    rw [decide_eq_true hk] at cs
    clear h hrg hn hst
    go_enter Tryd.func49, Tryd.ntmps49
    go_wp2
    first | go_end0 | go_ret
    exact HP.out _
  have hop : n.op = 1 ∨ n.op = 2 ∨ n.op = 3 ∨ n.op = 4 ∨ n.op = 5 := by
    unfold stRange at hrg
    omega
  rcases hop with h1 | h1 | h1 | h1 | h1
  · exact visit_idle c hc f ih S k w hfu hkl h hk n hn (Or.inl h1)
  · exact visit_fork c hc f ih S k w hfu hkl h hk n hn h1
  · by_cases ha : c.a = 0
    · exact visit_first c hc f ih S k w hfu hkl h hk n hn ⟨h1, ha⟩
    · exact visit_notFirst c hc f ih S k w hfu hkl h hk n hn ⟨h1, ha⟩
  · by_cases ha : c.a = c.s.size
    · exact visit_last c hc f ih S k w hfu hkl h hk n hn ⟨h1, ha⟩
    · exact visit_notLast c hc f ih S k w hfu hkl h hk n hn ⟨h1, ha⟩
  · exact visit_idle c hc f ih S k w hfu hkl h hk n hn (Or.inr h1)
theorem visit_any (c : Vc) (hc : c.Good) : ∀ f, VsOk c f
  | 0 => by
    intro S k w hfu hkl h
    have hS := h.len
    have hk : k ∈ S := by
      refine Classical.byContradiction fun hk => ?_
      have := nodup_le c.ss.length (k :: S) (List.nodup_cons.2 ⟨hk, h.nod⟩) (fun x hx => by
        rcases List.mem_cons.1 hx with rfl | hx
        · exact hkl
        · exact h.lt x hx)
      simp at this
      omega
    obtain ⟨h200, hpos, hst⟩ := stepsF_zero hc.fault
    have k0 : (0 : Int) ≤ (k : Int) := by omega
    have k1 : (k : Int) < 200 := by omega
    have cs : w.cell? ⟨c.bs, k, none⟩ = some (.bool (decide (k ∈ S))) := by
      rw [Lib.cell_of_heap h.seen, rowB_at 199 _ k (by omega)]
    have HP : Hid (∀ v, VsP c S [k] w (.returned v) w) := fun v => ⟨v, S, rfl, h, Vst.refl _ _ _ _ _ (fun x hx => by rw [List.mem_singleton.1 hx]; exact hk), KpF.refl _ _ _, Below.refl _ _⟩
    rw [decide_eq_true hk] at cs
    clear h hst
    go_enter Tryd.func49, Tryd.ntmps49
    go_wp2
    first | go_end0 | go_ret
    exact HP.out _
  | f + 1 => visit_step c hc f (visit_any c hc f)
end Go.Proofs.YtopoiljgghglaaaDoor
namespace Go.Proofs.YtopoiljgghglaaaDoor
set_option linter.unusedSimpArgs false
set_option linter.unusedVariables false
set_option maxRecDepth 100000
open Go.RowKit
/-- What reached answers. -/
def RcP (ss : List St) (s : List UInt8) (a : Nat) (bg : List Nat) (w : World) (e : Ending) (w' : World) : Prop := ∃ gg cc F, e = .returned (.slice (some ⟨gg, 0, none⟩) F.length cc) ∧ w.heap.size ≤ gg ∧ gg < w'.heap.size ∧ IsAt w' gg 0 F ∧ Clo ss s a bg F ∧ F.length ≤ 200 ∧ (∀ x ∈ F, x < ss.length) ∧ Below w.heap.size w w'
/-- Where it lays its variables. -/
def vcAt (ss : List St) (b off cap : Nat) (s : ByteArray) (a z : Nat) : Vc := ⟨ss, b, off, cap, s, a, z, z, z + 1, z + 1 + 1, z + 1 + 1 + 1, z + 1 + 1 + 1 + 1, z + 1 + 1 + 1 + 1 + 1⟩
theorem vcAt_good (ss : List St) (b off cap : Nat) (s : ByteArray) (a z : Nat) (hf : stepsF ss = 0) (hs : s.size ≤ 400) (ha : a ≤ 400) (hb : b < z) : (vcAt ss b off cap s a z).Good := by
  constructor <;> first | assumption | (simp only [vcAt]; omega)
/-- The world in which the closure begins. -/
def vcW (ss : List St) (b off cap : Nat) (s : ByteArray) (a : Nat) (w : World) : World := ((((w.alloc (.cells #[.slice (some ⟨b, off, none⟩) ss.length cap, .string s] 60)).alloc (.cells #[.int .i64 (a : Int)] 3)).alloc (.cells #[.slice none 0 0] 34)).alloc (.cells (rowB 199 fun _ => false) 95)).alloc (.cells #[.func (.func 49) #[] #[.pointer (some ⟨w.heap.size + 1 + 1 + 1, 0, none⟩), .pointer (some ⟨w.heap.size + 1 + 1, 0, none⟩), .pointer (some ⟨w.heap.size, 0, none⟩), .pointer (some ⟨w.heap.size + 1 + 1 + 1 + 1, 0, none⟩), .pointer (some ⟨w.heap.size + 1, 0, none⟩)]] 96)
theorem heap_at5 (w : World) (o0 o1 o2 o3 o4 : Obj) : (((((w.alloc o0).alloc o1).alloc o2).alloc o3).alloc o4).heap[w.heap.size]? = some o0 ∧ (((((w.alloc o0).alloc o1).alloc o2).alloc o3).alloc o4).heap[w.heap.size + 1]? = some o1 ∧ (((((w.alloc o0).alloc o1).alloc o2).alloc o3).alloc o4).heap[w.heap.size + 1 + 1]? = some o2 ∧ (((((w.alloc o0).alloc o1).alloc o2).alloc o3).alloc o4).heap[w.heap.size + 1 + 1 + 1]? = some o3 ∧ (((((w.alloc o0).alloc o1).alloc o2).alloc o3).alloc o4).heap[w.heap.size + 1 + 1 + 1 + 1]? = some o4 := by
  have key : ∀ (W : World) (o : Obj) (k : Nat) (x : Obj), W.heap[k]? = some x → (W.alloc o).heap[k]? = some x := fun W o k x h => (Below.heap_alloc W o k (heap_lt h)).trans h
  have new : ∀ (W : World) (o : Obj) (k : Nat), k = W.heap.size → (W.alloc o).heap[k]? = some o := fun W o k e => e ▸ World.alloc_heap_new W o
  exact ⟨key _ _ _ _ (key _ _ _ _ (key _ _ _ _ (key _ _ _ _ (new _ _ _ rfl)))), key _ _ _ _ (key _ _ _ _ (key _ _ _ _ (new _ _ _ (by simp)))), key _ _ _ _ (key _ _ _ _ (new _ _ _ (by simp))), key _ _ _ _ (new _ _ _ (by simp)), new _ _ _ (by simp)⟩
theorem vcW_at (ss : List St) (b off cap : Nat) (s : ByteArray) (a : Nat) (w : World) (hlt : b < w.heap.size) (hN : SsAt w b off ss) : (vcAt ss b off cap s a w.heap.size).At (vcW ss b off cap s a w) [] ∧ Below w.heap.size w (vcW ss b off cap s a w) := by
  have hB : Below w.heap.size w (vcW ss b off cap s a w) := ((((((Below.refl _ _).alloc (Nat.le_refl _) _).alloc (by simp) _).alloc (by simp; omega) _).alloc (by simp; omega) _).alloc (by simp; omega) _)
  obtain ⟨h0, h1, h2, h3, h4⟩ := heap_at5 w (.cells #[.slice (some ⟨b, off, none⟩) ss.length cap, .string s] 60) (.cells #[.int .i64 (a : Int)] 3) (.cells #[.slice none 0 0] 34) (.cells (rowB 199 fun _ => false) 95) (.cells #[.func (.func 49) #[] #[.pointer (some ⟨w.heap.size + 1 + 1 + 1, 0, none⟩), .pointer (some ⟨w.heap.size + 1 + 1, 0, none⟩), .pointer (some ⟨w.heap.size, 0, none⟩), .pointer (some ⟨w.heap.size + 1 + 1 + 1 + 1, 0, none⟩), .pointer (some ⟨w.heap.size + 1, 0, none⟩)]] 96)
  refine ⟨⟨hN.below hB hlt, ?_, ?_, ?_, ?_, ⟨.slice none 0 0, h2, IsOwn.nil _ _⟩, ?_, ?_, by simp, by simp⟩, hB⟩
  · exact (Lib.cell_of_heap (w := vcW ss b off cap s a w) h0 0).trans rfl
  · exact (Lib.cell_of_heap (w := vcW ss b off cap s a w) h0 1).trans rfl
  · exact (Lib.cell_of_heap (w := vcW ss b off cap s a w) h1 0).trans rfl
  · exact (Lib.cell_of_heap (w := vcW ss b off cap s a w) h4 0).trans rfl
  · have : (fun j => decide (j ∈ ([] : List Nat))) = fun _ => false := by funext j; simp
    rw [this]
    exact h3
  · unfold vcW vcAt
    simp
/-- Between two rounds. -/
def RcR (c : Vc) (bg : List Nat) (w0 : World) (i : Nat) (wr : World) : Prop := ∃ S, c.At wr S ∧ Vst c.ss c.s.data.toList c.a [] S (bg.take i) ∧ Below c.B w0 wr
set_option maxHeartbeats 8000000 in
theorem reached_any (ss : List St) (b off cap : Nat) (hf : stepsF ss = 0) (s : ByteArray) (hs : s.size ≤ 400) (bg : List Nat) (hbg : ∀ x ∈ bg, x < ss.length) (hne : 0 < bg.length) (hbl : bg.length ≤ 200) (g o c a : Nat) (ha : a ≤ 400) (w : World) (hlt : b < w.heap.size) (hN : SsAt w b off ss) (hg : g < w.heap.size) (hI : IsAt w g o bg) :
    Calls Tryd.prog 38 #[rnV (.slice (some ⟨b, off, none⟩) ss.length cap) s, .slice (some ⟨g, o, none⟩) bg.length c, .int .i64 (a : Int)] w (RcP ss s.data.toList a bg w) := by
  have hz := zero_seen
  have HG := hid (vcAt_good ss b off cap s a w.heap.size hf hs ha hlt)
  have HV := hid (visit_any _ HG.out)
  obtain ⟨hA0, hB0⟩ := vcW_at ss b off cap s a w hlt hN
  have H0 : Hid (RcR (vcAt ss b off cap s a w.heap.size) bg w 0 (vcW ss b off cap s a w)) := ⟨[], hA0, Vst.refl _ _ _ _ _ (fun x hx => by simp at hx), hB0⟩
  obtain ⟨W0, hW0⟩ : ∃ W0, W0 = vcW ss b off cap s a w := ⟨_, rfl⟩
  rw [← hW0] at H0
  unfold vcW at hW0
  have HI := hid hI
  have HBG := hid hbg
  clear hA0 hB0 hN hI hbg
  go_enter Tryd.func38, Tryd.ntmps38
  go_wp2_with fail
  rw [← hW0]
  clear hW0 hz
  go_loopw [15] (fun v wr => ∃ i : Nat, i ≤ bg.length ∧ v = .int .i64 i ∧ Hid (RcR (vcAt ss b off cap s a w.heap.size) bg w i wr)) (fun v _ => bg.length - (intOf v).toNat)
  case atStart => exact ⟨0, by omega, rfl, H0⟩
  case round =>
    clear H0
    obtain ⟨i, hi, rfl, HR⟩ := hrel
    obtain ⟨S, hA, hV, hB⟩ := HR.out
    by_cases hil : i < bg.length
    · obtain ⟨x, hx⟩ : ∃ x, bg[i]? = some x := ⟨bg[i], List.getElem?_eq_getElem hil⟩
      have hxl := HBG.out x (List.mem_of_getElem? hx)
      have ci := (hB.cell (p := ⟨g, _, none⟩) hg).trans (HI.out i x hx)
      have g1 : (i : Int) < (bg.length : Int) := by omega
      have v0 : wr.cell? ⟨w.heap.size + 1 + 1 + 1 + 1, 0, none⟩ = some (.func (.func 49) #[] #[.pointer (some ⟨w.heap.size + 1 + 1 + 1, 0, none⟩), .pointer (some ⟨w.heap.size + 1 + 1, 0, none⟩), .pointer (some ⟨w.heap.size, 0, none⟩), .pointer (some ⟨w.heap.size + 1 + 1 + 1 + 1, 0, none⟩), .pointer (some ⟨w.heap.size + 1, 0, none⟩)]) := hA.v0
      have HA := hid hA
      have HVS := hid hV
      have HB := hid hB
      have HTK : Hid (bg.take (i + 1) = bg.take i ++ [x]) := by show _ = _; rw [List.take_add_one, hx]; rfl
      clear hA hV hB hx
      go_wp2_with fail
      refine Calls.mono (HV.out ss.length S x wr (by show ss.length ≤ _; omega) hxl HA.out) ?_
      rintro e W6 ⟨vv, S1, rfl, hA6, hV6, hK6, hB6⟩
      have HR2 : Hid (RcR (vcAt ss b off cap s a w.heap.size) bg w (i + 1) W6) := ⟨S1, hA6, by rw [HTK.out]; exact HVS.out.comp hV6, HB.out.trans hB6⟩
      clear hA6 hV6 hK6 hB6 v0 ci HR HTK
      go_wp2
      exact ⟨⟨i + 1, by omega, by go_num, HR2⟩, by simp [intOf]; omega⟩
    · have he : i = bg.length := by omega
      have g1 : ¬ (i : Int) < (bg.length : Int) := by omega
      obtain ⟨u, hu, ho⟩ := hA.box
      have cb : wr.cell? ⟨w.heap.size + 1 + 1, 0, none⟩ = some u := hu.cell
      have HY : Hid (RcP ss s.data.toList a bg w (.returned u) wr) := by
        rw [he, List.take_length] at hV
        have hS0 : 0 < S.length := by
          obtain ⟨x, hx⟩ : ∃ x, bg[0]? = some x := ⟨bg[0], List.getElem?_eq_getElem hne⟩
          exact List.length_pos_of_mem (hV.has x (List.mem_of_getElem? hx))
        have hl := hA.len
        have h200 := (stepsF_zero hf).1
        have hII := ho.isIn (by unfold maxLen; have : S.length ≤ ss.length := hl; omega)
        rcases ho.2 with ⟨_, h0⟩ | ⟨gg, cc, cur, hv, hb, hh, _⟩
        · omega
        · subst hv
          obtain ⟨a', cap', e1, _, e2 | ⟨b', off', e3, _, e4⟩⟩ := hII
          · rw [e2] at hS0; simp at hS0
          · injection e1 with e1 _ _
            rw [e3] at e1
            injection e1 with e1
            injection e1 with e5 e6
            subst e5 e6
            refine ⟨gg, cc, S, rfl, ?_, heap_lt hh, e4, hV.clo, ?_, hA.lt, hB⟩
            · have : w.heap.size + 1 + 1 + 1 + 1 + 1 ≤ gg := hb
              omega
            · have : S.length ≤ ss.length := hl
              omega
      obtain ⟨ua, uc, rfl⟩ := ho.form
      clear HR he hA hV hB hu ho
      go_wp2
      go_ret
      exact HY.out
end Go.Proofs.YtopoiljgghglaaaDoor
