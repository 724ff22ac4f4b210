/- What the document's own functions answer: Reach at a node without parts. What the document's own functions answer: closed. What the document's own functions answer: Reach at a node with parts. -/
import Derived.Test.YtejbififfceamaaGreatDoorY30
import Derived.Test.YtejbififfceamaaGreatDoorY07
import Derived.Test.YtejbififfceamaaGreatDoorY16
import Derived.Laws.CopyRow
import Derived.Deep.RegionHeld3
import Derived.BigRegion
namespace Go.Proofs.YtejbififfceamaaGreatDoor
set_option linter.unusedSimpArgs false
set_option linter.unusedVariables false
set_option maxRecDepth 100000
open Go.RowKit
/-- B is all that t fits from the places of A. -/
def Img (s : List UInt8) (t : Rx) (A B : Nat → Bool) : Prop := ∀ j, j ≤ s.length → (B j = true ↔ ∃ i, i ≤ s.length ∧ A i = true ∧ Fit s t i j)
/-- What comes out: all that t fits from the places of A. -/
def RchP (w : World) (s : ByteArray) (t : Rx) (A : Nat → Bool) (e : Ending) (w' : World) : Prop := ∃ u B, e = .returned u ∧ Below w.heap.size w w' ∧ BsIn w' u s.size B ∧ Img s.data.toList t A B
/-- Reach at node i answers what t fits. -/
def RchOk (ns : List Nd) (b off cap i : Nat) (s : ByteArray) (t : Rx) : Prop := ∀ (A : Nat → Bool) (v : Value) (w : World), b < w.heap.size → NsAt w b off ns → BsIn w v s.size A →
  Calls Tryz.prog 89 #[.slice (some ⟨b, off, none⟩) ns.length cap, .int .i64 i, .string s, v] w (RchP w s t A)
theorem at_lt {ns : List Nd} {i : Nat} {n : Nd} (hn : ns[i]? = some n) : i < ns.length := by
  rcases Nat.lt_or_ge i ns.length with h' | h'
  · exact h'
  · rw [List.getElem?_eq_none h'] at hn; cases hn
theorem img_empty (s : List UInt8) (n : Nd) (hop : n.op = 2) (A : Nat → Bool) : Img s (.leaf n) A A := by
  intro j hj
  have hF : ∀ i, Fit s (.leaf n) i j ↔ i = j ∧ i ≤ s.length := fun i => by unfold Fit; rw [hop]; simp
  constructor
  · intro h; exact ⟨j, hj, h, (hF j).2 ⟨rfl, hj⟩⟩
  · rintro ⟨i, _, h, hf⟩
    obtain ⟨rfl, _⟩ := (hF i).1 hf
    exact h
theorem img_begin (s : List UInt8) (n : Nd) (hop : n.op = 8) (A : Nat → Bool) : Img s (.leaf n) A (upd (fun _ => false) 0 (A 0)) := by
  intro j hj
  have hF : ∀ i, Fit s (.leaf n) i j ↔ i = 0 ∧ j = 0 := fun i => by unfold Fit; rw [hop]; simp
  unfold upd
  constructor
  · intro h
    split at h
    · rename_i e; exact ⟨0, by omega, h, (hF 0).2 ⟨rfl, e⟩⟩
    · cases h
  · rintro ⟨i, _, h, hf⟩
    obtain ⟨rfl, rfl⟩ := (hF i).1 hf
    rw [if_pos rfl]; exact h
theorem img_end (s : List UInt8) (n : Nd) (hop : n.op = 9) (A : Nat → Bool) : Img s (.leaf n) A (upd (fun _ => false) s.length (A s.length)) := by
  intro j hj
  have hF : ∀ i, Fit s (.leaf n) i j ↔ i = s.length ∧ j = s.length := fun i => by unfold Fit; rw [hop]; simp
  unfold upd
  constructor
  · intro h
    split at h
    · rename_i e; exact ⟨s.length, by omega, h, (hF _).2 ⟨rfl, e⟩⟩
    · cases h
  · rintro ⟨i, _, h, hf⟩
    obtain ⟨rfl, rfl⟩ := (hF i).1 hf
    rw [if_pos rfl]; exact h
/-- What a byte of a class leads to. -/
def byteB (s : List UInt8) (n : Nd) (A : Nat → Bool) (m : Nat) : Nat → Bool := fun j => match j with
  | 0 => false
  | j + 1 => decide (j < m) && (A j && (match s[j]? with | some c => n.c.has c.toNat | none => false))
theorem img_byte (s : List UInt8) (n : Nd) (hop : n.op = 1) (A : Nat → Bool) : Img s (.leaf n) A (byteB s n A s.length) := by
  intro j hj
  have hF : ∀ i, Fit s (.leaf n) i j ↔ ∃ c, s[i]? = some c ∧ n.c.has c.toNat = true ∧ j = i + 1 := fun i => by unfold Fit; rw [hop]; simp
  cases j with
  | zero =>
    constructor
    · intro h; cases h
    · rintro ⟨i, _, _, hf⟩
      obtain ⟨c, _, _, h⟩ := (hF i).1 hf
      omega
  | succ j =>
    have hjl : j < s.length := by omega
    constructor
    · intro h
      simp only [byteB, List.getElem?_eq_getElem hjl, Bool.and_eq_true] at h
      exact ⟨j, by omega, h.2.1, (hF j).2 ⟨s[j], List.getElem?_eq_getElem hjl, h.2.2, rfl⟩⟩
    · rintro ⟨i, _, h, hf⟩
      obtain ⟨c, h1, h2, h3⟩ := (hF i).1 hf
      obtain rfl : i = j := by omega
      simp only [byteB, h1, h, h2, hjl, decide_true, Bool.and_true, Bool.true_and]
theorem new_one (w : World) (o : Obj) : Below w.heap.size w (w.alloc o) := (Below.refl _ _).alloc (Nat.le_refl _) _
set_option maxHeartbeats 4000000 in
theorem reach_begin (ns : List Nd) (b off cap i : Nat) (hl : ns.length ≤ 60) (n : Nd) (hn : ns[i]? = some n) (hop : n.op = 8) (s : ByteArray) (hs : s.size ≤ 1000000) : RchOk ns b off cap i s (.leaf n) := by
  intro A v w hlt hN hA
  have hil := at_lt hn
  obtain ⟨c0, c1, c2, c3, c4⟩ := (hN.below (new_one w (.cells (rowB s.size fun _ => false) 4)) hlt) i n hn
  have HI := hid (img_begin s.data.toList n hop A)
  try rw [sl] at HI
  rw [hop] at c0
  obtain ⟨b1, o1, d1, rfl, l1, hA⟩ := hA
  have a0 : ∀ o, ((w.alloc (.cells (rowB s.size fun _ => false) 4)).alloc o).cell? ⟨b1, o1 + 0, none⟩ = some (.bool (A 0)) := fun o => (hA.below ((new_one w _).trans ((new_one _ o).mono (by simp))) l1) 0 (by omega)
  simp only [Nat.add_zero] at a0
  have HR := fun o => (BsRow.new' w s.size fun _ => false).below (new_one _ o)
  have f0 : ∀ o, ((w.alloc (.cells (rowB s.size fun _ => false) 4)).alloc o).frozen? ⟨w.heap.size, 0, none⟩ = false := fun o => (HR o).free 0
  have g0 : ∀ o, ((w.alloc (.cells (rowB s.size fun _ => false) 4)).alloc o).cell? ⟨w.heap.size, 0, none⟩ = some (.bool false) := fun o => by
    have := (HR o).at 0 (by omega)
    rw [Nat.zero_add] at this
    exact this
  have hmk := mkB s.size hs
  have i0 : (0 : Int) ≤ (i : Int) := by omega
  have i1 : (i : Int) < (ns.length : Int) := by omega
  clear hn hN hA hop HR
  go_enter Tryz.func89, Tryz.ntmps89
  go_wp2
  go_ret
  refine ⟨_, upd (fun _ => false) 0 (A 0), rfl, (new_one w _).trans ((new_one _ _).mono (by simp)), ?_, HI.out⟩
  rw [rowB_set]
  exact ((BsRow.new' w s.size _).below (new_one _ _)).isIn _
set_option maxHeartbeats 4000000 in
theorem reach_end (ns : List Nd) (b off cap i : Nat) (hl : ns.length ≤ 60) (n : Nd) (hn : ns[i]? = some n) (hop : n.op = 9) (s : ByteArray) (hs : s.size ≤ 1000000) : RchOk ns b off cap i s (.leaf n) := by
  intro A v w hlt hN hA
  have hil := at_lt hn
  obtain ⟨c0, c1, c2, c3, c4⟩ := (hN.below (new_one w (.cells (rowB s.size fun _ => false) 4)) hlt) i n hn
  have HI := hid (img_end s.data.toList n hop A)
  try rw [sl] at HI
  rw [hop] at c0
  obtain ⟨b1, o1, d1, rfl, l1, hA⟩ := hA
  have a0 : ∀ o, ((w.alloc (.cells (rowB s.size fun _ => false) 4)).alloc o).cell? ⟨b1, o1 + s.size, none⟩ = some (.bool (A s.size)) := fun o => (hA.below ((new_one w _).trans ((new_one _ o).mono (by simp))) l1) s.size (by omega)
  skip
  have HR := fun o => (BsRow.new' w s.size fun _ => false).below (new_one _ o)
  have f0 : ∀ o, ((w.alloc (.cells (rowB s.size fun _ => false) 4)).alloc o).frozen? ⟨w.heap.size, s.size, none⟩ = false := fun o => (HR o).free s.size
  have g0 : ∀ o, ((w.alloc (.cells (rowB s.size fun _ => false) 4)).alloc o).cell? ⟨w.heap.size, s.size, none⟩ = some (.bool false) := fun o => by
    have := (HR o).at s.size (by omega)
    rw [Nat.zero_add] at this
    exact this
  have hmk := mkB s.size hs
  have i0 : (0 : Int) ≤ (i : Int) := by omega
  have i1 : (i : Int) < (ns.length : Int) := by omega
  clear hn hN hA hop HR
  go_enter Tryz.func89, Tryz.ntmps89
  go_wp2
  go_ret
  refine ⟨_, upd (fun _ => false) s.size (A s.size), rfl, (new_one w _).trans ((new_one _ _).mono (by simp)), ?_, HI.out⟩
  rw [rowB_set]
  exact ((BsRow.new' w s.size _).below (new_one _ _)).isIn _
theorem below_setRow {B : Nat} {w w1 : World} (h : Below B w w1) {g : Nat} (hg : B ≤ g) (c : Array Value) : Below B w (w1.setRow g c) := by
  refine ⟨h.os, h.tape, h.output, by simpa [World.setRow] using h.size, fun k hk => ?_⟩
  rw [← h.block k hk]
  simp [World.setRow, Array.getElem?_modify, show ¬ g = k by omega]
theorem rowB_list (N : Nat) (A : Nat → Bool) (C : Array Value) (h : C.size = N + 1) : (C.toList.take 0 ++ ((List.range (N + 1)).map fun i => Value.bool (A i)) ++ C.toList.drop (0 + ((List.range (N + 1)).map fun i => Value.bool (A i)).length)).toArray = rowB N A := by
  rw [List.drop_eq_nil_of_le (by simp; omega)]
  simp [rowB]
set_option maxHeartbeats 4000000 in
theorem reach_empty (ns : List Nd) (b off cap i : Nat) (hl : ns.length ≤ 60) (n : Nd) (hn : ns[i]? = some n) (hop : n.op = 2) (s : ByteArray) (hs : s.size ≤ 1000000) : RchOk ns b off cap i s (.leaf n) := by
  intro A v w hlt hN hA
  have hil := at_lt hn
  obtain ⟨c0, c1, c2, c3, c4⟩ := (hN.below ((Below.refl w.heap.size w).alloc (Nat.le_refl _) (.cells (rowB s.size fun _ => false) 4)) hlt) i n hn
  have HI := hid (img_empty s.data.toList n hop A)
  rw [hop] at c0
  obtain ⟨b1, o1, d1, rfl, l1, hA⟩ := hA
  have HR := fun o => (BsRow.new' w s.size fun _ => false).below (new_one _ o)
  have hmk := mkB s.size hs
  have hcp : ∀ o, (Builtin.copy_ #[193, 193] 3 #[.slice (some ⟨w.heap.size, 0, none⟩) (s.size + 1) (s.size + 1), .slice (some ⟨b1, o1, none⟩) (s.size + 1) d1]).run Tryz.prog ((w.alloc (.cells (rowB s.size fun _ => false) 4)).alloc o) = .ok (goInt (s.size + 1)) (((w.alloc (.cells (rowB s.size fun _ => false) 4)).alloc o).setRow w.heap.size (rowB s.size A)) := by
    intro o
    have h := run_copy_row (P := Tryz.prog) ((w.alloc (.cells (rowB s.size fun _ => false) 4)).alloc o) 193 193 3 4 w.heap.size 0 (s.size + 1) (s.size + 1) ⟨b1, o1, none⟩ (s.size + 1) d1 (rowB s.size fun _ => false) 4 ((List.range (s.size + 1)).map fun i => Value.bool (A i)) Tryz.underlying193 (by kernel_rfl) (HR o) (by simp) (by
      intro j u hj
      have hjl : j < s.size + 1 := by
        rcases Nat.lt_or_ge j (s.size + 1) with h' | h'
        · exact h'
        · rw [List.getElem?_eq_none (by simpa using h')] at hj; cases hj
      simp [List.getElem?_range hjl] at hj
      subst hj
      rw [Addr.add_lit]
      exact (hA.below ((new_one w _).trans ((new_one _ o).mono (by simp))) l1) j (by omega)) (by simp [rowB]) (by simp [Value.oneCell'])
    rw [rowB_list s.size A _ (by simp [rowB])] at h
    simpa using h
  have i0 : (0 : Int) ≤ (i : Int) := by omega
  have i1 : (i : Int) < (ns.length : Int) := by omega
  have HR' := hid HR
  clear hn hN hA hop HR
  go_enter Tryz.func89, Tryz.ntmps89
  go_wp2
  go_ret
  exact ⟨_, A, rfl, below_setRow ((new_one w _).trans ((new_one _ _).mono (by simp))) (Nat.le_refl _) _, BsRow.isIn (setRow_heap _ _ _ _ _ _ (HR'.out _)) _, HI.out⟩
theorem heap_new (w : World) (o : Obj) : (w.alloc o).heap[w.heap.size]? = some o := by
  show (w.heap.push _)[w.heap.size]? = _
  simp
theorem BsRow.congr' {w : World} {b g N : Nat} {A B : Nat → Bool} (h : BsRow w b N A) (hg : g = b) (he : ∀ i, i ≤ N → A i = B i) : BsRow w g N B := hg ▸ h.congr he
/-- How it stands while the bytes are gone through. -/
structure ByR (w : World) (g b1 o1 : Nat) (s : ByteArray) (n : Nd) (A : Nat → Bool) (k : Nat) (wr : World) : Prop where
  row : BsRow wr g s.size (byteB s.data.toList n A k)
  nd : wr.heap[g + 1]? = some (.cells #[.int .i64 1, .int .u64 n.c.a, .int .u64 n.c.b, .int .u64 n.c.c, .int .u64 n.c.d] 106 (0, 0))
  frm : BsAt wr b1 o1 s.size A
  b : Below w.heap.size w wr
  lt : b1 < g
  gw : g = w.heap.size
theorem ByR.low {w : World} {g b1 o1 : Nat} {s : ByteArray} {n : Nd} {A : Nat → Bool} {k : Nat} {wr w3 : World} (h : ByR w g b1 o1 s n A k wr) (hb : Below wr.heap.size wr w3) : ByR w g b1 o1 s n A k w3 := by
  have h1 := h.row.lt
  have h2 := h.lt
  have h3 : g + 1 < wr.heap.size := by
    rcases Nat.lt_or_ge (g + 1) wr.heap.size with h' | h'
    · exact h'
    · have := h.nd; rw [Array.getElem?_eq_none h'] at this; cases this
  exact ⟨h.row.below hb, (hb.block _ h3).trans h.nd, h.frm.below hb (by omega), h.b.trans (hb.mono h.b.size), h.lt, h.gw⟩
theorem ByR.sup {w : World} {g b1 o1 : Nat} {s : ByteArray} {n : Nd} {A : Nat → Bool} {k : Nat} {wr : World} (h : ByR w g b1 o1 s n A k wr) (i : Nat) (v : Value) : (wr.setCell ⟨g, i, none⟩ v).heap[g + 1]? = some (.cells #[.int .i64 1, .int .u64 n.c.a, .int .u64 n.c.b, .int .u64 n.c.c, .int .u64 n.c.d] 106 (0, 0)) ∧ BsAt (wr.setCell ⟨g, i, none⟩ v) b1 o1 s.size A := by
  have hl := h.lt
  have hb : Below g wr (wr.setCell ⟨g, i, none⟩ v) := (Below.refl g wr).setCell (p := ⟨g, i, none⟩) (Nat.le_refl _) v
  refine ⟨?_, h.frm.below hb hl⟩
  rw [← h.nd]
  simp [World.setCell, Array.getElem?_modify]
theorem byteB_step (s : List UInt8) (n : Nd) (A : Nat → Bool) (k : Nat) (c : UInt8) (hc : s[k]? = some c) (j : Nat) : upd (byteB s n A k) (k + 1) (A k && n.c.has c.toNat) j = byteB s n A (k + 1) j := by
  unfold upd
  cases j with
  | zero => rw [if_neg (by omega)]; rfl
  | succ j =>
    by_cases e : j = k
    · subst e
      simp [byteB, hc]
    · rw [if_neg (by omega)]
      simp only [byteB]
      congr 1
      exact decide_eq_decide.2 (by omega)
theorem ByR.step {w : World} {g b1 o1 : Nat} {s : ByteArray} {n : Nd} {A : Nat → Bool} {k : Nat} {wr : World} (h : ByR w g b1 o1 s n A k wr) (c : UInt8) (hc : s.data.toList[k]? = some c) (x : Bool) (hx : x = (A k && n.c.has c.toNat)) : ByR w g b1 o1 s n A (k + 1) (wr.setCell ⟨g, k + 1, none⟩ (.bool x)) := by
  subst hx
  have hq := h.sup (k + 1) (.bool (A k && n.c.has c.toNat))
  exact ⟨(h.row.set (k + 1) _).congr fun i hi => byteB_step _ n A k c hc i, hq.1, hq.2, h.b.setCell (p := ⟨g, k + 1, none⟩) (by rw [h.gw]; exact Nat.le_refl _) _, h.lt, h.gw⟩
/-- The cells that one round reads. -/
def ByC (w : World) (g b1 o1 k : Nat) (x : Bool) (n : Nd) : Prop := w.cell? ⟨b1, o1 + k, none⟩ = some (.bool x) ∧ w.cell? ⟨g + 1, 1, none⟩ = some (.int .u64 n.c.a) ∧ w.cell? ⟨g + 1, 2, none⟩ = some (.int .u64 n.c.b) ∧ w.cell? ⟨g + 1, 3, none⟩ = some (.int .u64 n.c.c) ∧ w.cell? ⟨g + 1, 4, none⟩ = some (.int .u64 n.c.d)
theorem byC_of {w : World} {g b1 o1 N k : Nat} {n : Nd} {A : Nat → Bool} (h1 : w.heap[g + 1]? = some (.cells #[.int .i64 1, .int .u64 n.c.a, .int .u64 n.c.b, .int .u64 n.c.c, .int .u64 n.c.d] 106 (0, 0))) (h2 : BsAt w b1 o1 N A) (hk : k ≤ N) : ByC w g b1 o1 k (A k) n := by
  refine ⟨h2 k hk, ?_, ?_, ?_, ?_⟩ <;> (rw [Lib.cell_of_heap h1]; rfl)
theorem ByR.all {w : World} {g b1 o1 : Nat} {s : ByteArray} {n : Nd} {A : Nat → Bool} {k : Nat} {wr : World} (h : ByR w g b1 o1 s n A k wr) (hk : k < s.size) : ByC wr g b1 o1 k (A k) n ∧ (∀ v, ByC (wr.setCell ⟨g, k + 1, none⟩ v) g b1 o1 k (A k) n) ∧ wr.cell? ⟨g, k + 1, none⟩ = some (.bool (byteB s.data.toList n A k (k + 1))) ∧ wr.frozen? ⟨g, k + 1, none⟩ = false := by
  refine ⟨byC_of h.nd h.frm (by omega), fun v => byC_of (h.sup (k + 1) v).1 (h.sup (k + 1) v).2 (by omega), ?_, h.row.free _⟩
  have := h.row.at (k + 1) (by omega)
  rw [Nat.zero_add] at this
  exact this
set_option maxHeartbeats 8000000 in
theorem reach_byte (ns : List Nd) (b off cap i : Nat) (hl : ns.length ≤ 60) (n : Nd) (hn : ns[i]? = some n) (hop : n.op = 1) (hok : n.c.ok) (s : ByteArray) (hs : s.size ≤ 1000000) : RchOk ns b off cap i s (.leaf n) := by
  intro A v w hlt hN hA
  have hil := at_lt hn
  obtain ⟨c0, c1, c2, c3, c4⟩ := (hN.below (new_one w (.cells (rowB s.size fun _ => false) 4)) hlt) i n hn
  have HI := hid (img_byte s.data.toList n hop A)
  rw [sl] at HI
  rw [hop] at c0
  obtain ⟨b1, o1, d1, rfl, l1, hA⟩ := hA
  have hmk := mkB s.size hs
  have i0 : (0 : Int) ≤ (i : Int) := by omega
  have i1 : (i : Int) < (ns.length : Int) := by omega
  obtain ⟨g, hg⟩ : ∃ g, g = w.heap.size := ⟨_, rfl⟩
  clear hn hN hop
  go_enter Tryz.func89, Tryz.ntmps89
  go_wp2
  rw [← hg]
  have HG := hid hg
  have HNew : Hid (ByR w g b1 o1 s n A 0 ((w.alloc (.cells (rowB s.size fun _ => false) 4)).alloc (.cells #[.int .i64 1, .int .u64 n.c.a, .int .u64 n.c.b, .int .u64 n.c.c, .int .u64 n.c.d] 106))) := by
    have hB := (new_one w (.cells (rowB s.size fun _ => false) 4)).trans ((new_one (w.alloc (.cells (rowB s.size fun _ => false) 4)) (.cells #[.int .i64 1, .int .u64 n.c.a, .int .u64 n.c.b, .int .u64 n.c.c, .int .u64 n.c.d] 106)).mono (by simp))
    refine ⟨((BsRow.new' w s.size fun _ => false).below (new_one _ _)).congr' hg ?_, ?_, hA.below hB l1, hB, by omega, hg⟩
    · intro j hj; cases j <;> simp [byteB]
    · rw [hg]
      have e : (w.alloc (.cells (rowB s.size fun _ => false) 4)).heap.size = w.heap.size + 1 := by simp
      rw [← e]
      exact heap_new _ _
  clear hA hmk hg c0 c1 c2 c3 c4
  have HW := hid hok
  clear hok
  go_loopw [11] (fun v wr => ∃ k : Nat, k ≤ s.size ∧ v = .int .i64 k ∧ ByR w g b1 o1 s n A k wr) (fun v _ => s.size - (intOf v).toNat)
  case atStart => exact ⟨0, by omega, rfl, HNew.out⟩
  case round =>
    clear HNew
    obtain ⟨k, hk, rfl, hR⟩ := hrel
    by_cases hkl : k < s.size
    · obtain ⟨c, hc⟩ : ∃ c, s.data.toList[k]? = some c := ⟨s.data.toList[k]'(by rw [sl]; exact hkl), List.getElem?_eq_getElem _⟩
      have hsi := str_idx' s k c hc
      have HCc := hid hc
      have k0 : (0 : Int) ≤ (k : Int) := by omega
      have k1 : (k : Int) < (s.size : Int) := by omega
      have k2 : (k : Int) + 1 < (s.size : Int) + 1 := by omega
      have k3 : (0 : Int) ≤ (k : Int) + 1 := by omega
      have k4 : (k : Int) < (s.size : Int) + 1 := by omega
      have k5 : IntKind.i64.wrap ((k : Int) + 1) = (k : Int) + 1 := by rw [IntKind.wrap_i64]; omega
      have HR := hid (hR.low (Below.drew (Below.refl _ wr)))
      have HIn := hid (in_any n.c HW.out c.toNat c.toNat_lt)
      have hcc : IntKind.i64.wrap (c.toNat : Int) = (c.toNat : Int) := by have := c.toNat_lt; rw [IntKind.wrap_i64]; omega
      obtain ⟨⟨q1, q2, q3, q4, q5⟩, hset, q6, q7⟩ := hR.all hkl
      have hs1 := fun v => (hset v).1
      have hs2 := fun v => (hset v).2.1
      have hs3 := fun v => (hset v).2.2.1
      have hs4 := fun v => (hset v).2.2.2.1
      have hs5 := fun v => (hset v).2.2.2.2
      have HRb := hid hR
      clear hc hR hset
      cases hx : A k
      · rw [hx] at q1
        simp only [hx] at hs1
        have HX := hid hx
        clear hx
        go_wp2_with fail
        go_big_region
        all_goals go_wp2
        all_goals exact ⟨⟨k + 1, by omega, by go_num, (HRb.out.step c HCc.out false (by rw [HX.out]; rfl)).low (Below.drew (Below.refl _ _))⟩, by simp [intOf]; omega⟩
      · rw [hx] at q1
        simp only [hx] at hs1
        have HX := hid hx
        have HK := hid (fun w3 hb3 => (HR.out.low hb3).all hkl (wr := w3))
        clear hx
        go_wp2_with fail
        go_region_with (first | (go_at_call 63; refine Calls.mono (HIn.out _) ?_; rintro e w3 ⟨rfl, hb3⟩; obtain ⟨⟨r1, r2, r3, r4, r5⟩, _, r6, r7⟩ := HK.out _ hb3))
        all_goals go_wp2
        all_goals exact ⟨⟨k + 1, by omega, by go_num, (HR.out.low hb3).step c HCc.out _ (by rw [HX.out, Bool.true_and])⟩, by simp [intOf]; omega⟩
    · obtain rfl : k = s.size := by omega
      have HR := hid hR
      clear hR
      go_wp2
      go_ret
      exact ⟨_, _, rfl, HR.out.b, HR.out.row.isIn _, HI.out⟩
end Go.Proofs.YtejbififfceamaaGreatDoor
namespace Go.Proofs.YtejbififfceamaaGreatDoor
set_option linter.unusedSimpArgs false
set_option linter.unusedVariables false
set_option maxRecDepth 100000
open Go.RowKit
/-- How many of the first n places are not there. -/
def cntF (C : Nat → Bool) : Nat → Nat
  | 0 => 0
  | n + 1 => cntF C n + if C n then 0 else 1
theorem cntF_congr {C D : Nat → Bool} : ∀ (n : Nat), (∀ i, i < n → C i = D i) → cntF C n = cntF D n
  | 0, _ => rfl
  | n + 1, h => by rw [cntF, cntF, cntF_congr n (fun i hi => h i (by omega)), h n (by omega)]
theorem cntF_le {C D : Nat → Bool} : ∀ (n : Nat), (∀ i, i < n → C i = true → D i = true) → cntF D n ≤ cntF C n
  | 0, _ => Nat.le_refl _
  | n + 1, h => by
    have ih := cntF_le n (fun i hi => h i (by omega))
    have h1 := h n (by omega)
    rw [cntF, cntF]
    cases hc : C n <;> cases hd : D n <;> simp_all <;> omega
theorem cntF_lt {C D : Nat → Bool} : ∀ (n : Nat), (∀ i, i < n → C i = true → D i = true) → (∃ k, k < n ∧ C k = false ∧ D k = true) → cntF D n < cntF C n
  | 0, _, ⟨k, hk, _⟩ => by omega
  | n + 1, h, ⟨k, hk, h1, h2⟩ => by
    rw [cntF, cntF]
    by_cases e : k = n
    · subst e
      have ih := cntF_le k (fun i hi => h i (by omega))
      rw [h1, h2]
      simp
      omega
    · have ih := cntF_lt n (fun i hi => h i (by omega)) ⟨k, by omega, h1, h2⟩
      have h3 := h n (by omega)
      cases hc : C n <;> cases hd : D n <;> simp_all <;> omega
/-- Is place i of a slice there? -/
def cellT (w : World) (v : Value) (i : Nat) : Bool := match v with
  | .slice (some a) _ _ => (match w.cell? ⟨a.block, a.off + i, none⟩ with | some (.bool x) => x | _ => false)
  | _ => false
theorem BsIn.cellT {w : World} {v : Value} {N : Nat} {A : Nat → Bool} (h : BsIn w v N A) (i : Nat) (hi : i ≤ N) : Go.Proofs.YtejbififfceamaaGreatDoor.cellT w v i = A i := by
  obtain ⟨b, off, cap, rfl, _, h⟩ := h
  simp [Go.Proofs.YtejbififfceamaaGreatDoor.cellT, h i hi]
/-- B is all that t fits from the places of A, as often as one likes. -/
def ImgS (s : List UInt8) (t : Rx) (A B : Nat → Bool) : Prop := ∀ j, j ≤ s.length → (B j = true ↔ ∃ i, i ≤ s.length ∧ A i = true ∧ Str s.length (Fit s t) i j)
def ClsP (w : World) (s : ByteArray) (t : Rx) (A : Nat → Bool) (e : Ending) (w' : World) : Prop := ∃ u B, e = .returned u ∧ Below w.heap.size w w' ∧ BsIn w' u s.size B ∧ ImgS s.data.toList t A B
def ClsOk (ns : List Nd) (b off cap i : Nat) (s : ByteArray) (t : Rx) : Prop := ∀ (A : Nat → Bool) (v : Value) (w : World), b < w.heap.size → NsAt w b off ns → BsIn w v s.size A →
  Calls Tryz.prog 112 #[.slice (some ⟨b, off, none⟩) ns.length cap, .int .i64 i, .string s, v] w (ClsP w s t A)
/-- How it stands between two rounds. -/
structure ClR (w : World) (s : ByteArray) (t : Rx) (A : Nat → Bool) (C : Nat → Bool) (v : Value) (wr : World) : Prop where
  row : BsIn wr v s.size C
  sup : ∀ j, j ≤ s.size → A j = true → C j = true
  sub : ∀ j, j ≤ s.size → C j = true → ∃ i, i ≤ s.size ∧ A i = true ∧ Str s.size (Fit s.data.toList t) i j
  b : Below w.heap.size w wr
theorem ClR.more {w : World} {s : ByteArray} {t : Rx} {A C B : Nat → Bool} {v u : Value} {wr w' : World} (h : ClR w s t A C v wr) (hi : Img s.data.toList t C B) (hb : Below w.heap.size w w') (hu : BsIn w' u s.size fun i => C i || B i) : ClR w s t A (fun i => C i || B i) u w' := by
  refine ⟨hu, fun j hj ha => by simp [h.sup j hj ha], fun j hj hc => ?_, hb⟩
  rw [Bool.or_eq_true] at hc
  rcases hc with hc | hc
  · exact h.sub j hj hc
  · obtain ⟨i, h1, h2, h3⟩ := (hi j (by rw [sl]; exact hj)).1 hc
    rw [sl] at h1
    obtain ⟨k, k1, k2, k3⟩ := h.sub i h1 h2
    refine ⟨k, k1, k2, k3.trans ?_⟩
    have := Str.one (fit_le s.data.toList t) h3
    rw [sl] at this
    exact this
theorem ClR.done {w : World} {s : ByteArray} {t : Rx} {A C B : Nat → Bool} {v : Value} {wr : World} (h : ClR w s t A C v wr) (hi : Img s.data.toList t C B) (hs : ∀ j, j ≤ s.size → (C j || B j) = C j) : ImgS s.data.toList t A fun i => C i || B i := by
  intro j hj
  rw [sl] at hj ⊢
  have key : ∀ {x y : Nat}, Str s.size (Fit s.data.toList t) x y → x ≤ s.size → C x = true → C y = true := by
    intro x y hxy
    induction hxy with
    | nil => intro _ h; exact h
    | cons x m y hx _ ih =>
      intro hxl hc
      have hm := fit_le s.data.toList t x m hx
      rw [sl] at hm
      have hb : B m = true := (hi m (by rw [sl]; omega)).2 ⟨x, by rw [sl]; exact hxl, hc, hx⟩
      have := hs m (by omega)
      rw [hb, Bool.or_true] at this
      exact ih hm.2 this.symm
  simp only
  rw [hs j hj]
  constructor
  · exact h.sub j hj
  · rintro ⟨i, h1, h2, h3⟩
    exact key h3 h1 (h.sup i h1 h2)
theorem ClR.less {w w' : World} {s : ByteArray} {t : Rx} {A C B : Nat → Bool} {v u : Value} {wr : World} (h : ClR w s t A C v wr) (hu : BsIn w' u s.size fun i => C i || B i) (hn : ¬ ∀ j, j ≤ s.size → (C j || B j) = C j) : cntF (cellT w' u) (s.size + 1) < cntF (cellT wr v) (s.size + 1) := by
  rw [cntF_congr (s.size + 1) (fun i hi => hu.cellT i (by omega)), cntF_congr (s.size + 1) (fun i hi => h.row.cellT i (by omega))]
  apply cntF_lt
  · intro i _ hc; simp [hc]
  · refine Classical.byContradiction fun hne => hn fun j hj => ?_
    cases hc : C j
    · cases hb : B j
      · rfl
      · exact absurd ⟨j, by omega, hc, by simp [hb]⟩ hne
    · rfl
set_option maxHeartbeats 8000000 in
theorem closed_any (ns : List Nd) (b off cap i : Nat) (hl : ns.length ≤ 60) (s : ByteArray) (hs : s.size ≤ 1000000) (t : Rx) (hT : RchOk ns b off cap i s t) : ClsOk ns b off cap i s t := by
  intro A v w hlt hN hA
  have HT : Hid (∀ C u wr, Below w.heap.size w wr → BsIn wr u s.size C → _) := fun C u wr hb hu => hT C u wr (Nat.lt_of_lt_of_le hlt hb.size) (hN.below hb hlt) hu
  have HST : Hid (ClR w s t A A v w) := ⟨hA, fun _ _ h => h, fun j hj h => ⟨j, hj, h, .nil j hj⟩, Below.refl _ _⟩
  obtain ⟨b1, o1, d1, rfl, l1, hA⟩ := hA
  clear hA hT hN
  go_enter Tryz.func112, Tryz.ntmps112
  go_wp2
  have HJ := hid (joined_any s.size hs)
  go_loopw [3] (fun v wr => ∃ C, ClR w s t A C v wr) (fun v wr => cntF (cellT wr v) (s.size + 1))
  case atStart => exact ⟨A, HST.out⟩
  case round =>
    clear HST
    obtain ⟨C, hR⟩ := hrel
    obtain ⟨b2, o2, d2, rfl⟩ := hR.row.form
    have HR := hid hR
    clear hR
    go_wp2_with fail
    refine Calls.mono (HT.out C _ _ HR.out.b HR.out.row) ?_
    rintro e w1 ⟨u1, B, rfl, hb1, hr1, hi1⟩
    have HI := hid hi1
    have HB1 := hid hb1
    have HR1 := hid hr1
    clear hi1 hb1 hr1
    go_wp2_with fail
    refine Calls.mono (HJ.out C B _ _ _ (HR.out.row.below HB1.out) HR1.out) ?_
    rintro e w2 ⟨u2, rfl, hb2, hr2⟩
    have HB2 := hid (HB1.out.trans (hb2.mono HB1.out.size))
    have HR2 := hid hr2
    obtain ⟨b3, o3, d3, rfl, l3, hx⟩ := hr2
    have HX := hid hx
    have HL := hid l3
    clear hb2 hx l3
    go_wp2_with fail
    go_loopw [10, 11] (fun sm v w3 => ∃ (x : Bool) (k : Nat), sm = .bool x ∧ k ≤ s.size + 1 ∧ v = .int .i64 k ∧ Hid (x = true ↔ ∀ j, j < k → (C j || B j) = C j) ∧ Below w2.heap.size w2 w3) (fun _ v _ => s.size + 1 - (intOf v).toNat)
    case atStart => exact ⟨true, 0, rfl, by omega, rfl, ⟨fun _ j hj => by omega, fun _ => rfl⟩, Below.refl _ _⟩
    case round =>
      obtain ⟨x, k, rfl, hk, rfl, HX2, hb3⟩ := hrel
      have k0 : (0 : Int) ≤ (k : Int) := by omega
      have HB3 := hid hb3
      by_cases hkl : k < s.size + 1
      · have k1 : (k : Int) < (s.size : Int) + 1 := by omega
        have HKL := hid (show k < s.size + 1 from hkl)
        have HM : Hid (s.size + 1 - (k + 1) < s.size + 1 - k) := by show _ < _; omega
        have a0 := (HX.out.below hb3 HL.out) k (by omega)
        have d0 : wr.cell? ⟨b2, o2 + k, none⟩ = some (.bool (C k)) := by
          obtain ⟨b', o', c', e, l', h'⟩ := HR.out.row
          injection e with e1 e2 e3
          injection e1 with e1
          injection e1 with e4 e5
          subst e4 e5
          exact ((h'.below HB2.out l').below hb3 (Nat.lt_of_lt_of_le l' HB2.out.size)) k (by omega)
        clear hb3
        have step : ∀ y : Bool, y = (x && ((C k || B k) == C k)) → (y = true ↔ ∀ j, j < k + 1 → (C j || B j) = C j) := by
          intro y hy
          rw [hy, Bool.and_eq_true, HX2.out, beq_iff_eq]
          constructor
          · rintro ⟨h1, h2⟩ j hj
            by_cases e : j = k
            · subst e; exact h2
            · exact h1 j (by omega)
          · intro h; exact ⟨fun j hj => h j (by omega), h k (by omega)⟩
        have HSt := hid step
        clear step
        cases x
        · go_wp2_with fail
          try go_quiet (fail)
          go_wp2
          exact ⟨⟨false, k + 1, rfl, HKL.out, by go_num, HSt.out false rfl, by first | exact HB3.out | exact HB3.out.trans ((below_drewN' wr _).mono HB3.out.size)⟩, by simpa [intOf] using HM.out⟩
        · go_wp2_with fail
          try go_quiet (fail)
          go_wp2
          exact ⟨⟨(C k || B k) == C k, k + 1, rfl, HKL.out, by go_num, HSt.out _ (by rw [Bool.true_and]), by first | exact HB3.out | exact HB3.out.trans ((below_drewN' wr _).mono HB3.out.size)⟩, by simpa [intOf] using HM.out⟩
      · obtain rfl : k = s.size + 1 := by omega
        have HR3 := hid (HR2.out.below hb3)
        have HB4 := hid (HB2.out.trans (hb3.mono HB2.out.size))
        clear hb3
        cases x
        · go_wp2
          exact ⟨⟨_, HR.out.more HI.out (HR.out.b.trans (HB4.out.mono HR.out.b.size)) HR3.out⟩, HR.out.less HR3.out (fun h => absurd (HX2.out.2 fun j hj => h j (by omega)) (by simp))⟩
        · go_wp2
          go_ret
          refine ⟨_, _, rfl, HR.out.b.trans (HB4.out.mono HR.out.b.size), HR3.out, HR.out.done HI.out fun j hj => HX2.out.1 (by simp) j (by omega)⟩
end Go.Proofs.YtejbififfceamaaGreatDoor
namespace Go.Proofs.YtejbififfceamaaGreatDoor
set_option linter.unusedSimpArgs false
set_option linter.unusedVariables false
set_option maxRecDepth 100000
open Go.RowKit
theorem img_cat (s : List UInt8) (n : Nd) (a b : Rx) (hop : n.op = 3) {A B C : Nat → Bool} (h1 : Img s a A B) (h2 : Img s b B C) : Img s (.two n a b) A C := by
  intro j hj
  have hF : ∀ i, Fit s (.two n a b) i j ↔ ∃ k, Fit s a i k ∧ Fit s b k j := fun i => by rw [Fit, if_pos hop]
  rw [h2 j hj]
  constructor
  · rintro ⟨k, hk, hb, hf⟩
    obtain ⟨i, hi, ha, hg⟩ := (h1 k hk).1 hb
    exact ⟨i, hi, ha, (hF i).2 ⟨k, hg, hf⟩⟩
  · rintro ⟨i, hi, ha, hf⟩
    obtain ⟨k, h3, h4⟩ := (hF i).1 hf
    have hk := (fit_le s a i k h3).2
    exact ⟨k, hk, (h1 k hk).2 ⟨i, hi, ha, h3⟩, h4⟩
theorem img_or (s : List UInt8) (n : Nd) (a b : Rx) (hop : n.op = 4) {A B C : Nat → Bool} (h1 : Img s a A B) (h2 : Img s b A C) : Img s (.two n a b) A fun i => B i || C i := by
  intro j hj
  have hF : ∀ i, Fit s (.two n a b) i j ↔ Fit s a i j ∨ Fit s b i j := fun i => by rw [Fit, if_neg (by rw [hop]; decide)]
  simp only [Bool.or_eq_true]
  rw [h1 j hj, h2 j hj]
  constructor
  · rintro (⟨i, hi, ha, hf⟩ | ⟨i, hi, ha, hf⟩)
    · exact ⟨i, hi, ha, (hF i).2 (Or.inl hf)⟩
    · exact ⟨i, hi, ha, (hF i).2 (Or.inr hf)⟩
  · rintro ⟨i, hi, ha, hf⟩
    rcases (hF i).1 hf with h | h
    · exact Or.inl ⟨i, hi, ha, h⟩
    · exact Or.inr ⟨i, hi, ha, h⟩
theorem img_opt (s : List UInt8) (n : Nd) (a : Rx) (hop : n.op = 7) {A B : Nat → Bool} (h1 : Img s a A B) : Img s (.one n a) A fun i => A i || B i := by
  intro j hj
  have hF : ∀ i, Fit s (.one n a) i j ↔ (i = j ∧ i ≤ s.length) ∨ Fit s a i j := fun i => by rw [Fit, if_neg (by rw [hop]; decide), if_neg (by rw [hop]; decide)]
  simp only [Bool.or_eq_true]
  rw [h1 j hj]
  constructor
  · rintro (ha | ⟨i, hi, ha, hf⟩)
    · exact ⟨j, hj, ha, (hF j).2 (Or.inl ⟨rfl, hj⟩)⟩
    · exact ⟨i, hi, ha, (hF i).2 (Or.inr hf)⟩
  · rintro ⟨i, hi, ha, hf⟩
    rcases (hF i).1 hf with ⟨rfl, _⟩ | h
    · exact Or.inl ha
    · exact Or.inr ⟨i, hi, ha, h⟩
theorem img_star (s : List UInt8) (n : Nd) (a : Rx) (hop : n.op = 5) {A B : Nat → Bool} (h1 : ImgS s a A B) : Img s (.one n a) A B := by
  intro j hj
  have hF : ∀ i, Fit s (.one n a) i j ↔ Str s.length (Fit s a) i j := fun i => by rw [Fit, if_pos hop]
  rw [h1 j hj]
  constructor
  · rintro ⟨i, hi, ha, hf⟩; exact ⟨i, hi, ha, (hF i).2 hf⟩
  · rintro ⟨i, hi, ha, hf⟩; exact ⟨i, hi, ha, (hF i).1 hf⟩
theorem img_plus (s : List UInt8) (n : Nd) (a : Rx) (hop : n.op = 6) {A B C : Nat → Bool} (h1 : Img s a A B) (h2 : ImgS s a B C) : Img s (.one n a) A C := by
  intro j hj
  have hF : ∀ i, Fit s (.one n a) i j ↔ ∃ k, Fit s a i k ∧ Str s.length (Fit s a) k j := fun i => by rw [Fit, if_neg (by rw [hop]; decide), if_pos hop]
  rw [h2 j hj]
  constructor
  · rintro ⟨k, hk, hb, hf⟩
    obtain ⟨i, hi, ha, hg⟩ := (h1 k hk).1 hb
    exact ⟨i, hi, ha, (hF i).2 ⟨k, hg, hf⟩⟩
  · rintro ⟨i, hi, ha, hf⟩
    obtain ⟨k, h3, h4⟩ := (hF i).1 hf
    have hk := (fit_le s a i k h3).2
    exact ⟨k, hk, (h1 k hk).2 ⟨i, hi, ha, h3⟩, h4⟩
/-- What Reach has made when it looks at the node. -/
def Two (w : World) (s : ByteArray) (n : Nd) (op : Int) : World := (w.alloc (.cells (rowB s.size fun _ => false) 4)).alloc (.cells #[.int .i64 op, .int .u64 n.c.a, .int .u64 n.c.b, .int .u64 n.c.c, .int .u64 n.c.d] 106)
theorem two_below (w : World) (s : ByteArray) (n : Nd) (op : Int) : Below w.heap.size w (Two w s n op) := (new_one w _).trans ((new_one _ _).mono (by simp))
def EndAt (ns : List Nd) (b off cap i j : Nat) : Prop := ∀ w : World, NsAt w b off ns → Calls Tryz.prog 42 #[.slice (some ⟨b, off, none⟩) ns.length cap, .int .i64 i] w fun e w' => e = .returned (.int .i64 (j : Int)) ∧ w' = w
set_option maxHeartbeats 4000000 in
theorem reach_cat (ns : List Nd) (b off cap i j : Nat) (hl : ns.length ≤ 60) (n : Nd) (hn : ns[i]? = some n) (hop : n.op = 3) (hi1 : i + 1 < ns.length) (s : ByteArray) (hs : s.size ≤ 1000000) (a b' : Rx) (hA : RchOk ns b off cap (i + 1) s a) (hB : RchOk ns b off cap j s b') (hE : EndAt ns b off cap (i + 1) j) : RchOk ns b off cap i s (.two n a b') := by
  intro A v w hlt hN hv
  obtain ⟨c0, c1, c2, c3, c4⟩ := (hN.below (new_one w (.cells (rowB s.size fun _ => false) 4)) hlt) i n hn
  rw [hop] at c0
  have hmk := mkB s.size hs
  have i0 : (0 : Int) ≤ (i : Int) := by omega
  have i1 : (i : Int) < (ns.length : Int) := by omega
  have i2 : (i : Int) + 1 < (ns.length : Int) := by omega
  obtain ⟨b1, o1, d1, rfl⟩ := hv.form
  have HV := hid (hv.below (two_below w s n 3))
  have HT := hid (two_below w s n 3)
  have HOP := hid hop
  have HA : Hid (∀ w1 C u, Below w.heap.size w w1 → BsIn w1 u s.size C → Calls Tryz.prog 89 #[.slice (some ⟨b, off, none⟩) ns.length cap, .int .i64 ((i : Int) + 1), .string s, u] w1 (RchP w1 s a C)) := fun w1 C u hb hu => hA C u w1 (Nat.lt_of_lt_of_le hlt hb.size) (hN.below hb hlt) hu
  have HB : Hid (∀ w1 C u, Below w.heap.size w w1 → BsIn w1 u s.size C → Calls Tryz.prog 89 #[.slice (some ⟨b, off, none⟩) ns.length cap, .int .i64 (j : Int), .string s, u] w1 (RchP w1 s b' C)) := fun w1 C u hb hu => hB C u w1 (Nat.lt_of_lt_of_le hlt hb.size) (hN.below hb hlt) hu
  have HE : Hid (∀ w1, Below w.heap.size w w1 → Calls Tryz.prog 42 #[.slice (some ⟨b, off, none⟩) ns.length cap, .int .i64 ((i : Int) + 1)] w1 fun e w' => e = .returned (.int .i64 (j : Int)) ∧ w' = w1) := fun w1 hb => hE w1 (hN.below hb hlt)
  clear hA hB hE hN hv hop hn
  go_enter Tryz.func89, Tryz.ntmps89
  go_wp2_with fail
  refine Calls.mono (HE.out _ HT.out) ?_
  rintro e w9 ⟨rfl, rfl⟩
  go_wp2_with fail
  refine Calls.mono (HA.out _ A _ HT.out HV.out) ?_
  rintro e w1 ⟨u1, B1, rfl, hb, hr, hi⟩
  have HB1 := hid (HT.out.trans (hb.mono HT.out.size))
  have HR1 := hid hr
  have HI1 := hid hi
  have HL1 := hid hb
  clear hb hr hi
  obtain ⟨bb1, oo1, dd1, rfl⟩ := HR1.out.form
  go_wp2_with fail
  refine Calls.mono (HB.out _ B1 _ HB1.out HR1.out) ?_
  rintro e w2 ⟨u2, B2, rfl, hb, hr, hi⟩
  have HB2 := hid (HB1.out.trans (hb.mono HB1.out.size))
  have HR2 := hid hr
  have HI2 := hid hi
  have HL2 := hid hb
  clear hb hr hi
  obtain ⟨bb2, oo2, dd2, rfl⟩ := HR2.out.form
  go_wp2_with fail
  go_ret
  exact ⟨_, _, rfl, HB2.out, HR2.out, img_cat _ n a b' HOP.out HI1.out HI2.out⟩
set_option maxHeartbeats 4000000 in
theorem reach_or (ns : List Nd) (b off cap i j : Nat) (hl : ns.length ≤ 60) (n : Nd) (hn : ns[i]? = some n) (hop : n.op = 4) (hi1 : i + 1 < ns.length) (s : ByteArray) (hs : s.size ≤ 1000000) (a b' : Rx) (hA : RchOk ns b off cap (i + 1) s a) (hB : RchOk ns b off cap j s b') (hE : EndAt ns b off cap (i + 1) j) : RchOk ns b off cap i s (.two n a b') := by
  intro A v w hlt hN hv
  obtain ⟨c0, c1, c2, c3, c4⟩ := (hN.below (new_one w (.cells (rowB s.size fun _ => false) 4)) hlt) i n hn
  rw [hop] at c0
  have hmk := mkB s.size hs
  have i0 : (0 : Int) ≤ (i : Int) := by omega
  have i1 : (i : Int) < (ns.length : Int) := by omega
  have i2 : (i : Int) + 1 < (ns.length : Int) := by omega
  obtain ⟨b1, o1, d1, rfl⟩ := hv.form
  have HV := hid (hv.below (two_below w s n 4))
  have HT := hid (two_below w s n 4)
  have HOP := hid hop
  have HA : Hid (∀ w1 C u, Below w.heap.size w w1 → BsIn w1 u s.size C → Calls Tryz.prog 89 #[.slice (some ⟨b, off, none⟩) ns.length cap, .int .i64 ((i : Int) + 1), .string s, u] w1 (RchP w1 s a C)) := fun w1 C u hb hu => hA C u w1 (Nat.lt_of_lt_of_le hlt hb.size) (hN.below hb hlt) hu
  have HB : Hid (∀ w1 C u, Below w.heap.size w w1 → BsIn w1 u s.size C → Calls Tryz.prog 89 #[.slice (some ⟨b, off, none⟩) ns.length cap, .int .i64 (j : Int), .string s, u] w1 (RchP w1 s b' C)) := fun w1 C u hb hu => hB C u w1 (Nat.lt_of_lt_of_le hlt hb.size) (hN.below hb hlt) hu
  have HE : Hid (∀ w1, Below w.heap.size w w1 → Calls Tryz.prog 42 #[.slice (some ⟨b, off, none⟩) ns.length cap, .int .i64 ((i : Int) + 1)] w1 fun e w' => e = .returned (.int .i64 (j : Int)) ∧ w' = w1) := fun w1 hb => hE w1 (hN.below hb hlt)
  have HJ := hid (joined_any s.size hs)
  clear hA hB hE hN hv hop hn
  go_enter Tryz.func89, Tryz.ntmps89
  go_wp2_with fail
  refine Calls.mono (HA.out _ A _ HT.out HV.out) ?_
  rintro e w1 ⟨u1, B1, rfl, hb, hr, hi⟩
  have HB1 := hid (HT.out.trans (hb.mono HT.out.size))
  have HR1 := hid hr
  have HI1 := hid hi
  have HL1 := hid hb
  clear hb hr hi
  obtain ⟨bb1, oo1, dd1, rfl⟩ := HR1.out.form
  go_wp2_with fail
  refine Calls.mono (HE.out _ HB1.out) ?_
  rintro e w9 ⟨rfl, rfl⟩
  go_wp2_with fail
  refine Calls.mono (HB.out _ A _ HB1.out (HV.out.below HL1.out)) ?_
  rintro e w2 ⟨u2, B2, rfl, hb, hr, hi⟩
  have HB2 := hid (HB1.out.trans (hb.mono HB1.out.size))
  have HR2 := hid hr
  have HI2 := hid hi
  have HL2 := hid hb
  clear hb hr hi
  obtain ⟨bb2, oo2, dd2, rfl⟩ := HR2.out.form
  go_wp2_with fail
  refine Calls.mono (HJ.out B1 B2 _ _ _ (HR1.out.below HL2.out) HR2.out) ?_
  rintro e w3 ⟨x, rfl, hb, hr⟩
  have HB3 := hid (HB2.out.trans (hb.mono HB2.out.size))
  have HR3 := hid hr
  clear hb hr
  go_wp2_with fail
  go_ret
  exact ⟨_, _, rfl, HB3.out, HR3.out, img_or _ n a b' HOP.out HI1.out HI2.out⟩
set_option maxHeartbeats 4000000 in
theorem reach_opt (ns : List Nd) (b off cap i : Nat) (hl : ns.length ≤ 60) (n : Nd) (hn : ns[i]? = some n) (hop : n.op = 7) (hi1 : i + 1 < ns.length) (s : ByteArray) (hs : s.size ≤ 1000000) (a : Rx) (hA : RchOk ns b off cap (i + 1) s a) : RchOk ns b off cap i s (.one n a) := by
  intro A v w hlt hN hv
  obtain ⟨c0, c1, c2, c3, c4⟩ := (hN.below (new_one w (.cells (rowB s.size fun _ => false) 4)) hlt) i n hn
  rw [hop] at c0
  have hmk := mkB s.size hs
  have i0 : (0 : Int) ≤ (i : Int) := by omega
  have i1 : (i : Int) < (ns.length : Int) := by omega
  have i2 : (i : Int) + 1 < (ns.length : Int) := by omega
  obtain ⟨b1, o1, d1, rfl⟩ := hv.form
  have HV := hid (hv.below (two_below w s n 7))
  have HT := hid (two_below w s n 7)
  have HOP := hid hop
  have HA : Hid (∀ w1 C u, Below w.heap.size w w1 → BsIn w1 u s.size C → Calls Tryz.prog 89 #[.slice (some ⟨b, off, none⟩) ns.length cap, .int .i64 ((i : Int) + 1), .string s, u] w1 (RchP w1 s a C)) := fun w1 C u hb hu => hA C u w1 (Nat.lt_of_lt_of_le hlt hb.size) (hN.below hb hlt) hu
  have HJ := hid (joined_any s.size hs)
  clear hA hN hv hop hn
  go_enter Tryz.func89, Tryz.ntmps89
  go_wp2_with fail
  refine Calls.mono (HA.out _ A _ HT.out HV.out) ?_
  rintro e w1 ⟨u1, B1, rfl, hb, hr, hi⟩
  have HB1 := hid (HT.out.trans (hb.mono HT.out.size))
  have HR1 := hid hr
  have HI1 := hid hi
  have HL1 := hid hb
  clear hb hr hi
  obtain ⟨bb1, oo1, dd1, rfl⟩ := HR1.out.form
  go_wp2_with fail
  refine Calls.mono (HJ.out A B1 _ _ _ (HV.out.below HL1.out) HR1.out) ?_
  rintro e w3 ⟨x, rfl, hb, hr⟩
  have HB3 := hid (HB1.out.trans (hb.mono HB1.out.size))
  have HR3 := hid hr
  clear hb hr
  go_wp2_with fail
  go_ret
  exact ⟨_, _, rfl, HB3.out, HR3.out, img_opt _ n a HOP.out HI1.out⟩
set_option maxHeartbeats 4000000 in
theorem reach_star (ns : List Nd) (b off cap i : Nat) (hl : ns.length ≤ 60) (n : Nd) (hn : ns[i]? = some n) (hop : n.op = 5) (hi1 : i + 1 < ns.length) (s : ByteArray) (hs : s.size ≤ 1000000) (a : Rx) (hA : RchOk ns b off cap (i + 1) s a) : RchOk ns b off cap i s (.one n a) := by
  intro A v w hlt hN hv
  obtain ⟨c0, c1, c2, c3, c4⟩ := (hN.below (new_one w (.cells (rowB s.size fun _ => false) 4)) hlt) i n hn
  rw [hop] at c0
  have hmk := mkB s.size hs
  have i0 : (0 : Int) ≤ (i : Int) := by omega
  have i1 : (i : Int) < (ns.length : Int) := by omega
  have i2 : (i : Int) + 1 < (ns.length : Int) := by omega
  obtain ⟨b1, o1, d1, rfl⟩ := hv.form
  have HV := hid (hv.below (two_below w s n 5))
  have HT := hid (two_below w s n 5)
  have HOP := hid hop
  have HA : Hid (∀ w1 C u, Below w.heap.size w w1 → BsIn w1 u s.size C → Calls Tryz.prog 89 #[.slice (some ⟨b, off, none⟩) ns.length cap, .int .i64 ((i : Int) + 1), .string s, u] w1 (RchP w1 s a C)) := fun w1 C u hb hu => hA C u w1 (Nat.lt_of_lt_of_le hlt hb.size) (hN.below hb hlt) hu
  have HC : Hid (∀ w1 C u, Below w.heap.size w w1 → BsIn w1 u s.size C → Calls Tryz.prog 112 #[.slice (some ⟨b, off, none⟩) ns.length cap, .int .i64 ((i : Int) + 1), .string s, u] w1 (ClsP w1 s a C)) := fun w1 C u hb hu => closed_any ns b off cap (i + 1) hl s hs a hA C u w1 (Nat.lt_of_lt_of_le hlt hb.size) (hN.below hb hlt) hu
  clear hA hN hv hop hn
  go_enter Tryz.func89, Tryz.ntmps89
  go_wp2_with fail
  refine Calls.mono (HC.out _ A _ HT.out HV.out) ?_
  rintro e w1 ⟨u1, B1, rfl, hb, hr, hi⟩
  have HB1 := hid (HT.out.trans (hb.mono HT.out.size))
  have HR1 := hid hr
  have HI1 := hid hi
  have HL1 := hid hb
  clear hb hr hi
  obtain ⟨bb1, oo1, dd1, rfl⟩ := HR1.out.form
  go_wp2_with fail
  go_ret
  exact ⟨_, _, rfl, HB1.out, HR1.out, img_star _ n a HOP.out HI1.out⟩
set_option maxHeartbeats 4000000 in
theorem reach_plus (ns : List Nd) (b off cap i : Nat) (hl : ns.length ≤ 60) (n : Nd) (hn : ns[i]? = some n) (hop : n.op = 6) (hi1 : i + 1 < ns.length) (s : ByteArray) (hs : s.size ≤ 1000000) (a : Rx) (hA : RchOk ns b off cap (i + 1) s a) : RchOk ns b off cap i s (.one n a) := by
  intro A v w hlt hN hv
  obtain ⟨c0, c1, c2, c3, c4⟩ := (hN.below (new_one w (.cells (rowB s.size fun _ => false) 4)) hlt) i n hn
  rw [hop] at c0
  have hmk := mkB s.size hs
  have i0 : (0 : Int) ≤ (i : Int) := by omega
  have i1 : (i : Int) < (ns.length : Int) := by omega
  have i2 : (i : Int) + 1 < (ns.length : Int) := by omega
  obtain ⟨b1, o1, d1, rfl⟩ := hv.form
  have HV := hid (hv.below (two_below w s n 6))
  have HT := hid (two_below w s n 6)
  have HOP := hid hop
  have HA : Hid (∀ w1 C u, Below w.heap.size w w1 → BsIn w1 u s.size C → Calls Tryz.prog 89 #[.slice (some ⟨b, off, none⟩) ns.length cap, .int .i64 ((i : Int) + 1), .string s, u] w1 (RchP w1 s a C)) := fun w1 C u hb hu => hA C u w1 (Nat.lt_of_lt_of_le hlt hb.size) (hN.below hb hlt) hu
  have HC : Hid (∀ w1 C u, Below w.heap.size w w1 → BsIn w1 u s.size C → Calls Tryz.prog 112 #[.slice (some ⟨b, off, none⟩) ns.length cap, .int .i64 ((i : Int) + 1), .string s, u] w1 (ClsP w1 s a C)) := fun w1 C u hb hu => closed_any ns b off cap (i + 1) hl s hs a hA C u w1 (Nat.lt_of_lt_of_le hlt hb.size) (hN.below hb hlt) hu
  clear hA hN hv hop hn
  go_enter Tryz.func89, Tryz.ntmps89
  go_wp2_with fail
  refine Calls.mono (HA.out _ A _ HT.out HV.out) ?_
  rintro e w1 ⟨u1, B1, rfl, hb, hr, hi⟩
  have HB1 := hid (HT.out.trans (hb.mono HT.out.size))
  have HR1 := hid hr
  have HI1 := hid hi
  have HL1 := hid hb
  clear hb hr hi
  obtain ⟨bb1, oo1, dd1, rfl⟩ := HR1.out.form
  go_wp2_with fail
  refine Calls.mono (HC.out _ B1 _ HB1.out HR1.out) ?_
  rintro e w2 ⟨u2, B2, rfl, hb, hr, hi⟩
  have HB2 := hid (HB1.out.trans (hb.mono HB1.out.size))
  have HR2 := hid hr
  have HI2 := hid hi
  have HL2 := hid hb
  clear hb hr hi
  obtain ⟨bb2, oo2, dd2, rfl⟩ := HR2.out.form
  go_wp2_with fail
  go_ret
  exact ⟨_, _, rfl, HB2.out, HR2.out, img_plus _ n a HOP.out HI1.out HI2.out⟩
end Go.Proofs.YtejbififfceamaaGreatDoor
