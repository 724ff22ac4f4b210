/- Sets of places in memory: rows of bools. A text's bytes. make of a row of bools. What the document's own functions answer: joined. What the document's own functions (package winnowfanref1) answer: In, With, OfText, Others, Count. What the document's own functions answer: Reach at a node without parts. What the document's own functions answer: closed. -/
import Derived.Test.YtphcncgdodhlbaaDoorY02
import Derived.Test.YtphcncgdodhlbaaDoorY01
import Derived.OwnWalk
import Derived.KernelRfl
import Derived.Test.YtphcncgdodhlbaaDoorY04
import Derived.Laws.CopyRow
import Derived.Deep.RegionHeld3
import Derived.BigRegion
namespace Go.Proofs.YtphcncgdodhlbaaDoor
set_option linter.unusedSimpArgs false
set_option linter.unusedVariables false
set_option maxRecDepth 100000
open Go.RowKit
/-- The places 0 to N of A lie in block b from off on. -/
def BsAt (w : World) (b off N : Nat) (A : Nat → Bool) : Prop := ∀ i, i ≤ N → w.cell? ⟨b, off + i, none⟩ = some (.bool (A i))
/-- A slice that reads as the places of A. -/
def BsIn (w : World) (v : Value) (N : Nat) (A : Nat → Bool) : Prop := ∃ b off cap, v = .slice (some ⟨b, off, none⟩) (N + 1) cap ∧ b < w.heap.size ∧ BsAt w b off N A
theorem BsAt.below {w w' : World} {B b off N : Nat} {A : Nat → Bool} (h : BsAt w b off N A) (hb : Below B w w') (hlt : b < B) : BsAt w' b off N A :=
  fun i hi => (hb.cell (p := ⟨b, _, none⟩) hlt).trans (h i hi)
theorem BsIn.below {w w' : World} {v : Value} {N : Nat} {A : Nat → Bool} (h : BsIn w v N A) (hb : Below w.heap.size w w') : BsIn w' v N A := by
  obtain ⟨b, off, cap, rfl, hlt, h⟩ := h
  exact ⟨b, off, cap, rfl, Nat.lt_of_lt_of_le hlt hb.size, h.below hb hlt⟩
def rowB (N : Nat) (A : Nat → Bool) : Array Value := ((List.range (N + 1)).map fun i => Value.bool (A i)).toArray
def upd (A : Nat → Bool) (i : Nat) (x : Bool) : Nat → Bool := fun j => if j = i then x else A j
/-- Block b is a row of the places of A. -/
def BsRow (w : World) (b N : Nat) (A : Nat → Bool) : Prop := w.heap[b]? = some (.cells (rowB N A) 4 (0, 0))
theorem BsRow.lt {w : World} {b N : Nat} {A : Nat → Bool} (h : BsRow w b N A) : b < w.heap.size := by
  rcases Nat.lt_or_ge b w.heap.size with h' | h'
  · exact h'
  · simp [BsRow, Array.getElem?_eq_none h'] at h
theorem rowB_at (N : Nat) (A : Nat → Bool) (i : Nat) (h : i ≤ N) : (rowB N A)[i]? = some (.bool (A i)) := by
  simp [rowB, List.getElem?_range (show i < N + 1 by omega)]
theorem BsRow.at {w : World} {b N : Nat} {A : Nat → Bool} (h : BsRow w b N A) : BsAt w b 0 N A := by
  intro i hi
  rw [Lib.cell_of_heap h, Nat.zero_add, rowB_at N A i hi]
theorem BsRow.isIn {w : World} {b N : Nat} {A : Nat → Bool} (h : BsRow w b N A) (cap : Nat) : BsIn w (.slice (some ⟨b, 0, none⟩) (N + 1) cap) N A := ⟨b, 0, cap, rfl, h.lt, h.at⟩
theorem BsRow.free {w : World} {b N : Nat} {A : Nat → Bool} (h : BsRow w b N A) (i : Nat) : w.frozen? ⟨b, i, none⟩ = false := Lib.frozen_of_heap h i
theorem rowB_set (N : Nat) (A : Nat → Bool) (i : Nat) (x : Bool) : (rowB N A).setIfInBounds i (.bool x) = rowB N (upd A i x) := by
  apply Array.ext_getElem?
  intro j
  rw [Array.getElem?_setIfInBounds]
  by_cases hj : j ≤ N
  · rw [rowB_at N _ j hj, rowB_at N _ j hj]
    by_cases e : i = j
    · subst e
      simp [rowB, upd, hj]
      omega
    · rw [if_neg e]
      simp [upd, Ne.symm e]
  · have h1 : (rowB N A)[j]? = none := Array.getElem?_eq_none (by simp [rowB]; omega)
    have h2 : (rowB N (upd A i x))[j]? = none := Array.getElem?_eq_none (by simp [rowB]; omega)
    rw [h1, h2]
    split
    · rename_i e
      subst e
      rw [if_neg (by simp [rowB]; omega)]
    · rfl
theorem BsRow.set {w : World} {b N : Nat} {A : Nat → Bool} (h : BsRow w b N A) (i : Nat) (x : Bool) : BsRow (w.setCell ⟨b, i, none⟩ (.bool x)) b N (upd A i x) := by
  simp only [BsRow] at h ⊢
  simp [World.setCell, Array.getElem?_modify, h, rowB_set]
theorem BsRow.below {w w' : World} {b N : Nat} {A : Nat → Bool} (h : BsRow w b N A) (hb : Below w.heap.size w w') : BsRow w' b N A := (hb.block b h.lt).trans h
theorem rowB_new (N : Nat) : Array.replicate (N + 1) (Value.bool false) = rowB N fun _ => false := by
  apply Array.ext_getElem?
  intro j
  by_cases hj : j ≤ N
  · rw [rowB_at N _ j hj]
    simp [show j < N + 1 by omega]
  · rw [Array.getElem?_eq_none (by simp; omega), Array.getElem?_eq_none (by simp [rowB]; omega)]
theorem BsRow.new (w : World) (N : Nat) (o : Obj) (ho : o = .cells (Array.replicate (N + 1) (Value.bool false)) 4 (0, 0)) : BsRow (w.alloc o) w.heap.size N fun _ => false := by
  rw [ho, rowB_new]
  show (w.heap.push _)[w.heap.size]? = _
  simp
theorem BsRow.congr {w : World} {b N : Nat} {A B : Nat → Bool} (h : BsRow w b N A) (he : ∀ i, i ≤ N → A i = B i) : BsRow w b N B := by
  have : rowB N A = rowB N B := by
    unfold rowB
    congr 1
    apply List.map_congr_left
    intro i hi
    rw [he i (by have := List.mem_range.1 hi; omega)]
  simp only [BsRow] at h ⊢
  rw [h, this]
theorem BsIn.form {w : World} {v : Value} {N : Nat} {A : Nat → Bool} (h : BsIn w v N A) : ∃ b off cap, v = .slice (some ⟨b, off, none⟩) (N + 1) cap := by
  obtain ⟨b, off, cap, h, _⟩ := h
  exact ⟨b, off, cap, h⟩
end Go.Proofs.YtphcncgdodhlbaaDoor
namespace Go.Proofs.YtphcncgdodhlbaaDoor
set_option linter.unusedSimpArgs false
set_option linter.unusedVariables false
set_option maxRecDepth 100000
open Go.RowKit
set_option maxHeartbeats 4000000 in
theorem sl (s : ByteArray) : s.data.toList.length = s.size := Array.length_toList
theorem str_idx' (s : ByteArray) (a : Nat) (c : UInt8) (h : s.data.toList[a]? = some c) (w : World) : (Instr.index 9 (.string s) (.int .i64 (a : Int))).run Tryd.prog w = .ok (.int .u8 (c.toNat : Int)) w := by
  have hl : a < s.data.toList.length := by
    rcases Nat.lt_or_ge a s.data.toList.length with h' | h'
    · exact h'
    · rw [List.getElem?_eq_none h'] at h; cases h
  have hs : a < s.size := by rw [← sl]; exact hl
  rw [run_index_string w 9 s .i64 (a : Int) Tryd.underlying9, dif_pos ⟨by omega, by omega⟩]
  rw [List.getElem?_eq_getElem hl] at h
  have e : s[(a : Int).toNat]'(by simpa using hs) = c := by
    exact Option.some.inj h
  rw [e]
end Go.Proofs.YtphcncgdodhlbaaDoor
namespace Go.Proofs.YtphcncgdodhlbaaDoor
set_option linter.unusedSimpArgs false
set_option linter.unusedVariables false
set_option maxRecDepth 100000
open Go.RowKit
set_option maxHeartbeats 4000000 in
theorem made_bools (n : Nat) : madeCells #[Value.bool false] (n * 1) = Array.replicate n (Value.bool false) := by
  apply Array.ext
  · simp [madeCells]
  · intro i h1 h2
    simp [madeCells, Nat.mod_one]
theorem mkB (N : Nat) (hN : N ≤ 1000000) (u : World) : (Instr.makeSlice 74 (.int .i64 ((N : Int) + 1)) (.int .i64 ((N : Int) + 1))).run Tryd.prog u = .ok (.slice (some ⟨u.heap.size, 0, none⟩) (N + 1) (N + 1)) (u.alloc (.cells (rowB N fun _ => false) 4)) := by
  have hinfo : (Tryd.prog.info? 4).map (fun i => (i.zero, i.size, i.bytes)) = some (some (.bool false), 1, 1) := by kernel_rfl
  obtain ⟨i0, hi, hz0, hz1, hz2⟩ := info_parts hinfo
  have h := run_make (P := Tryd.prog) u 74 4 i0 (.bool false) Tryd.underlying74 hi hz0 .i64 .i64 ((N : Int) + 1) ((N : Int) + 1) (by omega) (Int.le_refl _) (by rw [hz2]; omega) (by omega)
  have e : ((N : Int) + 1).toNat = N + 1 := by omega
  rw [e, hz1, show (Value.bool false).cells = #[Value.bool false] from rfl, made_bools, rowB_new] at h
  exact h
theorem BsRow.new' (w : World) (N : Nat) (A : Nat → Bool) : BsRow (w.alloc (.cells (rowB N A) 4)) w.heap.size N A := by
  show (w.heap.push _)[w.heap.size]? = _
  simp
end Go.Proofs.YtphcncgdodhlbaaDoor
namespace Go.Proofs.YtphcncgdodhlbaaDoor
set_option linter.unusedSimpArgs false
set_option linter.unusedVariables false
set_option maxRecDepth 100000
open Go.RowKit
set_option maxHeartbeats 4000000 in
theorem joined_any (N : Nat) (hN : N ≤ 1000000) (A B : Nat → Bool) (v u : Value) (w : World) (hA : BsIn w v N A) (hB : BsIn w u N B) :
    Calls Tryd.prog 42 #[v, u] w fun e w' => ∃ x, e = .returned x ∧ Below w.heap.size w w' ∧ BsIn w' x N fun i => A i || B i := by
  obtain ⟨b1, o1, c1, rfl, l1, hA⟩ := hA
  obtain ⟨b2, o2, c2, rfl, l2, hB⟩ := hB
  have hmk := mkB N hN
  obtain ⟨g, hg⟩ : ∃ g, g = w.heap.size := ⟨_, rfl⟩
  have HNew : Hid (BsRow (w.alloc (.cells (rowB N fun _ => false) 4)) g N fun _ => false) := hg ▸ BsRow.new' w N _
  go_enter Tryd.func42, Tryd.ntmps42
  go_wp2
  rw [← hg]
  have HG := hid hg
  clear hg
  go_loopw [6] (fun v wr => ∃ (i : Nat) (C : Nat → Bool), i ≤ N + 1 ∧ v = .int .i64 i ∧ BsRow wr g N C ∧ Hid (∀ j, C j = (decide (j < i) && (A j || B j))) ∧ Below w.heap.size w wr) (fun v _ => N + 1 - (intOf v).toNat)
  case atStart => exact ⟨0, fun _ => false, by omega, rfl, HNew.out, fun j => by simp, (Below.refl _ _).alloc (Nat.le_refl _) _⟩
  case round =>
    obtain ⟨i, C, hi, rfl, hR, HC, hb⟩ := hrel
    by_cases hil : i < N + 1
    · have a0 := (hA.below hb l1) i (by omega)
      have d0 := (hB.below hb l2) i (by omega)
      have f0 := hR.free i
      have g0 := hR.at i (by omega)
      rw [Nat.zero_add] at g0
      have i0 : (0 : Int) ≤ (i : Int) := by omega
      have i1 : (i : Int) < (N : Int) + 1 := by omega
      cases hx : A i <;> cases hy : B i
      all_goals
        rw [hx] at a0
        rw [hy] at d0
        have HR := hid (hR.set i (A i || B i))
        rw [hx, hy] at HR
        have HC2 : Hid (∀ j, upd C i (A i || B i) j = (decide (j < i + 1) && (A j || B j))) := by
          intro j
          unfold upd
          split
          · rename_i e; subst e; simp
          · rename_i e; rw [HC.out j]; congr 1; exact decide_eq_decide.2 (by omega)
        rw [hx, hy] at HC2
        have HB := hid (hb.setCell (p := ⟨g, i, none⟩) (by simp [HG.out]) (.bool (A i || B i)))
        rw [hx, hy] at HB
        clear hx hy hb hR
        go_wp2
        exact ⟨⟨i + 1, _, by omega, by go_num, HR.out, HC2, HB.out⟩, by simp [intOf]; omega⟩
    · go_wp2
      go_ret
      refine ⟨_, rfl, hb, (hR.congr fun j hj => ?_).isIn _⟩
      rw [HC.out j, decide_eq_true (by omega), Bool.true_and]
end Go.Proofs.YtphcncgdodhlbaaDoor
namespace Go.Proofs.YtphcncgdodhlbaaDoor
set_option linter.unusedSimpArgs false
set_option linter.unusedVariables false
open Go.RowKit

theorem half_step (m i : Nat) : ((m / 2 ^ i : Nat) : Int) / 2 = ((m / 2 ^ (i + 1) : Nat) : Int) := by
  rw [Nat.pow_succ, ← Nat.div_div_eq_div_mul]
  omega
theorem tb_mod (m j : Nat) : (((m / 2 ^ j : Nat) : Int) % 2 == 1) = m.testBit j := by
  rw [tb_eq]
  generalize m / 2 ^ j = z
  by_cases h : z % 2 = 1
  · rw [h]
    have : (z : Int) % 2 = 1 := by omega
    rw [this]; rfl
  · have : ¬ (z : Int) % 2 = 1 := by omega
    simp only [h, decide_false]
    rw [beq_eq_false_iff_ne]
    exact this

theorem wrap_half (z : Nat) (h : z < 18446744073709551616) : Value.int IntKind.u64 (IntKind.u64.wrap ((z : Int) / 2)) = Value.int IntKind.u64 ((z / 2 : Nat) : Int) := by
  have e : (z : Int) / 2 = ((z / 2 : Nat) : Int) := by omega
  rw [e, u64_small _ (by omega)]
theorem wrap_twice (z : Nat) (h : z * 2 < 18446744073709551616) : Value.int IntKind.u64 (IntKind.u64.wrap ((z : Int) * 2)) = Value.int IntKind.u64 ((z * 2 : Nat) : Int) := by
  have e : (z : Int) * 2 = ((z * 2 : Nat) : Int) := by omega
  rw [e, u64_small _ h]
set_option maxHeartbeats 400000 in
theorem in_walk (k : C4) (x : Int) (h0 : 0 ≤ x) (hb : x < 256) (m : Nat) (hm : k.w (x / 64).toNat = (m : Int)) (hml : m < 18446744073709551616) (w : World) :
    Calls Tryd.prog 29 #[k.v, .int .i64 x] w fun e w' => e = .returned (.bool (m.testBit (x % 64).toNat)) ∧ Below w.heap.size w w' := by
  have hw := k.get (x / 64).toNat (by omega)
  rw [hm] at hw
  have HL := (show Hid _ from hml)
  clear hm hml
  go_enter Tryd.func29, Tryd.ntmps29
  go_wp2
  go_loop [5, 6] (fun n i => ∃ j z : Nat, (j : Int) ≤ x % 64 ∧ Hid (z = m / 2 ^ j) ∧ i = .int .i64 j ∧ n = .int .u64 (z : Int)) (fun _ i => (x % 64).toNat - (intOf i).toNat)
  case atStart => exact ⟨0, m, by omega, by show m = m / 2 ^ 0; simp, rfl, rfl⟩
  case round =>
    obtain ⟨j, z, hj, HZ, rfl, rfl⟩ := hrel
    by_cases hlt : (j : Int) < x % 64
    · go_wp2
      go_round
      case rel =>
        have hz : z < 18446744073709551616 := by rw [HZ.out]; exact Nat.lt_of_le_of_lt (Nat.div_le_self _ _) HL.out
        exact ⟨j + 1, z / 2, by omega, by show _ = _; rw [HZ.out, Nat.pow_succ, ← Nat.div_div_eq_div_mul], by go_num, wrap_half z hz⟩
      case measure => simp [intOf]; omega
    · have hj2 : (x % 64).toNat = j := by omega
      have HJ := (show Hid _ from hj2)
      clear hj2
      go_wp2
      go_ret
      refine ⟨?_, (Below.refl _ _).alloc (Nat.le_refl _) _⟩
      show Ending.returned (.bool ((z : Int) % 2 == 1)) = _
      rw [HJ.out, ← tb_mod, ← HZ.out]
theorem in_any (k : C4) (hk : k.ok) (b : Nat) (hb : b < 256) (w : World) :
    Calls Tryd.prog 29 #[k.v, .int .i64 b] w fun e w' => e = .returned (.bool (k.has b)) ∧ Below w.heap.size w w' := by
  obtain ⟨m, hm, hl⟩ := okW_nat (C4.ok_w hk (b / 64))
  have e1 : ((b : Int) / 64).toNat = b / 64 := by omega
  have e2 : ((b : Int) % 64).toNat = b % 64 := by omega
  have h := in_walk k b (by omega) (by omega) m (by rw [e1]; exact hm) hl w
  rw [e2] at h
  have e3 : k.has b = m.testBit (b % 64) := by unfold C4.has; rw [hm, Int.toNat_natCast]
  rw [e3]
  exact h

/-! With: a byte more -/
theorem add_is_or (x j : Nat) (h : x.testBit j = false) : x + 2 ^ j = x ||| 2 ^ j := by
  have hb : x / 2 ^ j % 2 = 0 := by
    rw [tb_eq] at h
    have := of_decide_eq_false h
    omega
  have hp : 0 < 2 ^ j := Nat.two_pow_pos j
  have e1 : x = 2 ^ (j + 1) * (x / 2 ^ j / 2) + x % 2 ^ j := by
    have a1 := Nat.div_add_mod x (2 ^ j)
    have a2 : x / 2 ^ j = 2 * (x / 2 ^ j / 2) := by omega
    rw [Nat.pow_succ, Nat.mul_assoc]
    rw [a2] at a1
    omega
  have hlo : x % 2 ^ j < 2 ^ j := Nat.mod_lt _ hp
  generalize x % 2 ^ j = lo at *
  generalize x / 2 ^ j / 2 = A at *
  have j1 : 2 ^ (j + 1) * A ||| lo = 2 ^ (j + 1) * A + lo := nat_join j _ _ (by rw [Nat.pow_succ, Nat.mul_assoc, Nat.mul_mod_right]) hlo
  have j2 : 2 ^ (j + 1) * A ||| 2 ^ j = 2 ^ (j + 1) * A + 2 ^ j := nat_join (j + 1) _ _ (by rw [Nat.mul_mod_right]) (by rw [Nat.pow_succ]; omega)
  have j3 : (2 ^ (j + 1) * A + 2 ^ j) ||| lo = 2 ^ (j + 1) * A + 2 ^ j + lo := nat_join j _ _ (by rw [Nat.pow_succ, Nat.mul_assoc, ← Nat.mul_succ, Nat.mul_mod_right]) hlo
  rw [e1]
  rw [← j1, Nat.or_assoc, Nat.or_comm lo, ← Nat.or_assoc, j2, j3, j1]
  omega
theorem C4.put_add {k : C4} (hk : k.ok) (b : Nat) (hb : b < 256) (h : k.has b = false) : k.put ((b : Int) / 64).toNat (IntKind.u64.wrap (k.w ((b : Int) / 64).toNat + ((2 ^ ((b : Int) % 64).toNat : Nat) : Int))) = k.add (b : Int) := by
  have e1 : ((b : Int) / 64).toNat = b / 64 := by omega
  have e2 : ((b : Int) % 64).toNat = b % 64 := by omega
  unfold C4.add
  rw [e1, e2]
  obtain ⟨m, hm, hl⟩ := okW_nat (C4.ok_w hk (b / 64))
  have e3 : m.testBit (b % 64) = false := by
    unfold C4.has at h
    rwa [hm, Int.toNat_natCast] at h
  rw [hm]
  congr 1
  have h2 : 2 ^ (b % 64) < 2 ^ 64 := Nat.pow_lt_pow_right (by decide) (by omega)
  have ew : IntKind.u64.wrap (2 ^ (b % 64)) = ((2 ^ (b % 64) : Nat) : Int) := by
    have := u64_small (2 ^ (b % 64)) h2
    rw [Int.natCast_pow] at this
    rw [Int.natCast_pow]
    exact this
  have ho : m ||| 2 ^ (b % 64) < 2 ^ 64 := Nat.or_lt_two_pow hl h2
  rw [ew, u64_or_nat m _ hl h2, ← Int.natCast_add, add_is_or m _ e3]
  exact u64_small _ ho
theorem C4.add_same {k : C4} (hk : k.ok) (b : Nat) (hb : b < 256) (h : k.has b = true) : k.add (b : Int) = k := by
  apply C4.ext_has (C4.add_ok hk b) hk
  intro i hi
  rw [C4.has_add hk b i hb hi]
  by_cases e : b = i
  · subst e; rw [h]; rfl
  · simp [e]
end Go.Proofs.YtphcncgdodhlbaaDoor
namespace Go.Proofs.YtphcncgdodhlbaaDoor
set_option linter.unusedSimpArgs false
set_option linter.unusedVariables false
set_option maxRecDepth 100000
open Go.RowKit
/-- B is all that t fits from the places of A. -/
def Img (s : List UInt8) (t : Rx) (A B : Nat → Bool) : Prop := ∀ j, j ≤ s.length → (B j = true ↔ ∃ i, i ≤ s.length ∧ A i = true ∧ Fit s t i j)
/-- What comes out: all that t fits from the places of A. -/
def RchP (w : World) (s : ByteArray) (t : Rx) (A : Nat → Bool) (e : Ending) (w' : World) : Prop := ∃ u B, e = .returned u ∧ Below w.heap.size w w' ∧ BsIn w' u s.size B ∧ Img s.data.toList t A B
/-- Reach at node i answers what t fits. -/
def RchOk (ns : List Nd) (b off cap i : Nat) (s : ByteArray) (t : Rx) : Prop := ∀ (A : Nat → Bool) (v : Value) (w : World), b < w.heap.size → NsAt w b off ns → BsIn w v s.size A →
  Calls Tryd.prog 31 #[.slice (some ⟨b, off, none⟩) ns.length cap, .int .i64 i, .string s, v] w (RchP w s t A)
theorem at_lt {ns : List Nd} {i : Nat} {n : Nd} (hn : ns[i]? = some n) : i < ns.length := by
  rcases Nat.lt_or_ge i ns.length with h' | h'
  · exact h'
  · rw [List.getElem?_eq_none h'] at hn; cases hn
theorem img_empty (s : List UInt8) (n : Nd) (hop : n.op = 2) (A : Nat → Bool) : Img s (.leaf n) A A := by
  intro j hj
  have hF : ∀ i, Fit s (.leaf n) i j ↔ i = j ∧ i ≤ s.length := fun i => by unfold Fit; rw [hop]; simp
  constructor
  · intro h; exact ⟨j, hj, h, (hF j).2 ⟨rfl, hj⟩⟩
  · rintro ⟨i, _, h, hf⟩
    obtain ⟨rfl, _⟩ := (hF i).1 hf
    exact h
theorem img_begin (s : List UInt8) (n : Nd) (hop : n.op = 8) (A : Nat → Bool) : Img s (.leaf n) A (upd (fun _ => false) 0 (A 0)) := by
  intro j hj
  have hF : ∀ i, Fit s (.leaf n) i j ↔ i = 0 ∧ j = 0 := fun i => by unfold Fit; rw [hop]; simp
  unfold upd
  constructor
  · intro h
    split at h
    · rename_i e; exact ⟨0, by omega, h, (hF 0).2 ⟨rfl, e⟩⟩
    · cases h
  · rintro ⟨i, _, h, hf⟩
    obtain ⟨rfl, rfl⟩ := (hF i).1 hf
    rw [if_pos rfl]; exact h
theorem img_end (s : List UInt8) (n : Nd) (hop : n.op = 9) (A : Nat → Bool) : Img s (.leaf n) A (upd (fun _ => false) s.length (A s.length)) := by
  intro j hj
  have hF : ∀ i, Fit s (.leaf n) i j ↔ i = s.length ∧ j = s.length := fun i => by unfold Fit; rw [hop]; simp
  unfold upd
  constructor
  · intro h
    split at h
    · rename_i e; exact ⟨s.length, by omega, h, (hF _).2 ⟨rfl, e⟩⟩
    · cases h
  · rintro ⟨i, _, h, hf⟩
    obtain ⟨rfl, rfl⟩ := (hF i).1 hf
    rw [if_pos rfl]; exact h
/-- What a byte of a class leads to. -/
def byteB (s : List UInt8) (n : Nd) (A : Nat → Bool) (m : Nat) : Nat → Bool := fun j => match j with
  | 0 => false
  | j + 1 => decide (j < m) && (A j && (match s[j]? with | some c => n.c.has c.toNat | none => false))
theorem img_byte (s : List UInt8) (n : Nd) (hop : n.op = 1) (A : Nat → Bool) : Img s (.leaf n) A (byteB s n A s.length) := by
  intro j hj
  have hF : ∀ i, Fit s (.leaf n) i j ↔ ∃ c, s[i]? = some c ∧ n.c.has c.toNat = true ∧ j = i + 1 := fun i => by unfold Fit; rw [hop]; simp
  cases j with
  | zero =>
    constructor
    · intro h; cases h
    · rintro ⟨i, _, _, hf⟩
      obtain ⟨c, _, _, h⟩ := (hF i).1 hf
      omega
  | succ j =>
    have hjl : j < s.length := by omega
    constructor
    · intro h
      simp only [byteB, List.getElem?_eq_getElem hjl, Bool.and_eq_true] at h
      exact ⟨j, by omega, h.2.1, (hF j).2 ⟨s[j], List.getElem?_eq_getElem hjl, h.2.2, rfl⟩⟩
    · rintro ⟨i, _, h, hf⟩
      obtain ⟨c, h1, h2, h3⟩ := (hF i).1 hf
      obtain rfl : i = j := by omega
      simp only [byteB, h1, h, h2, hjl, decide_true, Bool.and_true, Bool.true_and]
theorem new_one (w : World) (o : Obj) : Below w.heap.size w (w.alloc o) := (Below.refl _ _).alloc (Nat.le_refl _) _
set_option maxHeartbeats 4000000 in
theorem reach_begin (ns : List Nd) (b off cap i : Nat) (hl : ns.length ≤ 60) (n : Nd) (hn : ns[i]? = some n) (hop : n.op = 8) (s : ByteArray) (hs : s.size ≤ 1000000) : RchOk ns b off cap i s (.leaf n) := by
  intro A v w hlt hN hA
  have hil := at_lt hn
  obtain ⟨c0, c1, c2, c3, c4⟩ := (hN.below (new_one w (.cells (rowB s.size fun _ => false) 4)) hlt) i n hn
  have HI := hid (img_begin s.data.toList n hop A)
  try rw [sl] at HI
  rw [hop] at c0
  obtain ⟨b1, o1, d1, rfl, l1, hA⟩ := hA
  have a0 : ∀ o, ((w.alloc (.cells (rowB s.size fun _ => false) 4)).alloc o).cell? ⟨b1, o1 + 0, none⟩ = some (.bool (A 0)) := fun o => (hA.below ((new_one w _).trans ((new_one _ o).mono (by simp))) l1) 0 (by omega)
  simp only [Nat.add_zero] at a0
  have HR := fun o => (BsRow.new' w s.size fun _ => false).below (new_one _ o)
  have f0 : ∀ o, ((w.alloc (.cells (rowB s.size fun _ => false) 4)).alloc o).frozen? ⟨w.heap.size, 0, none⟩ = false := fun o => (HR o).free 0
  have g0 : ∀ o, ((w.alloc (.cells (rowB s.size fun _ => false) 4)).alloc o).cell? ⟨w.heap.size, 0, none⟩ = some (.bool false) := fun o => by
    have := (HR o).at 0 (by omega)
    rw [Nat.zero_add] at this
    exact this
  have hmk := mkB s.size hs
  have i0 : (0 : Int) ≤ (i : Int) := by omega
  have i1 : (i : Int) < (ns.length : Int) := by omega
  clear hn hN hA hop HR
  go_enter Tryd.func31, Tryd.ntmps31
  go_wp2
  go_ret
  refine ⟨_, upd (fun _ => false) 0 (A 0), rfl, (new_one w _).trans ((new_one _ _).mono (by simp)), ?_, HI.out⟩
  rw [rowB_set]
  exact ((BsRow.new' w s.size _).below (new_one _ _)).isIn _
set_option maxHeartbeats 4000000 in
theorem reach_end (ns : List Nd) (b off cap i : Nat) (hl : ns.length ≤ 60) (n : Nd) (hn : ns[i]? = some n) (hop : n.op = 9) (s : ByteArray) (hs : s.size ≤ 1000000) : RchOk ns b off cap i s (.leaf n) := by
  intro A v w hlt hN hA
  have hil := at_lt hn
  obtain ⟨c0, c1, c2, c3, c4⟩ := (hN.below (new_one w (.cells (rowB s.size fun _ => false) 4)) hlt) i n hn
  have HI := hid (img_end s.data.toList n hop A)
  try rw [sl] at HI
  rw [hop] at c0
  obtain ⟨b1, o1, d1, rfl, l1, hA⟩ := hA
  have a0 : ∀ o, ((w.alloc (.cells (rowB s.size fun _ => false) 4)).alloc o).cell? ⟨b1, o1 + s.size, none⟩ = some (.bool (A s.size)) := fun o => (hA.below ((new_one w _).trans ((new_one _ o).mono (by simp))) l1) s.size (by omega)
  skip
  have HR := fun o => (BsRow.new' w s.size fun _ => false).below (new_one _ o)
  have f0 : ∀ o, ((w.alloc (.cells (rowB s.size fun _ => false) 4)).alloc o).frozen? ⟨w.heap.size, s.size, none⟩ = false := fun o => (HR o).free s.size
  have g0 : ∀ o, ((w.alloc (.cells (rowB s.size fun _ => false) 4)).alloc o).cell? ⟨w.heap.size, s.size, none⟩ = some (.bool false) := fun o => by
    have := (HR o).at s.size (by omega)
    rw [Nat.zero_add] at this
    exact this
  have hmk := mkB s.size hs
  have i0 : (0 : Int) ≤ (i : Int) := by omega
  have i1 : (i : Int) < (ns.length : Int) := by omega
  clear hn hN hA hop HR
  go_enter Tryd.func31, Tryd.ntmps31
  go_wp2
  go_ret
  refine ⟨_, upd (fun _ => false) s.size (A s.size), rfl, (new_one w _).trans ((new_one _ _).mono (by simp)), ?_, HI.out⟩
  rw [rowB_set]
  exact ((BsRow.new' w s.size _).below (new_one _ _)).isIn _
theorem below_setRow {B : Nat} {w w1 : World} (h : Below B w w1) {g : Nat} (hg : B ≤ g) (c : Array Value) : Below B w (w1.setRow g c) := by
  refine ⟨h.os, h.tape, h.output, by simpa [World.setRow] using h.size, fun k hk => ?_⟩
  rw [← h.block k hk]
  simp [World.setRow, Array.getElem?_modify, show ¬ g = k by omega]
theorem rowB_list (N : Nat) (A : Nat → Bool) (C : Array Value) (h : C.size = N + 1) : (C.toList.take 0 ++ ((List.range (N + 1)).map fun i => Value.bool (A i)) ++ C.toList.drop (0 + ((List.range (N + 1)).map fun i => Value.bool (A i)).length)).toArray = rowB N A := by
  rw [List.drop_eq_nil_of_le (by simp; omega)]
  simp [rowB]
set_option maxHeartbeats 4000000 in
theorem reach_empty (ns : List Nd) (b off cap i : Nat) (hl : ns.length ≤ 60) (n : Nd) (hn : ns[i]? = some n) (hop : n.op = 2) (s : ByteArray) (hs : s.size ≤ 1000000) : RchOk ns b off cap i s (.leaf n) := by
  intro A v w hlt hN hA
  have hil := at_lt hn
  obtain ⟨c0, c1, c2, c3, c4⟩ := (hN.below ((Below.refl w.heap.size w).alloc (Nat.le_refl _) (.cells (rowB s.size fun _ => false) 4)) hlt) i n hn
  have HI := hid (img_empty s.data.toList n hop A)
  rw [hop] at c0
  obtain ⟨b1, o1, d1, rfl, l1, hA⟩ := hA
  have HR := fun o => (BsRow.new' w s.size fun _ => false).below (new_one _ o)
  have hmk := mkB s.size hs
  have hcp : ∀ o, (Builtin.copy_ #[74, 74] 3 #[.slice (some ⟨w.heap.size, 0, none⟩) (s.size + 1) (s.size + 1), .slice (some ⟨b1, o1, none⟩) (s.size + 1) d1]).run Tryd.prog ((w.alloc (.cells (rowB s.size fun _ => false) 4)).alloc o) = .ok (goInt (s.size + 1)) (((w.alloc (.cells (rowB s.size fun _ => false) 4)).alloc o).setRow w.heap.size (rowB s.size A)) := by
    intro o
    have h := run_copy_row (P := Tryd.prog) ((w.alloc (.cells (rowB s.size fun _ => false) 4)).alloc o) 74 74 3 4 w.heap.size 0 (s.size + 1) (s.size + 1) ⟨b1, o1, none⟩ (s.size + 1) d1 (rowB s.size fun _ => false) 4 ((List.range (s.size + 1)).map fun i => Value.bool (A i)) Tryd.underlying74 (by kernel_rfl) (HR o) (by simp) (by
      intro j u hj
      have hjl : j < s.size + 1 := by
        rcases Nat.lt_or_ge j (s.size + 1) with h' | h'
        · exact h'
        · rw [List.getElem?_eq_none (by simpa using h')] at hj; cases hj
      simp [List.getElem?_range hjl] at hj
      subst hj
      rw [Addr.add_lit]
      exact (hA.below ((new_one w _).trans ((new_one _ o).mono (by simp))) l1) j (by omega)) (by simp [rowB]) (by simp [Value.oneCell'])
    rw [rowB_list s.size A _ (by simp [rowB])] at h
    simpa using h
  have i0 : (0 : Int) ≤ (i : Int) := by omega
  have i1 : (i : Int) < (ns.length : Int) := by omega
  have HR' := hid HR
  clear hn hN hA hop HR
  go_enter Tryd.func31, Tryd.ntmps31
  go_wp2
  go_ret
  exact ⟨_, A, rfl, below_setRow ((new_one w _).trans ((new_one _ _).mono (by simp))) (Nat.le_refl _) _, BsRow.isIn (setRow_heap _ _ _ _ _ _ (HR'.out _)) _, HI.out⟩
theorem heap_new (w : World) (o : Obj) : (w.alloc o).heap[w.heap.size]? = some o := by
  show (w.heap.push _)[w.heap.size]? = _
  simp
theorem BsRow.congr' {w : World} {b g N : Nat} {A B : Nat → Bool} (h : BsRow w b N A) (hg : g = b) (he : ∀ i, i ≤ N → A i = B i) : BsRow w g N B := hg ▸ h.congr he
/-- How it stands while the bytes are gone through. -/
structure ByR (w : World) (g b1 o1 : Nat) (s : ByteArray) (n : Nd) (A : Nat → Bool) (k : Nat) (wr : World) : Prop where
  row : BsRow wr g s.size (byteB s.data.toList n A k)
  nd : wr.heap[g + 1]? = some (.cells #[.int .i64 1, .int .u64 n.c.a, .int .u64 n.c.b, .int .u64 n.c.c, .int .u64 n.c.d] 44 (0, 0))
  frm : BsAt wr b1 o1 s.size A
  b : Below w.heap.size w wr
  lt : b1 < g
  gw : g = w.heap.size
theorem ByR.low {w : World} {g b1 o1 : Nat} {s : ByteArray} {n : Nd} {A : Nat → Bool} {k : Nat} {wr w3 : World} (h : ByR w g b1 o1 s n A k wr) (hb : Below wr.heap.size wr w3) : ByR w g b1 o1 s n A k w3 := by
  have h1 := h.row.lt
  have h2 := h.lt
  have h3 : g + 1 < wr.heap.size := by
    rcases Nat.lt_or_ge (g + 1) wr.heap.size with h' | h'
    · exact h'
    · have := h.nd; rw [Array.getElem?_eq_none h'] at this; cases this
  exact ⟨h.row.below hb, (hb.block _ h3).trans h.nd, h.frm.below hb (by omega), h.b.trans (hb.mono h.b.size), h.lt, h.gw⟩
theorem ByR.sup {w : World} {g b1 o1 : Nat} {s : ByteArray} {n : Nd} {A : Nat → Bool} {k : Nat} {wr : World} (h : ByR w g b1 o1 s n A k wr) (i : Nat) (v : Value) : (wr.setCell ⟨g, i, none⟩ v).heap[g + 1]? = some (.cells #[.int .i64 1, .int .u64 n.c.a, .int .u64 n.c.b, .int .u64 n.c.c, .int .u64 n.c.d] 44 (0, 0)) ∧ BsAt (wr.setCell ⟨g, i, none⟩ v) b1 o1 s.size A := by
  have hl := h.lt
  have hb : Below g wr (wr.setCell ⟨g, i, none⟩ v) := (Below.refl g wr).setCell (p := ⟨g, i, none⟩) (Nat.le_refl _) v
  refine ⟨?_, h.frm.below hb hl⟩
  rw [← h.nd]
  simp [World.setCell, Array.getElem?_modify]
theorem byteB_step (s : List UInt8) (n : Nd) (A : Nat → Bool) (k : Nat) (c : UInt8) (hc : s[k]? = some c) (j : Nat) : upd (byteB s n A k) (k + 1) (A k && n.c.has c.toNat) j = byteB s n A (k + 1) j := by
  unfold upd
  cases j with
  | zero => rw [if_neg (by omega)]; rfl
  | succ j =>
    by_cases e : j = k
    · subst e
      simp [byteB, hc]
    · rw [if_neg (by omega)]
      simp only [byteB]
      congr 1
      exact decide_eq_decide.2 (by omega)
theorem ByR.step {w : World} {g b1 o1 : Nat} {s : ByteArray} {n : Nd} {A : Nat → Bool} {k : Nat} {wr : World} (h : ByR w g b1 o1 s n A k wr) (c : UInt8) (hc : s.data.toList[k]? = some c) (x : Bool) (hx : x = (A k && n.c.has c.toNat)) : ByR w g b1 o1 s n A (k + 1) (wr.setCell ⟨g, k + 1, none⟩ (.bool x)) := by
  subst hx
  have hq := h.sup (k + 1) (.bool (A k && n.c.has c.toNat))
  exact ⟨(h.row.set (k + 1) _).congr fun i hi => byteB_step _ n A k c hc i, hq.1, hq.2, h.b.setCell (p := ⟨g, k + 1, none⟩) (by rw [h.gw]; exact Nat.le_refl _) _, h.lt, h.gw⟩
/-- The cells that one round reads. -/
def ByC (w : World) (g b1 o1 k : Nat) (x : Bool) (n : Nd) : Prop := w.cell? ⟨b1, o1 + k, none⟩ = some (.bool x) ∧ w.cell? ⟨g + 1, 1, none⟩ = some (.int .u64 n.c.a) ∧ w.cell? ⟨g + 1, 2, none⟩ = some (.int .u64 n.c.b) ∧ w.cell? ⟨g + 1, 3, none⟩ = some (.int .u64 n.c.c) ∧ w.cell? ⟨g + 1, 4, none⟩ = some (.int .u64 n.c.d)
theorem byC_of {w : World} {g b1 o1 N k : Nat} {n : Nd} {A : Nat → Bool} (h1 : w.heap[g + 1]? = some (.cells #[.int .i64 1, .int .u64 n.c.a, .int .u64 n.c.b, .int .u64 n.c.c, .int .u64 n.c.d] 44 (0, 0))) (h2 : BsAt w b1 o1 N A) (hk : k ≤ N) : ByC w g b1 o1 k (A k) n := by
  refine ⟨h2 k hk, ?_, ?_, ?_, ?_⟩ <;> (rw [Lib.cell_of_heap h1]; rfl)
theorem ByR.all {w : World} {g b1 o1 : Nat} {s : ByteArray} {n : Nd} {A : Nat → Bool} {k : Nat} {wr : World} (h : ByR w g b1 o1 s n A k wr) (hk : k < s.size) : ByC wr g b1 o1 k (A k) n ∧ (∀ v, ByC (wr.setCell ⟨g, k + 1, none⟩ v) g b1 o1 k (A k) n) ∧ wr.cell? ⟨g, k + 1, none⟩ = some (.bool (byteB s.data.toList n A k (k + 1))) ∧ wr.frozen? ⟨g, k + 1, none⟩ = false := by
  refine ⟨byC_of h.nd h.frm (by omega), fun v => byC_of (h.sup (k + 1) v).1 (h.sup (k + 1) v).2 (by omega), ?_, h.row.free _⟩
  have := h.row.at (k + 1) (by omega)
  rw [Nat.zero_add] at this
  exact this
set_option maxHeartbeats 8000000 in
theorem reach_byte (ns : List Nd) (b off cap i : Nat) (hl : ns.length ≤ 60) (n : Nd) (hn : ns[i]? = some n) (hop : n.op = 1) (hok : n.c.ok) (s : ByteArray) (hs : s.size ≤ 1000000) : RchOk ns b off cap i s (.leaf n) := by
  intro A v w hlt hN hA
  have hil := at_lt hn
  obtain ⟨c0, c1, c2, c3, c4⟩ := (hN.below (new_one w (.cells (rowB s.size fun _ => false) 4)) hlt) i n hn
  have HI := hid (img_byte s.data.toList n hop A)
  rw [sl] at HI
  rw [hop] at c0
  obtain ⟨b1, o1, d1, rfl, l1, hA⟩ := hA
  have hmk := mkB s.size hs
  have i0 : (0 : Int) ≤ (i : Int) := by omega
  have i1 : (i : Int) < (ns.length : Int) := by omega
  obtain ⟨g, hg⟩ : ∃ g, g = w.heap.size := ⟨_, rfl⟩
  clear hn hN hop
  go_enter Tryd.func31, Tryd.ntmps31
  go_wp2
  rw [← hg]
  have HG := hid hg
  have HNew : Hid (ByR w g b1 o1 s n A 0 ((w.alloc (.cells (rowB s.size fun _ => false) 4)).alloc (.cells #[.int .i64 1, .int .u64 n.c.a, .int .u64 n.c.b, .int .u64 n.c.c, .int .u64 n.c.d] 44))) := by
    have hB := (new_one w (.cells (rowB s.size fun _ => false) 4)).trans ((new_one (w.alloc (.cells (rowB s.size fun _ => false) 4)) (.cells #[.int .i64 1, .int .u64 n.c.a, .int .u64 n.c.b, .int .u64 n.c.c, .int .u64 n.c.d] 44)).mono (by simp))
    refine ⟨((BsRow.new' w s.size fun _ => false).below (new_one _ _)).congr' hg ?_, ?_, hA.below hB l1, hB, by omega, hg⟩
    · intro j hj; cases j <;> simp [byteB]
    · rw [hg]
      have e : (w.alloc (.cells (rowB s.size fun _ => false) 4)).heap.size = w.heap.size + 1 := by simp
      rw [← e]
      exact heap_new _ _
  clear hA hmk hg c0 c1 c2 c3 c4
  have HW := hid hok
  clear hok
  go_loopw [11] (fun v wr => ∃ k : Nat, k ≤ s.size ∧ v = .int .i64 k ∧ ByR w g b1 o1 s n A k wr) (fun v _ => s.size - (intOf v).toNat)
  case atStart => exact ⟨0, by omega, rfl, HNew.out⟩
  case round =>
    clear HNew
    obtain ⟨k, hk, rfl, hR⟩ := hrel
    by_cases hkl : k < s.size
    · obtain ⟨c, hc⟩ : ∃ c, s.data.toList[k]? = some c := ⟨s.data.toList[k]'(by rw [sl]; exact hkl), List.getElem?_eq_getElem _⟩
      have hsi := str_idx' s k c hc
      have HCc := hid hc
      have k0 : (0 : Int) ≤ (k : Int) := by omega
      have k1 : (k : Int) < (s.size : Int) := by omega
      have k2 : (k : Int) + 1 < (s.size : Int) + 1 := by omega
      have k3 : (0 : Int) ≤ (k : Int) + 1 := by omega
      have k4 : (k : Int) < (s.size : Int) + 1 := by omega
      have k5 : IntKind.i64.wrap ((k : Int) + 1) = (k : Int) + 1 := by rw [IntKind.wrap_i64]; omega
      have HR := hid (hR.low (Below.drew (Below.refl _ wr)))
      have HIn := hid (in_any n.c HW.out c.toNat c.toNat_lt)
      have hcc : IntKind.i64.wrap (c.toNat : Int) = (c.toNat : Int) := by have := c.toNat_lt; rw [IntKind.wrap_i64]; omega
      obtain ⟨⟨q1, q2, q3, q4, q5⟩, hset, q6, q7⟩ := hR.all hkl
      have hs1 := fun v => (hset v).1
      have hs2 := fun v => (hset v).2.1
      have hs3 := fun v => (hset v).2.2.1
      have hs4 := fun v => (hset v).2.2.2.1
      have hs5 := fun v => (hset v).2.2.2.2
      have HRb := hid hR
      clear hc hR hset
      cases hx : A k
      · rw [hx] at q1
        simp only [hx] at hs1
        have HX := hid hx
        clear hx
        go_wp2_with fail
        go_big_region
        all_goals go_wp2
        all_goals exact ⟨⟨k + 1, by omega, by go_num, (HRb.out.step c HCc.out false (by rw [HX.out]; rfl)).low (Below.drew (Below.refl _ _))⟩, by simp [intOf]; omega⟩
      · rw [hx] at q1
        simp only [hx] at hs1
        have HX := hid hx
        have HK := hid (fun w3 hb3 => (HR.out.low hb3).all hkl (wr := w3))
        clear hx
        go_wp2_with fail
        go_region_with (first | (go_at_call 29; refine Calls.mono (HIn.out _) ?_; rintro e w3 ⟨rfl, hb3⟩; obtain ⟨⟨r1, r2, r3, r4, r5⟩, _, r6, r7⟩ := HK.out _ hb3))
        all_goals go_wp2
        all_goals exact ⟨⟨k + 1, by omega, by go_num, (HR.out.low hb3).step c HCc.out _ (by rw [HX.out, Bool.true_and])⟩, by simp [intOf]; omega⟩
    · obtain rfl : k = s.size := by omega
      have HR := hid hR
      clear hR
      go_wp2
      go_ret
      exact ⟨_, _, rfl, HR.out.b, HR.out.row.isIn _, HI.out⟩
end Go.Proofs.YtphcncgdodhlbaaDoor
namespace Go.Proofs.YtphcncgdodhlbaaDoor
set_option linter.unusedSimpArgs false
set_option linter.unusedVariables false
set_option maxRecDepth 100000
open Go.RowKit
/-- How many of the first n places are not there. -/
def cntF (C : Nat → Bool) : Nat → Nat
  | 0 => 0
  | n + 1 => cntF C n + if C n then 0 else 1
theorem cntF_congr {C D : Nat → Bool} : ∀ (n : Nat), (∀ i, i < n → C i = D i) → cntF C n = cntF D n
  | 0, _ => rfl
  | n + 1, h => by rw [cntF, cntF, cntF_congr n (fun i hi => h i (by omega)), h n (by omega)]
theorem cntF_le {C D : Nat → Bool} : ∀ (n : Nat), (∀ i, i < n → C i = true → D i = true) → cntF D n ≤ cntF C n
  | 0, _ => Nat.le_refl _
  | n + 1, h => by
    have ih := cntF_le n (fun i hi => h i (by omega))
    have h1 := h n (by omega)
    rw [cntF, cntF]
    cases hc : C n <;> cases hd : D n <;> simp_all <;> omega
theorem cntF_lt {C D : Nat → Bool} : ∀ (n : Nat), (∀ i, i < n → C i = true → D i = true) → (∃ k, k < n ∧ C k = false ∧ D k = true) → cntF D n < cntF C n
  | 0, _, ⟨k, hk, _⟩ => by omega
  | n + 1, h, ⟨k, hk, h1, h2⟩ => by
    rw [cntF, cntF]
    by_cases e : k = n
    · subst e
      have ih := cntF_le k (fun i hi => h i (by omega))
      rw [h1, h2]
      simp
      omega
    · have ih := cntF_lt n (fun i hi => h i (by omega)) ⟨k, by omega, h1, h2⟩
      have h3 := h n (by omega)
      cases hc : C n <;> cases hd : D n <;> simp_all <;> omega
/-- Is place i of a slice there? -/
def cellT (w : World) (v : Value) (i : Nat) : Bool := match v with
  | .slice (some a) _ _ => (match w.cell? ⟨a.block, a.off + i, none⟩ with | some (.bool x) => x | _ => false)
  | _ => false
theorem BsIn.cellT {w : World} {v : Value} {N : Nat} {A : Nat → Bool} (h : BsIn w v N A) (i : Nat) (hi : i ≤ N) : Go.Proofs.YtphcncgdodhlbaaDoor.cellT w v i = A i := by
  obtain ⟨b, off, cap, rfl, _, h⟩ := h
  simp [Go.Proofs.YtphcncgdodhlbaaDoor.cellT, h i hi]
/-- B is all that t fits from the places of A, as often as one likes. -/
def ImgS (s : List UInt8) (t : Rx) (A B : Nat → Bool) : Prop := ∀ j, j ≤ s.length → (B j = true ↔ ∃ i, i ≤ s.length ∧ A i = true ∧ Str s.length (Fit s t) i j)
def ClsP (w : World) (s : ByteArray) (t : Rx) (A : Nat → Bool) (e : Ending) (w' : World) : Prop := ∃ u B, e = .returned u ∧ Below w.heap.size w w' ∧ BsIn w' u s.size B ∧ ImgS s.data.toList t A B
def ClsOk (ns : List Nd) (b off cap i : Nat) (s : ByteArray) (t : Rx) : Prop := ∀ (A : Nat → Bool) (v : Value) (w : World), b < w.heap.size → NsAt w b off ns → BsIn w v s.size A →
  Calls Tryd.prog 43 #[.slice (some ⟨b, off, none⟩) ns.length cap, .int .i64 i, .string s, v] w (ClsP w s t A)
/-- How it stands between two rounds. -/
structure ClR (w : World) (s : ByteArray) (t : Rx) (A : Nat → Bool) (C : Nat → Bool) (v : Value) (wr : World) : Prop where
  row : BsIn wr v s.size C
  sup : ∀ j, j ≤ s.size → A j = true → C j = true
  sub : ∀ j, j ≤ s.size → C j = true → ∃ i, i ≤ s.size ∧ A i = true ∧ Str s.size (Fit s.data.toList t) i j
  b : Below w.heap.size w wr
theorem ClR.more {w : World} {s : ByteArray} {t : Rx} {A C B : Nat → Bool} {v u : Value} {wr w' : World} (h : ClR w s t A C v wr) (hi : Img s.data.toList t C B) (hb : Below w.heap.size w w') (hu : BsIn w' u s.size fun i => C i || B i) : ClR w s t A (fun i => C i || B i) u w' := by
  refine ⟨hu, fun j hj ha => by simp [h.sup j hj ha], fun j hj hc => ?_, hb⟩
  rw [Bool.or_eq_true] at hc
  rcases hc with hc | hc
  · exact h.sub j hj hc
  · obtain ⟨i, h1, h2, h3⟩ := (hi j (by rw [sl]; exact hj)).1 hc
    rw [sl] at h1
    obtain ⟨k, k1, k2, k3⟩ := h.sub i h1 h2
    refine ⟨k, k1, k2, k3.trans ?_⟩
    have := Str.one (fit_le s.data.toList t) h3
    rw [sl] at this
    exact this
theorem ClR.done {w : World} {s : ByteArray} {t : Rx} {A C B : Nat → Bool} {v : Value} {wr : World} (h : ClR w s t A C v wr) (hi : Img s.data.toList t C B) (hs : ∀ j, j ≤ s.size → (C j || B j) = C j) : ImgS s.data.toList t A fun i => C i || B i := by
  intro j hj
  rw [sl] at hj ⊢
  have key : ∀ {x y : Nat}, Str s.size (Fit s.data.toList t) x y → x ≤ s.size → C x = true → C y = true := by
    intro x y hxy
    induction hxy with
    | nil => intro _ h; exact h
    | cons x m y hx _ ih =>
      intro hxl hc
      have hm := fit_le s.data.toList t x m hx
      rw [sl] at hm
      have hb : B m = true := (hi m (by rw [sl]; omega)).2 ⟨x, by rw [sl]; exact hxl, hc, hx⟩
      have := hs m (by omega)
      rw [hb, Bool.or_true] at this
      exact ih hm.2 this.symm
  simp only
  rw [hs j hj]
  constructor
  · exact h.sub j hj
  · rintro ⟨i, h1, h2, h3⟩
    exact key h3 h1 (h.sup i h1 h2)
theorem ClR.less {w w' : World} {s : ByteArray} {t : Rx} {A C B : Nat → Bool} {v u : Value} {wr : World} (h : ClR w s t A C v wr) (hu : BsIn w' u s.size fun i => C i || B i) (hn : ¬ ∀ j, j ≤ s.size → (C j || B j) = C j) : cntF (cellT w' u) (s.size + 1) < cntF (cellT wr v) (s.size + 1) := by
  rw [cntF_congr (s.size + 1) (fun i hi => hu.cellT i (by omega)), cntF_congr (s.size + 1) (fun i hi => h.row.cellT i (by omega))]
  apply cntF_lt
  · intro i _ hc; simp [hc]
  · refine Classical.byContradiction fun hne => hn fun j hj => ?_
    cases hc : C j
    · cases hb : B j
      · rfl
      · exact absurd ⟨j, by omega, hc, by simp [hb]⟩ hne
    · rfl
set_option maxHeartbeats 8000000 in
theorem closed_any (ns : List Nd) (b off cap i : Nat) (hl : ns.length ≤ 60) (s : ByteArray) (hs : s.size ≤ 1000000) (t : Rx) (hT : RchOk ns b off cap i s t) : ClsOk ns b off cap i s t := by
  intro A v w hlt hN hA
  have HT : Hid (∀ C u wr, Below w.heap.size w wr → BsIn wr u s.size C → _) := fun C u wr hb hu => hT C u wr (Nat.lt_of_lt_of_le hlt hb.size) (hN.below hb hlt) hu
  have HST : Hid (ClR w s t A A v w) := ⟨hA, fun _ _ h => h, fun j hj h => ⟨j, hj, h, .nil j hj⟩, Below.refl _ _⟩
  obtain ⟨b1, o1, d1, rfl, l1, hA⟩ := hA
  clear hA hT hN
  go_enter Tryd.func43, Tryd.ntmps43
  go_wp2
  have HJ := hid (joined_any s.size hs)
  go_loopw [3] (fun v wr => ∃ C, ClR w s t A C v wr) (fun v wr => cntF (cellT wr v) (s.size + 1))
  case atStart => exact ⟨A, HST.out⟩
  case round =>
    clear HST
    obtain ⟨C, hR⟩ := hrel
    obtain ⟨b2, o2, d2, rfl⟩ := hR.row.form
    have HR := hid hR
    clear hR
    go_wp2_with fail
    refine Calls.mono (HT.out C _ _ HR.out.b HR.out.row) ?_
    rintro e w1 ⟨u1, B, rfl, hb1, hr1, hi1⟩
    have HI := hid hi1
    have HB1 := hid hb1
    have HR1 := hid hr1
    clear hi1 hb1 hr1
    go_wp2_with fail
    refine Calls.mono (HJ.out C B _ _ _ (HR.out.row.below HB1.out) HR1.out) ?_
    rintro e w2 ⟨u2, rfl, hb2, hr2⟩
    have HB2 := hid (HB1.out.trans (hb2.mono HB1.out.size))
    have HR2 := hid hr2
    obtain ⟨b3, o3, d3, rfl, l3, hx⟩ := hr2
    have HX := hid hx
    have HL := hid l3
    clear hb2 hx l3
    go_wp2_with fail
    go_loopw [10, 11] (fun sm v w3 => ∃ (x : Bool) (k : Nat), sm = .bool x ∧ k ≤ s.size + 1 ∧ v = .int .i64 k ∧ Hid (x = true ↔ ∀ j, j < k → (C j || B j) = C j) ∧ Below w2.heap.size w2 w3) (fun _ v _ => s.size + 1 - (intOf v).toNat)
    case atStart => exact ⟨true, 0, rfl, by omega, rfl, ⟨fun _ j hj => by omega, fun _ => rfl⟩, Below.refl _ _⟩
    case round =>
      obtain ⟨x, k, rfl, hk, rfl, HX2, hb3⟩ := hrel
      have k0 : (0 : Int) ≤ (k : Int) := by omega
      have HB3 := hid hb3
      by_cases hkl : k < s.size + 1
      · have k1 : (k : Int) < (s.size : Int) + 1 := by omega
        have HKL := hid (show k < s.size + 1 from hkl)
        have HM : Hid (s.size + 1 - (k + 1) < s.size + 1 - k) := by show _ < _; omega
        have a0 := (HX.out.below hb3 HL.out) k (by omega)
        have d0 : wr.cell? ⟨b2, o2 + k, none⟩ = some (.bool (C k)) := by
          obtain ⟨b', o', c', e, l', h'⟩ := HR.out.row
          injection e with e1 e2 e3
          injection e1 with e1
          injection e1 with e4 e5
          subst e4 e5
          exact ((h'.below HB2.out l').below hb3 (Nat.lt_of_lt_of_le l' HB2.out.size)) k (by omega)
        clear hb3
        have step : ∀ y : Bool, y = (x && ((C k || B k) == C k)) → (y = true ↔ ∀ j, j < k + 1 → (C j || B j) = C j) := by
          intro y hy
          rw [hy, Bool.and_eq_true, HX2.out, beq_iff_eq]
          constructor
          · rintro ⟨h1, h2⟩ j hj
            by_cases e : j = k
            · subst e; exact h2
            · exact h1 j (by omega)
          · intro h; exact ⟨fun j hj => h j (by omega), h k (by omega)⟩
        have HSt := hid step
        clear step
        cases x
        · go_wp2_with fail
          try go_quiet (fail)
          go_wp2
          exact ⟨⟨false, k + 1, rfl, HKL.out, by go_num, HSt.out false rfl, by first | exact HB3.out | exact HB3.out.trans ((below_drewN' wr _).mono HB3.out.size)⟩, by simpa [intOf] using HM.out⟩
        · go_wp2_with fail
          try go_quiet (fail)
          go_wp2
          exact ⟨⟨(C k || B k) == C k, k + 1, rfl, HKL.out, by go_num, HSt.out _ (by rw [Bool.true_and]), by first | exact HB3.out | exact HB3.out.trans ((below_drewN' wr _).mono HB3.out.size)⟩, by simpa [intOf] using HM.out⟩
      · obtain rfl : k = s.size + 1 := by omega
        have HR3 := hid (HR2.out.below hb3)
        have HB4 := hid (HB2.out.trans (hb3.mono HB2.out.size))
        clear hb3
        cases x
        · go_wp2
          exact ⟨⟨_, HR.out.more HI.out (HR.out.b.trans (HB4.out.mono HR.out.b.size)) HR3.out⟩, HR.out.less HR3.out (fun h => absurd (HX2.out.2 fun j hj => h j (by omega)) (by simp))⟩
        · go_wp2
          go_ret
          refine ⟨_, _, rfl, HR.out.b.trans (HB4.out.mono HR.out.b.size), HR3.out, HR.out.done HI.out fun j hj => HX2.out.1 (by simp) j (by omega)⟩
end Go.Proofs.YtphcncgdodhlbaaDoor
