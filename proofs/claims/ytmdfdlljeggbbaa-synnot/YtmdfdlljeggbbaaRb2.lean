/- The landed reader: single, but for brackets. -/
import Derived.Test.YtmdfdlljeggbbaaRa9
import Derived.Test.YtmdfdlljeggbbaaRb1
set_option linter.unusedSimpArgs false
set_option linter.unusedVariables false
set_option maxRecDepth 100000
namespace Go.Proofs.Ytmdfdlljeggbbaa
open Go.RowKit
/-- The reader at g stands ahead of l, and has laid down ns. -/
def PAt (w : World) (g : Nat) (s : ByteArray) (l : List UInt8) (ns : List Nd) : Prop := ∃ a v, PA w g s a v l ∧ NsOwn w (g + 1) v ns
theorem PAt.lt {w : World} {g : Nat} {s : ByteArray} {l : List UInt8} {ns : List Nd} (h : PAt w g s l ns) : g < w.heap.size := by
  obtain ⟨a, v, h, _⟩ := h
  exact h.lt
theorem PAt.below {w w' : World} {g : Nat} {s : ByteArray} {l : List UInt8} {ns : List Nd} (h : PAt w g s l ns) (hb : Below w.heap.size w w') : PAt w' g s l ns := by
  obtain ⟨a, v, h, hO⟩ := h
  exact ⟨a, v, h.below hb, hO.below hb⟩
theorem conv_plain (c : UInt8) (w : World) : (convert 54 9 (.slice (some ⟨w.heap.size, 0, none⟩) 1 1)).run Try.prog (w.alloc (.cells #[.int .u8 (c.toNat : Int)] 5)) = .ok (.string ⟨#[c]⟩) (w.alloc (.cells #[.int .u8 (c.toNat : Int)] 5)) := by
  have h := run_convert_bytes_arg (P := Try.prog) (w.alloc (.cells #[.int .u8 (c.toNat : Int)] 5)) 54 5 Try.underlying54 Try.underlying5 w.heap.size 0 1 1 [(c.toNat : Int)] rfl (by
    intro i hi
    have : i = 0 := by omega
    subst this
    simp) 9 Try.underlying9
  rw [h]
  congr 2
  simp [strOfNums]
def SgP (w : World) (g : Nat) (s : ByteArray) (ns : List Nd) (R : Except Nat (Nd × List UInt8)) (e : Ending) (w' : World) : Prop :=
  match R with
  | .ok (n, r) => e = .returned (.tuple #[]) ∧ PAt w' g s r (ns ++ [n]) ∧ Below g w w'
  | .error k => e = .panicked (mis ((s.size : Int) - (k : Int))) ∧ Stk w' g ∧ Below g w w'
theorem skipN (g : Nat) (s : ByteArray) (l : List UInt8) (ns : List Nd) (b : UInt8) (z : Int) (hz : z = (b.toNat : Int)) (w : World) (h : PAt w g s l ns) (hl : l.head? ≠ some b) :
    Calls Try.prog 43 #[.pointer (some ⟨g, 0, none⟩), .int .u8 z] w fun e w' => e = .returned (.bool false) ∧ PAt w' g s l ns ∧ Below w.heap.size w w' := by
  obtain ⟨a, v, h1, hO⟩ := h
  exact (skip_no g s a v l b z hz w h1 hl).mono fun _ _ x => ⟨x.1, ⟨a, v, h1.below x.2, hO.below x.2⟩, x.2⟩
theorem skipY (g : Nat) (s : ByteArray) (r : List UInt8) (ns : List Nd) (b : UInt8) (z : Int) (hz : z = (b.toNat : Int)) (w : World) (h : PAt w g s (b :: r) ns) :
    Calls Try.prog 43 #[.pointer (some ⟨g, 0, none⟩), .int .u8 z] w fun e w' => e = .returned (.bool true) ∧ PAt w' g s r ns ∧ Below g w w' := by
  obtain ⟨a, v, h1, hO⟩ := h
  exact (skip_yes g s a v r b z hz w h1).mono fun _ _ x => ⟨x.1, ⟨_, v, x.2.1, hO.keptG x.2.2 (Nat.lt_succ_self g)⟩, below_of_grown x.2.2 (Nat.le_refl _) (Nat.le_of_lt h1.lt)⟩
theorem putA (g : Nat) (s : ByteArray) (l : List UInt8) (ns : List Nd) (n : Nd) (w : World) (h : PAt w g s l ns) (hm : ns.length ≤ 1000) :
    Calls Try.prog 48 #[.pointer (some ⟨g, 0, none⟩), .int .i64 n.op, n.c.v] w fun e w' => e = .returned (.tuple #[]) ∧ PAt w' g s l (ns ++ [n]) ∧ Below g w w' := by
  obtain ⟨a, v, h1, hO⟩ := h
  exact (put_any g s a v l ns n w h1 hO hm).mono fun _ _ x => ⟨x.1, by obtain ⟨u, hu, ho⟩ := x.2.1; exact ⟨a, u, hu, ho⟩, x.2.2⟩
theorem wrapA (g : Nat) (s : ByteArray) (l : List UInt8) (p q : List Nd) (op : Int) (w : World) (h : PAt w g s l (p ++ q)) (hm : (p ++ q).length ≤ 1000) (hq : 0 < q.length) :
    Calls Try.prog 44 #[.pointer (some ⟨g, 0, none⟩), .int .i64 (p.length : Int), .int .i64 op] w fun e w' => e = .returned (.tuple #[]) ∧ PAt w' g s l (p ++ ⟨op, z4⟩ :: q) ∧ Below g w w' := by
  obtain ⟨a, v, h1, hO⟩ := h
  have e1 : (p ++ q).take p.length = p := by simp
  have e2 : (p ++ q).drop p.length = q := by simp
  have hc := wrap_any g s a v l (p ++ q) p.length op w h1 hO hm (by simp; omega)
  rw [e1, e2] at hc
  exact hc.mono fun _ _ x => ⟨x.1, by obtain ⟨u, hu, ho⟩ := x.2.1; exact ⟨a, u, hu, ho⟩, x.2.2⟩
theorem itemsA (g : Nat) (s : ByteArray) (l : List UInt8) (ns : List Nd) (w : World) (h : PAt w g s l ns) (c : C4) (r : List UInt8) (hr : bracket l = .ok (c, r)) :
    Calls Try.prog 58 #[.pointer (some ⟨g, 0, none⟩)] w fun e w' => e = .returned c.v ∧ PAt w' g s r ns ∧ Below g w w' := by
  obtain ⟨a, v, h1, hO⟩ := h
  have hc := items_any g s a v l w h1
  rw [hr] at hc
  exact hc.mono fun _ _ x => ⟨x.1, by obtain ⟨a', ha⟩ := x.2.1; exact ⟨a', v, ha, hO.keptG x.2.2 (Nat.lt_succ_self g)⟩, below_of_grown x.2.2 (Nat.le_refl _) (Nat.le_of_lt h1.lt)⟩
theorem itemsB (g : Nat) (s : ByteArray) (l : List UInt8) (ns : List Nd) (w : World) (h : PAt w g s l ns) (k : Nat) (hr : bracket l = .error k) :
    Calls Try.prog 58 #[.pointer (some ⟨g, 0, none⟩)] w fun e w' => e = .panicked (mis ((s.size : Int) - (k : Int))) ∧ Stk w' g ∧ Below g w w' := by
  obtain ⟨a, v, h1, hO⟩ := h
  have hc := items_any g s a v l w h1
  rw [hr] at hc
  exact hc.mono fun _ _ x => ⟨x.1, x.2.1, below_of_grown x.2.2 (Nat.le_refl _) (Nat.le_of_lt h1.lt)⟩
theorem symbolA (g : Nat) (s : ByteArray) (l : List UInt8) (ns : List Nd) (w : World) (h : PAt w g s l ns) (b : Nat) (r : List UInt8) (hr : rd1 l = .ok (b, r)) :
    Calls Try.prog 60 #[.pointer (some ⟨g, 0, none⟩)] w fun e w' => e = .returned (.int .u8 (b : Int)) ∧ PAt w' g s r ns ∧ Below g w w' := by
  obtain ⟨a, v, h1, hO⟩ := h
  exact (symbol_ok g s a v l b r hr w h1).mono fun _ _ x => ⟨x.1, by obtain ⟨a', ha⟩ := x.2.1; exact ⟨a', v, ha, hO.keptG x.2.2 (Nat.lt_succ_self g)⟩, below_of_grown x.2.2 (Nat.le_refl _) (Nat.le_of_lt h1.lt)⟩
theorem symbolB (g : Nat) (s : ByteArray) (l : List UInt8) (ns : List Nd) (w : World) (h : PAt w g s l ns) (k : Nat) (hr : rd1 l = .error k) :
    Calls Try.prog 60 #[.pointer (some ⟨g, 0, none⟩)] w fun e w' => e = .panicked (mis ((s.size : Int) - (k : Int))) ∧ Stk w' g ∧ Below g w w' := by
  obtain ⟨a, v, h1, hO⟩ := h
  exact (symbol_bad g s a v l k hr w h1).mono fun _ _ x => ⟨x.1, x.2.1, below_of_grown x.2.2 (Nat.le_refl _) (Nat.le_of_lt h1.lt)⟩
set_option maxHeartbeats 1000000 in
theorem single_begin (g : Nat) (s : ByteArray) (r : List UInt8) (ns : List Nd)  (hm : ns.length ≤ 1000) (w : World) (h : PAt w g s (94 :: r) ns) :
    Calls Try.prog 53 #[.pointer (some ⟨g, 0, none⟩)] w fun e w' => e = .returned (.tuple #[]) ∧ PAt w' g s r (ns ++ [⟨8, z4⟩]) ∧ Below g w w' := by
  have hlt := h.lt
  have HP := hid h
  have HB := hid (Below.refl g w)
  clear h
  go_enter Try.func53, Try.ntmps53
  go_wp2_with fail
  refine Calls.mono (skipY g s r ns 94 _ rfl _ HP.out) ?_
  rintro e w1 ⟨rfl, hp, hb⟩
  replace HP := hid hp
  replace HB := hid (HB.out.trans hb)
  clear hp hb
  go_wp2_with fail
  refine Calls.mono (putA g s _ ns ⟨8, z4⟩ _ HP.out hm) ?_
  rintro e w9 ⟨rfl, hp, hb⟩
  replace HP := hid hp
  replace HB := hid (HB.out.trans hb)
  clear hp hb
  go_wp2
  go_end0
  exact ⟨rfl, HP.out, HB.out⟩
set_option maxHeartbeats 1000000 in
theorem single_end (g : Nat) (s : ByteArray) (r : List UInt8) (ns : List Nd)  (hm : ns.length ≤ 1000) (w : World) (h : PAt w g s (36 :: r) ns) :
    Calls Try.prog 53 #[.pointer (some ⟨g, 0, none⟩)] w fun e w' => e = .returned (.tuple #[]) ∧ PAt w' g s r (ns ++ [⟨9, z4⟩]) ∧ Below g w w' := by
  have hlt := h.lt
  have HP := hid h
  have HB := hid (Below.refl g w)
  clear h
  go_enter Try.func53, Try.ntmps53
  go_wp2_with fail
  refine Calls.mono (skipN g s _ ns 94 _ rfl _ HP.out (by simp)) ?_
  rintro e w1 ⟨rfl, hp, hb⟩
  replace HP := hid hp
  replace HB := hid (HB.out.trans (hb.mono (Nat.le_trans (Nat.le_of_lt hlt) HB.out.size)))
  clear hp hb
  go_wp2_with fail
  refine Calls.mono (skipY g s r ns 36 _ rfl _ HP.out) ?_
  rintro e w2 ⟨rfl, hp, hb⟩
  replace HP := hid hp
  replace HB := hid (HB.out.trans hb)
  clear hp hb
  go_wp2_with fail
  refine Calls.mono (putA g s _ ns ⟨9, z4⟩ _ HP.out hm) ?_
  rintro e w9 ⟨rfl, hp, hb⟩
  replace HP := hid hp
  replace HB := hid (HB.out.trans hb)
  clear hp hb
  go_wp2
  go_end0
  exact ⟨rfl, HP.out, HB.out⟩
set_option maxHeartbeats 1000000 in
theorem single_dot (g : Nat) (s : ByteArray) (r : List UInt8) (ns : List Nd)  (hm : ns.length ≤ 1000) (w : World) (h : PAt w g s (46 :: r) ns) :
    Calls Try.prog 53 #[.pointer (some ⟨g, 0, none⟩)] w fun e w' => e = .returned (.tuple #[]) ∧ PAt w' g s r (ns ++ [⟨1, dotC⟩]) ∧ Below g w w' := by
  have hlt := h.lt
  have HP := hid h
  have HB := hid (Below.refl g w)
  clear h
  go_enter Try.func53, Try.ntmps53
  go_wp2_with fail
  refine Calls.mono (skipN g s _ ns 94 _ rfl _ HP.out (by simp)) ?_
  rintro e w1 ⟨rfl, hp, hb⟩
  replace HP := hid hp
  replace HB := hid (HB.out.trans (hb.mono (Nat.le_trans (Nat.le_of_lt hlt) HB.out.size)))
  clear hp hb
  go_wp2_with fail
  refine Calls.mono (skipN g s _ ns 36 _ rfl _ HP.out (by simp)) ?_
  rintro e w2 ⟨rfl, hp, hb⟩
  replace HP := hid hp
  replace HB := hid (HB.out.trans (hb.mono (Nat.le_trans (Nat.le_of_lt hlt) HB.out.size)))
  clear hp hb
  go_wp2_with fail
  refine Calls.mono (skipY g s r ns 46 _ rfl _ HP.out) ?_
  rintro e w3 ⟨rfl, hp, hb⟩
  replace HP := hid hp
  replace HB := hid (HB.out.trans hb)
  clear hp hb
  go_wp2_with fail
  refine Calls.mono (of_any ⟨#[10]⟩ _ (by show 1 ≤ _; decide)) ?_
  rintro e w4 ⟨rfl, hb⟩
  replace HP := hid (HP.out.below hb)
  replace HB := hid (HB.out.trans (hb.mono (Nat.le_trans (Nat.le_of_lt hlt) HB.out.size)))
  clear hb
  go_wp2_with fail
  refine Calls.mono (not_any (C4.ofL [10]) _) ?_
  rintro e w5 ⟨rfl, hb⟩
  replace HP := hid (HP.out.below hb)
  replace HB := hid (HB.out.trans (hb.mono (Nat.le_trans (Nat.le_of_lt hlt) HB.out.size)))
  clear hb
  go_wp2_with fail
  refine Calls.mono (putA g s _ ns ⟨1, dotC⟩ _ HP.out hm) ?_
  rintro e w9 ⟨rfl, hp, hb⟩
  replace HP := hid hp
  replace HB := hid (HB.out.trans hb)
  clear hp hb
  go_wp2
  go_end0
  exact ⟨rfl, HP.out, HB.out⟩
set_option maxHeartbeats 1000000 in
theorem single_list (g : Nat) (s : ByteArray) (r : List UInt8) (ns : List Nd) (c : C4) (r2 : List UInt8) (hr : bracket r = .ok (c, r2)) (hm : ns.length ≤ 1000) (w : World) (h : PAt w g s (91 :: r) ns) :
    Calls Try.prog 53 #[.pointer (some ⟨g, 0, none⟩)] w fun e w' => e = .returned (.tuple #[]) ∧ PAt w' g s r2 (ns ++ [⟨1, c⟩]) ∧ Below g w w' := by
  have hlt := h.lt
  have HP := hid h
  have HB := hid (Below.refl g w)
  clear h
  go_enter Try.func53, Try.ntmps53
  go_wp2_with fail
  refine Calls.mono (skipN g s _ ns 94 _ rfl _ HP.out (by simp)) ?_
  rintro e w1 ⟨rfl, hp, hb⟩
  replace HP := hid hp
  replace HB := hid (HB.out.trans (hb.mono (Nat.le_trans (Nat.le_of_lt hlt) HB.out.size)))
  clear hp hb
  go_wp2_with fail
  refine Calls.mono (skipN g s _ ns 36 _ rfl _ HP.out (by simp)) ?_
  rintro e w2 ⟨rfl, hp, hb⟩
  replace HP := hid hp
  replace HB := hid (HB.out.trans (hb.mono (Nat.le_trans (Nat.le_of_lt hlt) HB.out.size)))
  clear hp hb
  go_wp2_with fail
  refine Calls.mono (skipN g s _ ns 46 _ rfl _ HP.out (by simp)) ?_
  rintro e w3 ⟨rfl, hp, hb⟩
  replace HP := hid hp
  replace HB := hid (HB.out.trans (hb.mono (Nat.le_trans (Nat.le_of_lt hlt) HB.out.size)))
  clear hp hb
  go_wp2_with fail
  refine Calls.mono (skipY g s r ns 91 _ rfl _ HP.out) ?_
  rintro e w4 ⟨rfl, hp, hb⟩
  replace HP := hid hp
  replace HB := hid (HB.out.trans hb)
  clear hp hb
  go_wp2_with fail
  refine Calls.mono (itemsA g s r ns _ HP.out c r2 hr) ?_
  rintro e w5 ⟨rfl, hp, hb⟩
  replace HP := hid hp
  replace HB := hid (HB.out.trans hb)
  clear hp hb
  go_wp2_with fail
  refine Calls.mono (putA g s _ ns ⟨1, c⟩ _ HP.out hm) ?_
  rintro e w9 ⟨rfl, hp, hb⟩
  replace HP := hid hp
  replace HB := hid (HB.out.trans hb)
  clear hp hb
  go_wp2
  go_end0
  exact ⟨rfl, HP.out, HB.out⟩
set_option maxHeartbeats 1000000 in
theorem single_classBad (g : Nat) (s : ByteArray) (r : List UInt8) (ns : List Nd) (k : Nat) (hr : bracket r = .error k) (hm : ns.length ≤ 1000) (w : World) (h : PAt w g s (91 :: r) ns) :
    Calls Try.prog 53 #[.pointer (some ⟨g, 0, none⟩)] w fun e w' => e = .panicked (mis ((s.size : Int) - (k : Int))) ∧ Stk w' g ∧ Below g w w' := by
  have hlt := h.lt
  have HP := hid h
  have HB := hid (Below.refl g w)
  clear h
  go_enter Try.func53, Try.ntmps53
  go_wp2_with fail
  refine Calls.mono (skipN g s _ ns 94 _ rfl _ HP.out (by simp)) ?_
  rintro e w1 ⟨rfl, hp, hb⟩
  replace HP := hid hp
  replace HB := hid (HB.out.trans (hb.mono (Nat.le_trans (Nat.le_of_lt hlt) HB.out.size)))
  clear hp hb
  go_wp2_with fail
  refine Calls.mono (skipN g s _ ns 36 _ rfl _ HP.out (by simp)) ?_
  rintro e w2 ⟨rfl, hp, hb⟩
  replace HP := hid hp
  replace HB := hid (HB.out.trans (hb.mono (Nat.le_trans (Nat.le_of_lt hlt) HB.out.size)))
  clear hp hb
  go_wp2_with fail
  refine Calls.mono (skipN g s _ ns 46 _ rfl _ HP.out (by simp)) ?_
  rintro e w3 ⟨rfl, hp, hb⟩
  replace HP := hid hp
  replace HB := hid (HB.out.trans (hb.mono (Nat.le_trans (Nat.le_of_lt hlt) HB.out.size)))
  clear hp hb
  go_wp2_with fail
  refine Calls.mono (skipY g s r ns 91 _ rfl _ HP.out) ?_
  rintro e w4 ⟨rfl, hp, hb⟩
  replace HP := hid hp
  replace HB := hid (HB.out.trans hb)
  clear hp hb
  go_wp2_with fail
  refine Calls.mono (itemsB g s r ns _ HP.out k hr) ?_
  rintro e w5 ⟨rfl, hs, hb⟩
  exact ⟨rfl, rfl, hs, HB.out.trans hb⟩
set_option maxHeartbeats 1000000 in
theorem single_byteBad (g : Nat) (s : ByteArray) (l : List UInt8) (ns : List Nd) (hn94 : l.head? ≠ some 94) (hn36 : l.head? ≠ some 36) (hn46 : l.head? ≠ some 46) (hn91 : l.head? ≠ some 91) (hn40 : l.head? ≠ some 40) (k : Nat) (hr : rd1 l = .error k) (hm : ns.length ≤ 1000) (w : World) (h : PAt w g s l ns) :
    Calls Try.prog 53 #[.pointer (some ⟨g, 0, none⟩)] w fun e w' => e = .panicked (mis ((s.size : Int) - (k : Int))) ∧ Stk w' g ∧ Below g w w' := by
  have hlt := h.lt
  have HP := hid h
  have HB := hid (Below.refl g w)
  clear h
  go_enter Try.func53, Try.ntmps53
  go_wp2_with fail
  refine Calls.mono (skipN g s _ ns 94 _ rfl _ HP.out hn94) ?_
  rintro e w1 ⟨rfl, hp, hb⟩
  replace HP := hid hp
  replace HB := hid (HB.out.trans (hb.mono (Nat.le_trans (Nat.le_of_lt hlt) HB.out.size)))
  clear hp hb
  go_wp2_with fail
  refine Calls.mono (skipN g s _ ns 36 _ rfl _ HP.out hn36) ?_
  rintro e w2 ⟨rfl, hp, hb⟩
  replace HP := hid hp
  replace HB := hid (HB.out.trans (hb.mono (Nat.le_trans (Nat.le_of_lt hlt) HB.out.size)))
  clear hp hb
  go_wp2_with fail
  refine Calls.mono (skipN g s _ ns 46 _ rfl _ HP.out hn46) ?_
  rintro e w3 ⟨rfl, hp, hb⟩
  replace HP := hid hp
  replace HB := hid (HB.out.trans (hb.mono (Nat.le_trans (Nat.le_of_lt hlt) HB.out.size)))
  clear hp hb
  go_wp2_with fail
  refine Calls.mono (skipN g s _ ns 91 _ rfl _ HP.out hn91) ?_
  rintro e w4 ⟨rfl, hp, hb⟩
  replace HP := hid hp
  replace HB := hid (HB.out.trans (hb.mono (Nat.le_trans (Nat.le_of_lt hlt) HB.out.size)))
  clear hp hb
  go_wp2_with fail
  refine Calls.mono (skipN g s _ ns 40 _ rfl _ HP.out hn40) ?_
  rintro e w5 ⟨rfl, hp, hb⟩
  replace HP := hid hp
  replace HB := hid (HB.out.trans (hb.mono (Nat.le_trans (Nat.le_of_lt hlt) HB.out.size)))
  clear hp hb
  go_wp2_with fail
  refine Calls.mono (symbolB g s l ns _ HP.out k hr) ?_
  rintro e w6 ⟨rfl, hs, hb⟩
  exact ⟨rfl, rfl, hs, HB.out.trans hb⟩
set_option maxHeartbeats 1000000 in
theorem single_byte (g : Nat) (s : ByteArray) (l : List UInt8) (ns : List Nd) (hn94 : l.head? ≠ some 94) (hn36 : l.head? ≠ some 36) (hn46 : l.head? ≠ some 46) (hn91 : l.head? ≠ some 91) (hn40 : l.head? ≠ some 40) (b : Nat) (r : List UInt8) (hr : rd1 l = .ok (b, r)) (hm : ns.length ≤ 1000) (w : World) (h : PAt w g s l ns) :
    Calls Try.prog 53 #[.pointer (some ⟨g, 0, none⟩)] w fun e w' => e = .returned (.tuple #[]) ∧ PAt w' g s r (ns ++ [⟨1, z4.add ((b : Nat) : Int)⟩]) ∧ Below g w w' := by
  have hlt := h.lt
  have HP := hid h
  have HB := hid (Below.refl g w)
  clear h
  go_enter Try.func53, Try.ntmps53
  go_wp2_with fail
  refine Calls.mono (skipN g s _ ns 94 _ rfl _ HP.out hn94) ?_
  rintro e w1 ⟨rfl, hp, hb⟩
  replace HP := hid hp
  replace HB := hid (HB.out.trans (hb.mono (Nat.le_trans (Nat.le_of_lt hlt) HB.out.size)))
  clear hp hb
  go_wp2_with fail
  refine Calls.mono (skipN g s _ ns 36 _ rfl _ HP.out hn36) ?_
  rintro e w2 ⟨rfl, hp, hb⟩
  replace HP := hid hp
  replace HB := hid (HB.out.trans (hb.mono (Nat.le_trans (Nat.le_of_lt hlt) HB.out.size)))
  clear hp hb
  go_wp2_with fail
  refine Calls.mono (skipN g s _ ns 46 _ rfl _ HP.out hn46) ?_
  rintro e w3 ⟨rfl, hp, hb⟩
  replace HP := hid hp
  replace HB := hid (HB.out.trans (hb.mono (Nat.le_trans (Nat.le_of_lt hlt) HB.out.size)))
  clear hp hb
  go_wp2_with fail
  refine Calls.mono (skipN g s _ ns 91 _ rfl _ HP.out hn91) ?_
  rintro e w4 ⟨rfl, hp, hb⟩
  replace HP := hid hp
  replace HB := hid (HB.out.trans (hb.mono (Nat.le_trans (Nat.le_of_lt hlt) HB.out.size)))
  clear hp hb
  go_wp2_with fail
  refine Calls.mono (skipN g s _ ns 40 _ rfl _ HP.out hn40) ?_
  rintro e w5 ⟨rfl, hp, hb⟩
  replace HP := hid hp
  replace HB := hid (HB.out.trans (hb.mono (Nat.le_trans (Nat.le_of_lt hlt) HB.out.size)))
  clear hp hb
  go_wp2_with fail
  have HL : Hid (b < 256) := (rd1_len l b r hr).2
  refine Calls.mono (symbolA g s l ns _ HP.out b r hr) ?_
  rintro e w6 ⟨rfl, hp, hb⟩
  replace HP := hid hp
  replace HB := hid (HB.out.trans hb)
  clear hp hb
  obtain ⟨c, hc⟩ : ∃ c : UInt8, c.toNat = b := ⟨b.toUInt8, by have := HL.out; simp; omega⟩
  subst hc
  have hcv := conv_plain c w6
  go_wp2_with fail
  refine Calls.mono (of_any ⟨#[c]⟩ _ (by show 1 ≤ _; decide)) ?_
  rintro e w7 ⟨rfl, hb⟩
  have hb7 := (new_block w6 (.cells #[.int .u8 (c.toNat : Int)] 5)).trans (hb.mono (by simp))
  replace HP := hid (HP.out.below hb7)
  replace HB := hid (HB.out.trans (hb7.mono (Nat.le_trans (Nat.le_of_lt hlt) HB.out.size)))
  clear hb hb7 hcv
  go_wp2_with fail
  refine Calls.mono (putA g s _ ns ⟨1, C4.ofL [c]⟩ _ HP.out hm) ?_
  rintro e w9 ⟨rfl, hp, hb⟩
  replace HP := hid hp
  replace HB := hid (HB.out.trans hb)
  clear hp hb
  go_wp2
  go_end0
  exact ⟨rfl, HP.out, HB.out⟩
/-- What is read where no bracket opens. -/
theorem single_any (g : Nat) (s : ByteArray) (l : List UInt8) (ns : List Nd) (hm : ns.length ≤ 1000) (h40 : l.head? ≠ some 40) (w : World) (h : PAt w g s l ns) :
    Calls Try.prog 53 #[.pointer (some ⟨g, 0, none⟩)] w (SgP w g s ns (base l)) := by
  unfold base
  by_cases h91 : l.head? = some 91
  · rw [if_pos h91]
    rw [(tail_len l _ h91).1] at h
    cases hb : bracket l.tail with
    | error k => exact single_classBad g s l.tail ns k hb hm w h
    | ok p => obtain ⟨c, r⟩ := p; exact single_list g s l.tail ns c r hb hm w h
  · rw [if_neg h91]
    by_cases h46 : l.head? = some 46
    · rw [if_pos h46]
      rw [(tail_len l _ h46).1] at h
      exact single_dot g s l.tail ns hm w h
    · rw [if_neg h46]
      by_cases h94 : l.head? = some 94
      · rw [if_pos h94]
        rw [(tail_len l _ h94).1] at h
        exact single_begin g s l.tail ns hm w h
      · rw [if_neg h94]
        by_cases h36 : l.head? = some 36
        · rw [if_pos h36]
          rw [(tail_len l _ h36).1] at h
          exact single_end g s l.tail ns hm w h
        · rw [if_neg h36]
          cases hb : rd1 l with
          | error k => exact single_byteBad g s l ns h94 h36 h46 h91 h40 k hb hm w h
          | ok p => obtain ⟨b, r⟩ := p; exact single_byte g s l ns h94 h36 h46 h91 h40 b r hb hm w h
end Go.Proofs.Ytmdfdlljeggbbaa
