/- The landed reader: item. -/
import Derived.Test.YtmdfdlljeggbbaaRa5
import Derived.Test.YtmdfdlljeggbbaaRng
set_option linter.unusedSimpArgs false
set_option linter.unusedVariables false
set_option maxRecDepth 100000
namespace Go.Proofs.Ytmdfdlljeggbbaa
open Go.RowKit
theorem Hb.grown {w w' : World} {b g : Nat} {k : C4} (h : Hb w b k) (hg : w.grownBy w' (some g)) (hne : b ≠ g) : Hb w' b k := (hg.block b h.lt (by intro e; injection e with e; exact hne e)).trans h
theorem grown_below {w w1 w2 : World} {row : Option Nat} (h1 : w.grownBy w1 row) (h2 : Below w.heap.size w1 w2) : w.grownBy w2 row :=
  ⟨h2.os.trans h1.os, h2.tape.trans h1.tape, h2.output.trans h1.output, Nat.le_trans h1.size h2.size, fun k hk hn => (h2.block k hk).trans (h1.block k hk hn)⟩
theorem PA.belowB {w w' : World} {g B : Nat} {s : ByteArray} {a : Nat} {v : Value} {l : List UInt8} (h : PA w g s a v l) (hb : Below B w w') (hg : g < B) : PA w' g s a v l := ⟨(hb.block g hg).trans h.rd, h.at', h.le, h.small⟩
theorem new_block (w : World) (o : Obj) : Below w.heap.size w (w.alloc o) := (Below.refl _ _).alloc (Nat.le_refl _) _
theorem PA.place {w : World} {g : Nat} {s : ByteArray} {a : Nat} {v : Value} {l : List UInt8} (h : PA w g s a v l) : mis (a : Int) = mis ((s.size : Int) - (l.length : Int)) := by
  rw [← h.le]; congr 1; omega
set_option maxHeartbeats 1000000 in
theorem item_bad1 (g : Nat) (s : ByteArray) (a : Nat) (v : Value) (l : List UInt8) (k : Nat) (hr : rd1 l = .error k) (w : World) (h : PA w g s a v l) :
    Calls Try.prog 63 #[.pointer (some ⟨g, 0, none⟩)] w fun e w' => e = .panicked (mis ((s.size : Int) - (k : Int))) ∧ Stk w' g ∧ w.grownBy w' (some g) := by
  obtain ⟨c0, c1, c2, c3, f1, f2, f3⟩ := h.rd.ca
  have HM := hid (fun o => symbol_bad g s a v l k hr (w.alloc o) (h.below (new_block w o)))
  clear h hr
  go_enter Try.func63, Try.ntmps63
  go_wp2_with fail
  refine Calls.mono (HM.out _) ?_
  rintro e w1 ⟨rfl, hs, hg⟩
  exact ⟨rfl, rfl, hs, grown_trans (grown_of_below (new_block _ _) _) hg⟩
set_option maxHeartbeats 1000000 in
theorem item_one (g : Nat) (s : ByteArray) (a : Nat) (v : Value) (l : List UInt8) (lo : Nat) (l1 : List UInt8) (hr : rd1 l = .ok (lo, l1)) (hl1 : l1.head? ≠ some 45) (w : World) (h : PA w g s a v l) :
    Calls Try.prog 63 #[.pointer (some ⟨g, 0, none⟩)] w fun e w' => e = .returned (rng lo 1).v ∧ (∃ a', PA w' g s a' v l1) ∧ w.grownBy w' (some g) := by
  obtain ⟨c0, c1, c2, c3, f1, f2, f3⟩ := h.rd.ca
  have hlt := h.lt
  have HE := hid h.place
  have HL : Hid (lo < 256) := (rd1_len l lo l1 hr).2
  have HM := hid (fun o => symbol_ok g s a v l lo l1 hr (w.alloc o) (h.below (new_block w o)))
  clear h hr
  go_enter Try.func63, Try.ntmps63
  go_wp2_with fail
  refine Calls.mono (HM.out _) ?_
  rintro e w1 ⟨rfl, ⟨a1, hp⟩, hg⟩
  have hZ : Hb w1 w.heap.size z4 := (Hb.new w z4 _ rfl).grown hg (by omega)
  have hg1 := grown_trans (grown_of_below (new_block w (.cells z4.cells 24)) (some g)) hg
  clear c0 c1 c2 c3 f1 f2 f3 hg
  have HZ := hid hZ
  clear hZ
  go_wp2_with fail
  refine Calls.mono (skip_no g s a1 v l1 45 _ rfl _ hp hl1) ?_
  rintro e w2 ⟨rfl, hb2⟩
  have HP := hid (hp.below hb2)
  have HZ2 := hid (HZ.out.below hb2 HZ.out.lt)
  have hg2 := grown_trans hg1 (grown_of_below hb2 _)
  have HG := hid hg2
  clear hp hb2 hg1 hg2 HZ
  go_wp2_with fail
  refine Calls.mono (range_good lo lo HL.out HL.out (Nat.le_refl _) _) ?_
  rintro e w3 ⟨rfl, hb3⟩
  have HP3 := hid (HP.out.below hb3)
  have hZ3 := HZ2.out.below hb3 HZ2.out.lt
  have HG3 := hid (grown_trans HG.out (grown_of_below hb3 _))
  have HR : Hid (lo + 1 - lo = 1) := by show _ = _; omega
  rw [HR.out]
  clear HP HZ2 HG hb3 HM
  obtain ⟨k, hk⟩ : ∃ k, k = rng lo 1 := ⟨_, rfl⟩
  rw [← hk]
  obtain ⟨d0, d1, d2, d3⟩ := hZ3.ca
  have HZ3 := hid hZ3
  have HK := hid hk
  have n0 : ¬ w.heap.size = w3.heap.size := by have := hZ3.lt; omega
  have n1 : ¬ w3.heap.size = w.heap.size := by omega
  have hf : ∀ o i, (w3.alloc o).frozen? ⟨w.heap.size, i, none⟩ = false := fun o i => (hZ3.alloc o).frozen i
  clear hk hZ3
  go_wp2
  have hq := (HZ3.out.alloc (.cells k.cells 24)).put4 k
  have hB : Below w.heap.size w3 (put4 (w3.alloc (.cells k.cells 24)) w.heap.size k) := below_put4 ((Below.refl _ _).alloc (by have := HZ3.out.lt; omega) _) (Nat.le_refl _) k
  refine bodyPost_ret (v := k.v) (by simp [results, Try.results63, go_sem, hq.c0, hq.c1, hq.c2, hq.c3]) rfl ⟨by rw [HK.out], ⟨a1, HP3.out.belowB hB hlt⟩, grown_below HG3.out hB⟩
set_option maxHeartbeats 1000000 in
theorem item_two (g : Nat) (s : ByteArray) (a : Nat) (v : Value) (l : List UInt8) (lo : Nat) (l1 : List UInt8) (hr : rd1 l = .ok (lo, l1)) (hl1 : l1.head? = some 45) (hi : Nat) (l2 : List UInt8) (hr2 : rd1 l1.tail = .ok (hi, l2)) (hle : lo ≤ hi) (w : World) (h : PA w g s a v l) :
    Calls Try.prog 63 #[.pointer (some ⟨g, 0, none⟩)] w fun e w' => e = .returned (rng lo (hi + 1 - lo)).v ∧ (∃ a', PA w' g s a' v l2) ∧ w.grownBy w' (some g) := by
  obtain ⟨c0, c1, c2, c3, f1, f2, f3⟩ := h.rd.ca
  have hlt := h.lt
  have HE := hid h.place
  have HL : Hid (lo < 256) := (rd1_len l lo l1 hr).2
  have HM := hid (fun o => symbol_ok g s a v l lo l1 hr (w.alloc o) (h.below (new_block w o)))
  clear h hr
  go_enter Try.func63, Try.ntmps63
  go_wp2_with fail
  refine Calls.mono (HM.out _) ?_
  rintro e w1 ⟨rfl, ⟨a1, hp⟩, hg⟩
  have hZ : Hb w1 w.heap.size z4 := (Hb.new w z4 _ rfl).grown hg (by omega)
  have hg1 := grown_trans (grown_of_below (new_block w (.cells z4.cells 24)) (some g)) hg
  clear c0 c1 c2 c3 f1 f2 f3 hg
  have HZ := hid hZ
  clear hZ
  go_wp2_with fail
  obtain ⟨e1, _⟩ := tail_len l1 _ hl1
  have hp' : PA w1 g s a1 v (45 :: l1.tail) := by rw [← e1]; exact hp
  clear e1 hl1
  refine Calls.mono (skip_yes g s a1 v l1.tail 45 _ rfl _ hp') ?_
  rintro e w2 ⟨rfl, hp2, hg2⟩
  have HZ2 := hid (HZ.out.grown hg2 (by omega))
  have HG := hid (grown_trans hg1 hg2)
  clear hp hp' hg2 hg1 HZ
  go_wp2_with fail
  refine Calls.mono (symbol_ok g s _ v _ hi l2 hr2 _ hp2) ?_
  rintro e w3 ⟨rfl, ⟨a3, hp3⟩, hg3⟩
  have HP := hid hp3
  replace HZ2 := hid (HZ2.out.grown hg3 (by omega))
  replace HG := hid (grown_trans HG.out hg3)
  have HH : Hid (hi < 256) := (rd1_len _ hi l2 hr2).2
  clear hp2 hp3 hg3 hr2
  go_wp2_with fail
  refine Calls.mono (range_good lo hi HL.out HH.out hle _) ?_
  rintro e w4 ⟨rfl, hb3⟩
  have HP3 := hid (HP.out.below hb3)
  have hZ3 := HZ2.out.below hb3 HZ2.out.lt
  have HG3 := hid (grown_trans HG.out (grown_of_below hb3 _))
  clear HP HZ2 HG hb3 HM
  obtain ⟨k, hk⟩ : ∃ k, k = rng lo (hi + 1 - lo) := ⟨_, rfl⟩
  rw [← hk]
  obtain ⟨d0, d1, d2, d3⟩ := hZ3.ca
  have HZ3 := hid hZ3
  have HK := hid hk
  have n0 : ¬ w.heap.size = w4.heap.size := by have := hZ3.lt; omega
  have n1 : ¬ w4.heap.size = w.heap.size := by omega
  have hf : ∀ o i, (w4.alloc o).frozen? ⟨w.heap.size, i, none⟩ = false := fun o i => (hZ3.alloc o).frozen i
  clear hk hZ3
  go_wp2
  have hq := (HZ3.out.alloc (.cells k.cells 24)).put4 k
  have hB : Below w.heap.size w4 (put4 (w4.alloc (.cells k.cells 24)) w.heap.size k) := below_put4 ((Below.refl _ _).alloc (by have := HZ3.out.lt; omega) _) (Nat.le_refl _) k
  refine bodyPost_ret (v := k.v) (by simp [results, Try.results63, go_sem, hq.c0, hq.c1, hq.c2, hq.c3]) rfl ⟨by rw [HK.out], ⟨a3, HP3.out.belowB hB hlt⟩, grown_below HG3.out hB⟩
set_option maxHeartbeats 1000000 in
theorem item_bad2 (g : Nat) (s : ByteArray) (a : Nat) (v : Value) (l : List UInt8) (lo : Nat) (l1 : List UInt8) (hr : rd1 l = .ok (lo, l1)) (hl1 : l1.head? = some 45) (k : Nat) (hr2 : rd1 l1.tail = .error k) (w : World) (h : PA w g s a v l) :
    Calls Try.prog 63 #[.pointer (some ⟨g, 0, none⟩)] w fun e w' => e = .panicked (mis ((s.size : Int) - (k : Int))) ∧ Stk w' g ∧ w.grownBy w' (some g) := by
  obtain ⟨c0, c1, c2, c3, f1, f2, f3⟩ := h.rd.ca
  have hlt := h.lt
  have HE := hid h.place
  have HL : Hid (lo < 256) := (rd1_len l lo l1 hr).2
  have HM := hid (fun o => symbol_ok g s a v l lo l1 hr (w.alloc o) (h.below (new_block w o)))
  clear h hr
  go_enter Try.func63, Try.ntmps63
  go_wp2_with fail
  refine Calls.mono (HM.out _) ?_
  rintro e w1 ⟨rfl, ⟨a1, hp⟩, hg⟩
  have hZ : Hb w1 w.heap.size z4 := (Hb.new w z4 _ rfl).grown hg (by omega)
  have hg1 := grown_trans (grown_of_below (new_block w (.cells z4.cells 24)) (some g)) hg
  clear c0 c1 c2 c3 f1 f2 f3 hg
  have HZ := hid hZ
  clear hZ
  go_wp2_with fail
  obtain ⟨e1, _⟩ := tail_len l1 _ hl1
  have hp' : PA w1 g s a1 v (45 :: l1.tail) := by rw [← e1]; exact hp
  clear e1 hl1
  refine Calls.mono (skip_yes g s a1 v l1.tail 45 _ rfl _ hp') ?_
  rintro e w2 ⟨rfl, hp2, hg2⟩
  have HZ2 := hid (HZ.out.grown hg2 (by omega))
  have HG := hid (grown_trans hg1 hg2)
  clear hp hp' hg2 hg1 HZ
  go_wp2_with fail
  refine Calls.mono (symbol_bad g s _ v _ k hr2 _ hp2) ?_
  rintro e w3 ⟨rfl, hs, hg3⟩
  exact ⟨rfl, rfl, hs, grown_trans HG.out hg3⟩
set_option maxHeartbeats 1000000 in
theorem item_bad3 (g : Nat) (s : ByteArray) (a : Nat) (v : Value) (l : List UInt8) (lo : Nat) (l1 : List UInt8) (hr : rd1 l = .ok (lo, l1)) (hl1 : l1.head? = some 45) (hi : Nat) (l2 : List UInt8) (hr2 : rd1 l1.tail = .ok (hi, l2)) (hle : hi < lo) (w : World) (h : PA w g s a v l) :
    Calls Try.prog 63 #[.pointer (some ⟨g, 0, none⟩)] w fun e w' => e = .panicked (mis ((s.size : Int) - (l.length : Int))) ∧ Stk w' g ∧ w.grownBy w' (some g) := by
  obtain ⟨c0, c1, c2, c3, f1, f2, f3⟩ := h.rd.ca
  have hlt := h.lt
  have HE := hid h.place
  have HL : Hid (lo < 256) := (rd1_len l lo l1 hr).2
  have HM := hid (fun o => symbol_ok g s a v l lo l1 hr (w.alloc o) (h.below (new_block w o)))
  clear h hr
  go_enter Try.func63, Try.ntmps63
  go_wp2_with fail
  refine Calls.mono (HM.out _) ?_
  rintro e w1 ⟨rfl, ⟨a1, hp⟩, hg⟩
  have hZ : Hb w1 w.heap.size z4 := (Hb.new w z4 _ rfl).grown hg (by omega)
  have hg1 := grown_trans (grown_of_below (new_block w (.cells z4.cells 24)) (some g)) hg
  clear c0 c1 c2 c3 f1 f2 f3 hg
  have HZ := hid hZ
  clear hZ
  go_wp2_with fail
  obtain ⟨e1, _⟩ := tail_len l1 _ hl1
  have hp' : PA w1 g s a1 v (45 :: l1.tail) := by rw [← e1]; exact hp
  clear e1 hl1
  refine Calls.mono (skip_yes g s a1 v l1.tail 45 _ rfl _ hp') ?_
  rintro e w2 ⟨rfl, hp2, hg2⟩
  have HZ2 := hid (HZ.out.grown hg2 (by omega))
  have HG := hid (grown_trans hg1 hg2)
  clear hp hp' hg2 hg1 HZ
  go_wp2_with fail
  refine Calls.mono (symbol_ok g s _ v _ hi l2 hr2 _ hp2) ?_
  rintro e w3 ⟨rfl, ⟨a3, hp3⟩, hg3⟩
  have HP := hid hp3
  replace HZ2 := hid (HZ2.out.grown hg3 (by omega))
  replace HG := hid (grown_trans HG.out hg3)
  have HH : Hid (hi < 256) := (rd1_len _ hi l2 hr2).2
  clear hp2 hp3 hg3 hr2
  go_wp2_with fail
  refine Calls.mono (range_bad lo hi HL.out HH.out hle _) ?_
  rintro e w4 ⟨rfl, hb4⟩
  have HP3 := hid (HP.out.below hb4)
  have HG3 := hid (grown_trans HG.out (grown_of_below hb4 _))
  clear HP HZ2 HG hb4 HM
  go_wp2_with fail
  refine Calls.mono (misfitAt_any g s _ v false _ _ (HP3.out.below (new_block _ _)).rd) ?_
  rintro e w5 ⟨rfl, hs, hg5⟩
  go_wp2
  refine ⟨rfl, ?_, hs, grown_trans HG3.out (grown_trans (grown_of_below (new_block _ _) _) hg5)⟩
  rw [← HE.out]
  rfl
end Go.Proofs.Ytmdfdlljeggbbaa
