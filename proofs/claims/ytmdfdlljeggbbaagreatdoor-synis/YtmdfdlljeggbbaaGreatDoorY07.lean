/- What the document's own reader does: fail, sees, hex. What the document's own reader does: one. What the document's own reader does: one, hex digits; one altogether. -/
import Derived.Test.YtmdfdlljeggbbaaGreatDoorY04
import Derived.Test.YtmdfdlljeggbbaaGreatDoorY05
import Derived.Test.YtmdfdlljeggbbaaGreatDoorY06
import Derived.Maps.AppendAt
import Derived.Lib.BufferOwn
import Derived.Handy
namespace Go.Proofs.YtmdfdlljeggbbaaGreatDoor
set_option linter.unusedSimpArgs false
set_option linter.unusedVariables false
set_option maxRecDepth 100000
open Go.RowKit

/-- Block g holds a reader. -/
def RdB (w : World) (g : Nat) (s : ByteArray) (a bd : Int) : Prop := w.heap[g]? = some (.cells #[.string s, .int .i64 a, .int .i64 bd] 59 (0, 0))
theorem RdB.all {w : World} {g : Nat} {s : ByteArray} {a bd : Int} (h : RdB w g s a bd) : w.cell? ⟨g, 0, none⟩ = some (.string s) ∧ w.cell? ⟨g, 1, none⟩ = some (.int .i64 a) ∧ w.cell? ⟨g, 2, none⟩ = some (.int .i64 bd) ∧ w.frozen? ⟨g, 1, none⟩ = false ∧ w.frozen? ⟨g, 2, none⟩ = false := by
  refine ⟨?_, ?_, ?_, Lib.frozen_of_heap h 1, Lib.frozen_of_heap h 2⟩ <;> (rw [Lib.cell_of_heap h]; rfl)
theorem RdB.lt {w : World} {g : Nat} {s : ByteArray} {a bd : Int} (h : RdB w g s a bd) : g < w.heap.size := by
  rcases Nat.lt_or_ge g w.heap.size with h' | h'
  · exact h'
  · simp [RdB, Array.getElem?_eq_none h'] at h
theorem RdB.setAt {w : World} {g : Nat} {s : ByteArray} {a bd : Int} (h : RdB w g s a bd) (z : Int) : RdB (w.setCell ⟨g, 1, none⟩ (.int .i64 z)) g s z bd := by
  simp only [RdB] at h ⊢
  simp [World.setCell, Array.getElem?_modify, h]
theorem RdB.setBad {w : World} {g : Nat} {s : ByteArray} {a bd : Int} (h : RdB w g s a bd) (z : Int) : RdB (w.setCell ⟨g, 2, none⟩ (.int .i64 z)) g s a z := by
  simp only [RdB] at h ⊢
  simp [World.setCell, Array.getElem?_modify, h]
theorem RdB.below {w w' : World} {g : Nat} {s : ByteArray} {a bd : Int} (h : RdB w g s a bd) (hb : Below w.heap.size w w') : RdB w' g s a bd := (hb.block g h.lt).trans h
theorem grown_at (w : World) (g : Nat) (i : Nat) (v : Value) : w.grownBy (w.setCell ⟨g, i, none⟩ v) (some g) := Lib.grownBy_setB (World.grownBy.refl w _) i v
theorem below_grown {w w' : World} (hb : Below w.heap.size w w') (row : Option Nat) : w.grownBy w' row := ⟨hb.os, hb.tape, hb.output, hb.size, fun k hk _ => hb.block k hk⟩
theorem len_str (s : ByteArray) : s.data.toList.length = s.size := Array.length_toList
theorem idx_at (s : ByteArray) (a : Nat) (c : UInt8) (h : s.data.toList[a]? = some c) (w : World) : (Instr.index 9 (.string s) (.int .i64 (a : Int))).run Tryz.prog w = .ok (.int .u8 (c.toNat : Int)) w := by
  have hl : a < s.data.toList.length := by
    rcases Nat.lt_or_ge a s.data.toList.length with h' | h'
    · exact h'
    · rw [List.getElem?_eq_none h'] at h; cases h
  have hs : a < s.size := by rw [← len_str]; exact hl
  rw [run_index_string w 9 s .i64 (a : Int) Tryz.underlying9, dif_pos ⟨by omega, by omega⟩]
  rw [List.getElem?_eq_getElem hl] at h
  have e : s[(a : Int).toNat]'(by simpa using hs) = c := by
    exact Option.some.inj h
  rw [e]
theorem drop_cons (L : List UInt8) (a : Nat) (c : UInt8) (r : List UInt8) (h : L.drop a = c :: r) : L[a]? = some c ∧ L.drop (a + 1) = r ∧ a < L.length := by
  have hl : a < L.length := by
    rcases Nat.lt_or_ge a L.length with h' | h'
    · exact h'
    · rw [List.drop_eq_nil_of_le h'] at h; cases h
  rw [List.drop_eq_getElem_cons hl] at h
  injection h with h1 h2
  exact ⟨by rw [List.getElem?_eq_getElem hl, h1], h2, hl⟩
theorem drop_nil' (L : List UInt8) (a : Nat) (h : L.drop a = []) : L.length ≤ a := by
  rcases Nat.lt_or_ge a L.length with h' | h'
  · rw [List.drop_eq_getElem_cons h'] at h; cases h
  · exact h'
set_option maxHeartbeats 1000000 in
theorem fail_first (g : Nat) (s : ByteArray) (a bd z : Int) (w : World) (h : RdB w g s a bd) (hbd : bd < 0) :
    Calls Tryz.prog 21 #[.pointer (some ⟨g, 0, none⟩), .int .i64 z] w fun e w' => e = .returned (.tuple #[]) ∧ RdB w' g s a z ∧ w.grownBy w' (some g) := by
  obtain ⟨c0, c1, c2, f1, f2⟩ := h.all
  have H : Hid _ := h
  clear h
  go_enter Tryz.func21, Tryz.ntmps21
  go_wp2
  go_end0
  exact ⟨rfl, RdB.setBad H.out z, grown_at _ _ _ _⟩
set_option maxHeartbeats 1000000 in
theorem fail_more (g : Nat) (s : ByteArray) (a bd z : Int) (w : World) (h : RdB w g s a bd) (hbd : ¬ bd < 0) :
    Calls Tryz.prog 21 #[.pointer (some ⟨g, 0, none⟩), .int .i64 z] w fun e w' => e = .returned (.tuple #[]) ∧ w' = w := by
  obtain ⟨c0, c1, c2, f1, f2⟩ := h.all
  clear h
  go_enter Tryz.func21, Tryz.ntmps21
  go_wp2
  go_end0
  exact ⟨rfl, rfl⟩
set_option maxHeartbeats 1000000 in
theorem sees_bad (g : Nat) (s : ByteArray) (a bd z : Int) (w : World) (h : RdB w g s a bd) (hbd : ¬ bd < 0) :
    Calls Tryz.prog 36 #[.pointer (some ⟨g, 0, none⟩), .int .u8 z] w fun e w' => e = .returned (.bool false) ∧ Below w.heap.size w w' := by
  obtain ⟨c0, c1, c2, f1, f2⟩ := h.all
  clear h
  have hbd2 : decide (bd < 0) = false := by simp; omega
  go_enter Tryz.func36, Tryz.ntmps36
  go_wp2_with fail
  go_quiet (fail)
  go_wp2
  go_ret
  exact ⟨rfl, below_drewN' w nq⟩
set_option maxHeartbeats 1000000 in
theorem sees_ok (g : Nat) (s : ByteArray) (a : Nat) (l : List UInt8) (hl : s.data.toList.drop a = l) (b : UInt8) (z : Int) (hz : z = (b.toNat : Int)) (w : World) (h : RdB w g s a (-1)) (hs : s.size ≤ 1000000) :
    Calls Tryz.prog 36 #[.pointer (some ⟨g, 0, none⟩), .int .u8 z] w fun e w' => e = .returned (.bool (decide (l.head? = some b))) ∧ Below w.heap.size w w' := by
  subst hz
  obtain ⟨c0, c1, c2, f1, f2⟩ := h.all
  clear h
  cases l with
  | nil =>
    have h1 := drop_nil' _ _ hl
    have h2 : ¬ (a : Int) < (s.size : Int) := by
      have := len_str s
      omega
    have h4 : decide (a < s.size) = false := by simp; omega
    clear hl h1
    go_enter Tryz.func36, Tryz.ntmps36
    go_wp2_with fail
    go_quiet (fail)
    go_wp2
    go_ret
    exact ⟨rfl, below_drewN' w nq⟩
  | cons c r =>
    obtain ⟨h1, _, h3⟩ := drop_cons _ _ _ _ hl
    have h2 : (a : Int) < (s.size : Int) := by
      have := len_str s
      omega
    have hi := idx_at s a c h1
    have h4 : decide (a < s.size) = true := by simp; omega
    clear hl h1 h3
    by_cases hc : c = b
    · subst hc
      have e : ((c.toNat : Int) == (c.toNat : Int)) = true := by simp
      have HX : Hid (decide ((c :: r).head? = some c) = true) := by show _ = _; simp
      rw [HX.out]
      go_enter Tryz.func36, Tryz.ntmps36
      go_wp2_with fail
      go_quiet (fail)
      go_wp2
      go_ret
      exact ⟨rfl, below_drewN' w nq⟩
    · have e : ((c.toNat : Int) == (b.toNat : Int)) = false := by
        rw [beq_eq_false_iff_ne]
        intro h
        exact hc (UInt8.toNat_inj.1 (by omega))
      have HX : Hid (decide ((c :: r).head? = some b) = false) := by show _ = _; simp [hc]
      rw [HX.out]
      clear hc
      go_enter Tryz.func36, Tryz.ntmps36
      go_wp2_with fail
      go_quiet (fail)
      go_wp2
      go_ret
      exact ⟨rfl, below_drewN' w nq⟩
def hexI (c : UInt8) : Int := match hx c with | none => -1 | some a => a
def hdg (j : Nat) : Int := ([48, 49, 50, 51, 52, 53, 54, 55, 56, 57, 97, 98, 99, 100, 101, 102] : List Int).getD j 0
theorem hdg_index (j : Nat) (h : j < 16) (w : World) : (Instr.index 9 (.string ⟨#[48, 49, 50, 51, 52, 53, 54, 55, 56, 57, 97, 98, 99, 100, 101, 102]⟩) (.int .i64 j)).run Tryz.prog w = .ok (.int .u8 (hdg j)) w := by
  match j, h with
  | 0, _ | 1, _ | 2, _ | 3, _ | 4, _ | 5, _ | 6, _ | 7, _ | 8, _ | 9, _ | 10, _ | 11, _ | 12, _ | 13, _ | 14, _ | 15, _ => go_simp; rfl
  | n + 16, h => omega
theorem hex_yes (c : UInt8) (j : Nat) (hj : j < 16) (h : hdg j = (c.toNat : Int)) : hexI c = (j : Int) := by
  have key : ∀ c : Fin 256, ∀ j : Fin 16, hdg j.val = (c.val : Int) → hexI (UInt8.ofNat c.val) = (j.val : Int) := by decide +kernel
  have := key ⟨c.toNat, c.toNat_lt⟩ ⟨j, hj⟩ h
  simpa using this
theorem hex_no (c : UInt8) (h : ∀ j, j < 16 → hdg j ≠ (c.toNat : Int)) : hexI c = -1 := by
  have key : ∀ c : Fin 256, (∀ j : Fin 16, hdg j.val ≠ (c.val : Int)) → hexI (UInt8.ofNat c.val) = -1 := by decide +kernel
  have := key ⟨c.toNat, c.toNat_lt⟩ (fun j => h j.val j.isLt)
  simpa using this
set_option maxHeartbeats 1000000 in
theorem hex_any (c : UInt8) (w : World) :
    Calls Tryz.prog 70 #[.int .u8 (c.toNat : Int)] w fun e w' => e = .returned (.int .i64 (hexI c)) ∧ w' = w := by
  go_enter Tryz.func70, Tryz.ntmps70
  go_wp2
  go_loop [3] (fun v => ∃ j : Nat, j ≤ 16 ∧ v = .int .i64 j ∧ Hid (∀ i, i < j → hdg i ≠ (c.toNat : Int))) (fun v => 16 - (intOf v).toNat)
  case atStart => exact ⟨0, by omega, rfl, fun i hi => by omega⟩
  case round =>
    obtain ⟨j, hj, rfl, HN⟩ := hrel
    by_cases hlt : j < 16
    · have hi := hdg_index j hlt
      have i1 : (j : Int) < 16 := by omega
      by_cases he : hdg j = (c.toNat : Int)
      · have he2 : (hdg j == (c.toNat : Int)) = true := by simp [he]
        have HX : Hid (hexI c = (j : Int)) := hex_yes c j hlt he
        clear he
        go_wp2
        go_ret
        exact ⟨by rw [HX.out]; rfl, rfl⟩
      · have he2 : (hdg j == (c.toNat : Int)) = false := by simp [he]
        have HX : Hid (∀ i, i < j + 1 → hdg i ≠ (c.toNat : Int)) := fun i hi => by
          by_cases e : i = j
          · rw [e]; exact he
          · exact HN.out i (by omega)
        clear he
        go_wp2
        exact ⟨⟨j + 1, by omega, by go_num, HX⟩, by simp [intOf]; omega⟩
    · have hj2 : j = 16 := by omega
      subst hj2
      have HX : Hid (hexI c = -1) := hex_no c HN.out
      go_wp2
      go_ret
      exact ⟨by rw [HX.out]; rfl, rfl⟩
end Go.Proofs.YtmdfdlljeggbbaaGreatDoor
namespace Go.Proofs.YtmdfdlljeggbbaaGreatDoor
set_option linter.unusedSimpArgs false
set_option linter.unusedVariables false
set_option maxRecDepth 100000
open Go.RowKit

/-- The reader stands ahead of l. -/
def At (w : World) (g : Nat) (s : ByteArray) (l : List UInt8) : Prop := ∃ a : Nat, a + l.length = s.size ∧ s.data.toList.drop a = l ∧ RdB w g s a (-1)
/-- It has failed, with k bytes left. -/
def Bad (w : World) (g : Nat) (s : ByteArray) (k m : Nat) : Prop := ∃ a bd : Nat, a ≤ s.size + m ∧ bd + k = s.size ∧ RdB w g s a bd
theorem At.below {w w' : World} {g : Nat} {s : ByteArray} {l : List UInt8} (h : At w g s l) (hb : Below w.heap.size w w') : At w' g s l := by
  obtain ⟨a, h1, h2, h3⟩ := h
  exact ⟨a, h1, h2, h3.below hb⟩
theorem Bad.below {w w' : World} {g : Nat} {s : ByteArray} {k m : Nat} (h : Bad w g s k m) (hb : Below w.heap.size w w') : Bad w' g s k m := by
  obtain ⟨a, bd, h1, h2, h3⟩ := h
  exact ⟨a, bd, h1, h2, h3.below hb⟩
theorem Bad.more {w : World} {g : Nat} {s : ByteArray} {k m m' : Nat} (h : Bad w g s k m) (hm : m ≤ m') : Bad w g s k m' := by
  obtain ⟨a, bd, h1, h2, h3⟩ := h
  exact ⟨a, bd, by omega, h2, h3⟩
theorem At.lt {w : World} {g : Nat} {s : ByteArray} {l : List UInt8} (h : At w g s l) : g < w.heap.size := by
  obtain ⟨a, _, _, h3⟩ := h
  exact h3.lt
theorem signedB_iff (c : UInt8) : signedB (c.toNat : Int) = decide (c ∈ signL) := by
  have key : ∀ c : Fin 256, signedB (c.val : Int) = decide (UInt8.ofNat c.val ∈ signL) := by decide +kernel
  have := key ⟨c.toNat, c.toNat_lt⟩
  simpa using this
theorem signed_u (c : UInt8) (w : World) :
    Calls Tryz.prog 42 #[.int .u8 (c.toNat : Int)] w fun e w' => e = .returned (.bool (decide (c ∈ signL))) ∧ w' = w := by
  have := signed_any (c.toNat : Int) w
  rw [signedB_iff] at this
  exact this
theorem u8_i64 (c : UInt8) : IntKind.i64.wrap (c.toNat : Int) = (c.toNat : Int) := by
  have := c.toNat_lt
  rw [IntKind.wrap_i64]; omega
theorem RdB.dr {w : World} {g : Nat} {s : ByteArray} {a bd : Int} (h : RdB w g s a bd) (n : Nat) : RdB (w.drewN n) g s a bd := h
theorem gr_dr (w : World) (n : Nat) (row : Option Nat) : w.grownBy (w.drewN n) row := below_grown (below_drewN' w n) row
theorem gr_dr' {w w' : World} {n : Nat} {row : Option Nat} (h : (w.drewN n).grownBy w' row) : w.grownBy w' row := (gr_dr w n row).trans h
set_option maxHeartbeats 1000000 in
theorem one_nil (g : Nat) (s : ByteArray) (w : World) (h : At w g s []) (hs : s.size ≤ 1000) :
    Calls Tryz.prog 56 #[.pointer (some ⟨g, 0, none⟩)] w fun e w' => e = .returned (.int .i64 0) ∧ Bad w' g s 0 0 ∧ w.grownBy w' (some g) := by
  obtain ⟨a, ha, hd, hR⟩ := h
  simp at ha
  subst ha
  obtain ⟨c0, c1, c2, f1, f2⟩ := hR.all
  have HF : Hid (∀ n, _) := fun n => fail_first g s (s.size : Int) (-1) (s.size : Int) (w.drewN n) (hR.dr n) (by omega)
  clear hd hR
  go_enter Tryz.func56, Tryz.ntmps56
  go_wp2_with fail
  go_quiet (fail)
  go_wp2_with fail
  refine Calls.mono (HF.out _) ?_
  rintro e w1 ⟨rfl, hR1, hg1⟩
  obtain ⟨d0, d1, d2, e1, e2⟩ := hR1.all
  have R1 : Hid _ := hR1
  clear hR1
  go_wp2
  go_ret
  exact ⟨rfl, ⟨s.size, s.size, by omega, by omega, R1.out⟩, gr_dr' hg1⟩
set_option maxHeartbeats 1000000 in
theorem one_plain (g : Nat) (s : ByteArray) (c : UInt8) (r : List UInt8) (w : World) (h : At w g s (c :: r)) (hs : s.size ≤ 1000) (hc : c ≠ 92) (h1 : 32 ≤ c.toNat) (h2 : c.toNat ≤ 126) (h3 : c ∉ signL) :
    Calls Tryz.prog 56 #[.pointer (some ⟨g, 0, none⟩)] w fun e w' => e = .returned (.int .i64 (c.toNat : Int)) ∧ At w' g s r ∧ w.grownBy w' (some g) := by
  obtain ⟨a, ha, hd, hR⟩ := h
  obtain ⟨x1, x2, x3⟩ := drop_cons _ _ _ _ hd
  simp at ha
  obtain ⟨c0, c1, c2, f1, f2⟩ := hR.all
  have hi := idx_at s a c x1
  have ia : (a : Int) < (s.size : Int) := by omega
  have ib : decide (s.size ≤ a) = false := by simp; omega
  have hn : ((c.toNat : Int) != 92) = true := by
    rw [bne_iff_ne]
    intro e
    exact hc (UInt8.toNat_inj.1 (by show c.toNat = 92; omega))
  have hw := u8_i64 c
  have HS : Hid _ := signed_u c
  rw [decide_eq_false h3] at HS
  have q1 : ¬ (c.toNat : Int) < 32 := by omega
  have q2 : ¬ 126 < (c.toNat : Int) := by omega
  have HX : Hid _ := And.intro x2 hR
  clear hd hR x1 x2 x3 hc h3
  go_enter Tryz.func56, Tryz.ntmps56
  go_wp2_with fail
  go_quiet (fail)
  go_wp2_with fail
  go_quiet (fail)
  go_wp2_with fail
  refine Calls.mono (HS.out _) ?_
  rintro e w1 ⟨rfl, rfl⟩
  go_wp2
  go_ret
  exact ⟨rfl, ⟨a + 1, by omega, HX.out.1, RdB.setAt (HX.out.2.dr _) _⟩, gr_dr' (grown_at _ _ _ _)⟩
set_option maxHeartbeats 1000000 in
theorem one_not (g : Nat) (s : ByteArray) (c : UInt8) (r : List UInt8) (w : World) (h : At w g s (c :: r)) (hs : s.size ≤ 1000) (hc : c ≠ 92) (h3 : c.toNat < 32 ∨ 126 < c.toNat ∨ c ∈ signL) :
    Calls Tryz.prog 56 #[.pointer (some ⟨g, 0, none⟩)] w fun e w' => e = .returned (.int .i64 (c.toNat : Int)) ∧ Bad w' g s (r.length + 1) 0 ∧ w.grownBy w' (some g) := by
  obtain ⟨a, ha, hd, hR⟩ := h
  obtain ⟨x1, x2, x3⟩ := drop_cons _ _ _ _ hd
  simp at ha
  obtain ⟨c0, c1, c2, f1, f2⟩ := hR.all
  have hi := idx_at s a c x1
  have ia : (a : Int) < (s.size : Int) := by omega
  have ib : decide (s.size ≤ a) = false := by simp; omega
  have hn : ((c.toNat : Int) != 92) = true := by
    rw [bne_iff_ne]
    intro e
    exact hc (UInt8.toNat_inj.1 (by show c.toNat = 92; omega))
  have hw := u8_i64 c
  have HS : Hid _ := signed_u c
  have HF : Hid (∀ n, _) := fun n => fail_first g s (a : Int) (-1) (a : Int) (w.drewN n) (hR.dr n) (by omega)
  have hl : c.toNat < 256 := c.toNat_lt
  clear hd hR x1 x2 x3 hc
  by_cases h4 : c.toNat < 32
  · have q1 : (c.toNat : Int) < 32 := by omega
    clear h3
    go_enter Tryz.func56, Tryz.ntmps56
    go_wp2_with fail
    go_quiet (fail)
    go_wp2_with fail
    go_quiet (fail)
    go_wp2_with fail
    refine Calls.mono (HS.out _) ?_
    rintro e w1 ⟨rfl, rfl⟩
    go_wp2_with fail
    refine Calls.mono (HF.out _) ?_
    rintro e w1 ⟨rfl, hR1, hg1⟩
    obtain ⟨d0, d1, d2, e1, e2⟩ := hR1.all
    have R1 : Hid _ := hR1
    clear hR1
    go_wp2
    go_ret
    exact ⟨rfl, ⟨a + 1, a, by omega, by omega, RdB.setAt R1.out _⟩, (gr_dr' hg1).trans (grown_at _ _ _ _)⟩
  by_cases h5 : 126 < c.toNat
  · have q1 : ¬ (c.toNat : Int) < 32 := by omega
    have q2 : 126 < (c.toNat : Int) := by omega
    clear h3
    go_enter Tryz.func56, Tryz.ntmps56
    go_wp2_with fail
    go_quiet (fail)
    go_wp2_with fail
    go_quiet (fail)
    go_wp2_with fail
    refine Calls.mono (HS.out _) ?_
    rintro e w1 ⟨rfl, rfl⟩
    go_wp2_with fail
    refine Calls.mono (HF.out _) ?_
    rintro e w1 ⟨rfl, hR1, hg1⟩
    obtain ⟨d0, d1, d2, e1, e2⟩ := hR1.all
    have R1 : Hid _ := hR1
    clear hR1
    go_wp2
    go_ret
    exact ⟨rfl, ⟨a + 1, a, by omega, by omega, RdB.setAt R1.out _⟩, (gr_dr' hg1).trans (grown_at _ _ _ _)⟩
  have h6 : c ∈ signL := by rcases h3 with h | h | h <;> first | omega | exact h
  rw [decide_eq_true h6] at HS
  have q1 : ¬ (c.toNat : Int) < 32 := by omega
  have q2 : ¬ 126 < (c.toNat : Int) := by omega
  clear h3 h6
  go_enter Tryz.func56, Tryz.ntmps56
  go_wp2_with fail
  go_quiet (fail)
  go_wp2_with fail
  go_quiet (fail)
  go_wp2_with fail
  refine Calls.mono (HS.out _) ?_
  rintro e w1 ⟨rfl, rfl⟩
  go_wp2_with fail
  refine Calls.mono (HF.out _) ?_
  rintro e w1 ⟨rfl, hR1, hg1⟩
  obtain ⟨d0, d1, d2, e1, e2⟩ := hR1.all
  have R1 : Hid _ := hR1
  clear hR1
  go_wp2
  go_ret
  exact ⟨rfl, ⟨a + 1, a, by omega, by omega, RdB.setAt R1.out _⟩, (gr_dr' hg1).trans (grown_at _ _ _ _)⟩
set_option maxHeartbeats 2000000 in
theorem one_esc0 (g : Nat) (s : ByteArray)  (w : World) (h : At w g s ([92])) (hs : s.size ≤ 1000)  :
    Calls Tryz.prog 56 #[.pointer (some ⟨g, 0, none⟩)] w fun e w' => e = .returned (.int .i64 (0)) ∧ Bad w' g s 0 0 ∧ w.grownBy w' (some g) := by
  obtain ⟨a, ha, hd, hR⟩ := h
  obtain ⟨x1, x2, x3⟩ := drop_cons _ _ _ _ hd
  simp at ha
  obtain ⟨c0, c1, c2, f1, f2⟩ := hR.all
  have hi : ∀ w, (Instr.index 9 (.string s) (.int .i64 (a : Int))).run Tryz.prog w = .ok (.int .u8 92) w := idx_at s a 92 x1
  have ia : (a : Int) < (s.size : Int) := by omega
  have ib : decide (s.size ≤ a) = false := by simp; omega
  have HS : Hid (∀ w, Calls Tryz.prog 42 #[.int .u8 92] w fun e w' => e = .returned (.bool true) ∧ w' = w) := fun w => signed_u 92 w
  have ic : ¬ (a : Int) + 1 < (s.size : Int) := by omega
  have HF : Hid (∀ n, _) := fun n => fail_first g s (a : Int) (-1) (s.size : Int) (w.drewN n) (hR.dr n) (by omega)
  clear hd hR x1 x2 x3
  go_enter Tryz.func56, Tryz.ntmps56
  go_wp2_with fail
  go_quiet (fail)
  go_wp2_with fail
  go_quiet (fail)
  go_wp2_with fail
  refine Calls.mono (HS.out _) ?_
  rintro e w1 ⟨rfl, rfl⟩
  go_wp2_with fail
  go_quiet (fail)
  go_wp2_with fail
  refine Calls.mono (HF.out _) ?_
  rintro e w1 ⟨rfl, hR1, hg1⟩
  have R1 : Hid _ := hR1
  clear hR1
  go_wp2
  go_ret
  exact ⟨rfl, ⟨a, s.size, by omega, by omega, R1.out⟩, gr_dr' hg1⟩
set_option maxHeartbeats 2000000 in
theorem one_escS (g : Nat) (s : ByteArray) (d : UInt8) (r : List UInt8) (w : World) (h : At w g s (92 :: d :: r)) (hs : s.size ≤ 1000) (h3 : d ∈ signL) :
    Calls Tryz.prog 56 #[.pointer (some ⟨g, 0, none⟩)] w fun e w' => e = .returned (.int .i64 (d.toNat : Int)) ∧ At w' g s r ∧ w.grownBy w' (some g) := by
  obtain ⟨a, ha, hd, hR⟩ := h
  obtain ⟨x1, x2, x3⟩ := drop_cons _ _ _ _ hd
  simp at ha
  obtain ⟨c0, c1, c2, f1, f2⟩ := hR.all
  have hi : ∀ w, (Instr.index 9 (.string s) (.int .i64 (a : Int))).run Tryz.prog w = .ok (.int .u8 92) w := idx_at s a 92 x1
  have ia : (a : Int) < (s.size : Int) := by omega
  have ib : decide (s.size ≤ a) = false := by simp; omega
  have HS : Hid (∀ w, Calls Tryz.prog 42 #[.int .u8 92] w fun e w' => e = .returned (.bool true) ∧ w' = w) := fun w => signed_u 92 w
  obtain ⟨y1, y2, y3⟩ := drop_cons _ _ _ _ x2
  have hi2 : ∀ w, (Instr.index 9 (.string s) (.int .i64 ((a : Int) + 1))).run Tryz.prog w = .ok (.int .u8 (d.toNat : Int)) w := idx_at s (a + 1) d y1
  have ic : (a : Int) + 1 < (s.size : Int) := by omega
  have hw := u8_i64 d
  have HS2 : Hid _ := signed_u d
  rw [decide_eq_true h3] at HS2
  have HX : Hid _ := And.intro y2 hR
  clear hd hR x1 x2 x3 y1 y2 y3 h3
  go_enter Tryz.func56, Tryz.ntmps56
  go_wp2_with fail
  go_quiet (fail)
  go_wp2_with fail
  go_quiet (fail)
  go_wp2_with fail
  refine Calls.mono (HS.out _) ?_
  rintro e w1 ⟨rfl, rfl⟩
  go_wp2_with fail
  go_quiet (fail)
  go_wp2_with fail
  go_quiet (fail)
  go_wp2_with fail
  refine Calls.mono (HS2.out _) ?_
  rintro e w1 ⟨rfl, rfl⟩
  go_wp2
  go_ret
  exact ⟨rfl, ⟨a + 1 + 1, by omega, HX.out.1, RdB.setAt (HX.out.2.dr _) _⟩, gr_dr' (grown_at _ _ _ _)⟩
set_option maxHeartbeats 2000000 in
theorem one_escN (g : Nat) (s : ByteArray) (d : UInt8) (r : List UInt8) (w : World) (h : At w g s (92 :: d :: r)) (hs : s.size ≤ 1000) (h3 : d ∉ signL) (h4 : d ≠ 120) :
    Calls Tryz.prog 56 #[.pointer (some ⟨g, 0, none⟩)] w fun e w' => e = .returned (.int .i64 (0)) ∧ Bad w' g s (r.length + 2) 0 ∧ w.grownBy w' (some g) := by
  obtain ⟨a, ha, hd, hR⟩ := h
  obtain ⟨x1, x2, x3⟩ := drop_cons _ _ _ _ hd
  simp at ha
  obtain ⟨c0, c1, c2, f1, f2⟩ := hR.all
  have hi : ∀ w, (Instr.index 9 (.string s) (.int .i64 (a : Int))).run Tryz.prog w = .ok (.int .u8 92) w := idx_at s a 92 x1
  have ia : (a : Int) < (s.size : Int) := by omega
  have ib : decide (s.size ≤ a) = false := by simp; omega
  have HS : Hid (∀ w, Calls Tryz.prog 42 #[.int .u8 92] w fun e w' => e = .returned (.bool true) ∧ w' = w) := fun w => signed_u 92 w
  obtain ⟨y1, y2, y3⟩ := drop_cons _ _ _ _ x2
  have hi2 : ∀ w, (Instr.index 9 (.string s) (.int .i64 ((a : Int) + 1))).run Tryz.prog w = .ok (.int .u8 (d.toNat : Int)) w := idx_at s (a + 1) d y1
  have ic : (a : Int) + 1 < (s.size : Int) := by omega
  have hw := u8_i64 d
  have HS2 : Hid _ := signed_u d
  rw [decide_eq_false h3] at HS2
  have hn : ((d.toNat : Int) != 120) = true := by
    rw [bne_iff_ne]
    intro e
    exact h4 (UInt8.toNat_inj.1 (by show d.toNat = 120; omega))
  have HF : Hid (∀ n, _) := fun n => fail_first g s (a : Int) (-1) (a : Int) (w.drewN n) (hR.dr n) (by omega)
  clear hd hR x1 x2 x3 y1 y2 y3 h3 h4
  go_enter Tryz.func56, Tryz.ntmps56
  go_wp2_with fail
  go_quiet (fail)
  go_wp2_with fail
  go_quiet (fail)
  go_wp2_with fail
  refine Calls.mono (HS.out _) ?_
  rintro e w1 ⟨rfl, rfl⟩
  go_wp2_with fail
  go_quiet (fail)
  go_wp2_with fail
  go_quiet (fail)
  go_wp2_with fail
  refine Calls.mono (HS2.out _) ?_
  rintro e w1 ⟨rfl, rfl⟩
  go_wp2_with fail
  refine Calls.mono (HF.out _) ?_
  rintro e w1 ⟨rfl, hR1, hg1⟩
  have R1 : Hid _ := hR1
  clear hR1
  go_wp2
  go_ret
  exact ⟨rfl, ⟨a, a, by omega, by omega, R1.out⟩, gr_dr' hg1⟩
end Go.Proofs.YtmdfdlljeggbbaaGreatDoor
namespace Go.Proofs.YtmdfdlljeggbbaaGreatDoor
set_option linter.unusedSimpArgs false
set_option linter.unusedVariables false
set_option maxRecDepth 100000
open Go.RowKit

theorem hexI_some {c : UInt8} {a : Nat} (h : hx c = some a) : hexI c = (a : Int) := by unfold hexI; rw [h]
theorem hexI_none {c : UInt8} (h : hx c = none) : hexI c = -1 := by unfold hexI; rw [h]
/-- So many digits are read. -/
def HexPre (r : List UInt8) (j n : Nat) : Prop := (j = 0 ∧ n = 0) ∨ (j = 1 ∧ ∃ x r3, r = x :: r3 ∧ hx x = some n) ∨ (j = 2 ∧ ∃ x y r4 p q, r = x :: y :: r4 ∧ hx x = some p ∧ hx y = some q ∧ n = p * 16 + q)
theorem HexPre.two {r : List UInt8} {n : Nat} (h : HexPre r 2 n) : ∃ x y r4 p q, r = x :: y :: r4 ∧ hx x = some p ∧ hx y = some q ∧ n = p * 16 + q := by
  rcases h with h | h | h
  · omega
  · omega
  · exact h.2
theorem HexPre.le {r : List UInt8} {j n : Nat} (h : HexPre r j n) : j ≤ 2 := by
  rcases h with h | h | h <;> omega
/-- What comes next: the text ends; or a digit, or none. -/
theorem HexPre.next {r : List UInt8} {j n : Nat} (h : HexPre r j n) (hj : j ≠ 2) : ∃ t, r.drop j = t ∧ ((t = [] ∧ rdHex (r.length + 2) r = .error 0) ∨ (∃ x u, t = x :: u ∧ ((hx x = none ∧ rdHex (r.length + 2) r = .error (r.length + 2)) ∨ (∃ p, hx x = some p ∧ HexPre r (j + 1) (n * 16 + p) ∧ n * 16 + p < 256)))) := by
  refine ⟨_, rfl, ?_⟩
  rcases h with ⟨rfl, rfl⟩ | ⟨rfl, x, r3, rfl, hx1⟩ | ⟨rfl, _⟩
  · cases r with
    | nil => exact Or.inl ⟨rfl, rfl⟩
    | cons x r3 =>
      refine Or.inr ⟨x, r3, rfl, ?_⟩
      cases hx1 : hx x with
      | none =>
        refine Or.inl ⟨rfl, ?_⟩
        cases r3 with
        | nil => simp [rdHex, hx1]
        | cons y r4 => simp only [rdHex, hx1]
      | some p =>
        have := hx_lt _ _ hx1
        exact Or.inr ⟨p, rfl, Or.inr (Or.inl ⟨rfl, x, r3, rfl, by rw [hx1]; simp⟩), by omega⟩
  · have h16 := hx_lt _ _ hx1
    cases r3 with
    | nil => exact Or.inl ⟨rfl, by simp [rdHex, hx1]⟩
    | cons y r4 =>
      refine Or.inr ⟨y, r4, rfl, ?_⟩
      cases hx2 : hx y with
      | none => exact Or.inl ⟨rfl, by simp only [rdHex, hx1, hx2]⟩
      | some p =>
        have := hx_lt _ _ hx2
        exact Or.inr ⟨p, rfl, Or.inr (Or.inr ⟨rfl, x, y, r4, n, p, rfl, hx1, hx2, rfl⟩), by omega⟩
  · exact absurd rfl hj
set_option maxHeartbeats 2000000 in
theorem one_hex (g : Nat) (s : ByteArray) (r : List UInt8) (w : World) (h : At w g s (92 :: 120 :: r)) (hs : s.size ≤ 1000) :
    Calls Tryz.prog 56 #[.pointer (some ⟨g, 0, none⟩)] w fun e w' => w.grownBy w' (some g) ∧ ((∃ v r', rdHex (r.length + 2) r = .ok (v, r') ∧ e = .returned (.int .i64 ((v : Nat) : Int)) ∧ At w' g s r') ∨ (∃ k, rdHex (r.length + 2) r = .error k ∧ e = .returned (.int .i64 0) ∧ Bad w' g s k 0)) := by
  obtain ⟨a, ha, hd, hR⟩ := h
  obtain ⟨x1, x2, x3⟩ := drop_cons _ _ _ _ hd
  simp at ha
  obtain ⟨c0, c1, c2, f1, f2⟩ := hR.all
  have hi : ∀ w, (Instr.index 9 (.string s) (.int .i64 (a : Int))).run Tryz.prog w = .ok (.int .u8 92) w := idx_at s a 92 x1
  have ia : (a : Int) < (s.size : Int) := by omega
  have ib : decide (s.size ≤ a) = false := by simp; omega
  have HS : Hid (∀ w, Calls Tryz.prog 42 #[.int .u8 92] w fun e w' => e = .returned (.bool true) ∧ w' = w) := fun w => signed_u 92 w
  obtain ⟨y1, y2, y3⟩ := drop_cons _ _ _ _ x2
  have hi2 : ∀ w, (Instr.index 9 (.string s) (.int .i64 ((a : Int) + 1))).run Tryz.prog w = .ok (.int .u8 120) w := idx_at s (a + 1) 120 y1
  have ic : (a : Int) + 1 < (s.size : Int) := by omega
  have HS2 : Hid (∀ w, Calls Tryz.prog 42 #[.int .u8 120] w fun e w' => e = .returned (.bool false) ∧ w' = w) := fun w => signed_u 120 w
  have HF : Hid (∀ n z, _) := fun n z => fail_first g s (a : Int) (-1) z (w.drewN n) (hR.dr n) (by omega)
  have HR : Hid _ := hR
  have HD : Hid _ := y2
  clear hd x1 x2 x3 y1 y3 y2 hR
  go_enter Tryz.func56, Tryz.ntmps56
  go_wp2_with fail
  go_quiet (fail)
  go_wp2_with fail
  go_quiet (fail)
  go_wp2_with fail
  refine Calls.mono (HS.out _) ?_
  rintro e w1 ⟨rfl, rfl⟩
  go_wp2_with fail
  go_quiet (fail)
  go_wp2_with fail
  go_quiet (fail)
  go_wp2_with fail
  refine Calls.mono (HS2.out _) ?_
  rintro e w1 ⟨rfl, rfl⟩
  go_wp2_with fail
  go_loopw [7, 8] (fun u v wr => ∃ (j n q : Nat), u = .int .i64 n ∧ v = .int .i64 ((j : Int) + 2) ∧ wr = w.drewN q ∧ n < 256 ∧ Hid (HexPre r j n)) (fun _ v _ => 4 - (intOf v).toNat)
  case atStart => exact ⟨0, 0, _, rfl, rfl, rfl, by omega, Or.inl ⟨rfl, rfl⟩⟩
  case round =>
    obtain ⟨j, n, q, rfl, rfl, rfl, hn, HP⟩ := hrel
    by_cases h2 : j = 2
    · subst h2
      obtain ⟨x, y, r4, p, p', rfl, hx1, hx2, rfl⟩ := HexPre.two HP.out
      have HE : Hid (rdHex ((x :: y :: r4).length + 2) (x :: y :: r4) = .ok (p * 16 + p', r4)) := by show _ = _; simp only [rdHex, hx1, hx2]
      have HD2 : Hid (s.data.toList.drop (a + 1 + 1 + 1 + 1) = r4) := by
        have := HD.out
        obtain ⟨_, z2, _⟩ := drop_cons _ _ _ _ this
        exact (drop_cons _ _ _ _ z2).2.1
      simp at ha
      clear hx1 hx2 HP
      go_wp2
      go_ret
      exact ⟨gr_dr' (grown_at _ _ _ _), Or.inl ⟨_, _, HE.out, rfl, ⟨a + 1 + 1 + 1 + 1, by omega, HD2.out, RdB.setAt (RdB.dr HR.out _) _⟩⟩⟩
    · have hj := HexPre.le HP.out
      obtain ⟨t, ht, hcase⟩ := HexPre.next HP.out h2
      have hj2 : j < 2 := by omega
      rcases hcase with ⟨rfl, he⟩ | ⟨x, u, rfl, hcase⟩
      · have hrl := drop_nil' _ _ ht
        have id : ¬ (a : Int) + ((j : Int) + 2) < (s.size : Int) := by omega
        have HE : Hid _ := he
        clear he ht HP
        go_wp2_with fail
        go_quiet (fail)
        go_wp2_with fail
        refine Calls.mono (HF.out _ _) ?_
        rintro e w1 ⟨rfl, hR1, hg1⟩
        have R1 : Hid _ := hR1
        clear hR1
        go_wp2
        go_ret
        exact ⟨gr_dr' hg1, Or.inr ⟨0, HE.out, rfl, ⟨a, s.size, by omega, by omega, R1.out⟩⟩⟩
      · have hgx : s.data.toList[a + (j + 2)]? = some x := by
          have h1 := HD.out
          have h3 : (s.data.toList.drop (a + 1 + 1)).drop j = x :: u := by rw [h1]; exact ht
          rw [List.drop_drop] at h3
          have := (drop_cons _ _ _ _ h3).1
          rwa [show a + 1 + 1 + j = a + (j + 2) from by omega] at this
        have hrl : j < r.length := by
          rcases Nat.lt_or_ge j r.length with h' | h'
          · exact h'
          · rw [List.drop_eq_nil_of_le h'] at ht; cases ht
        have id : (a : Int) + ((j : Int) + 2) < (s.size : Int) := by omega
        have hix : ∀ w, (Instr.index 9 (.string s) (.int .i64 ((a : Int) + ((j : Int) + 2)))).run Tryz.prog w = .ok (.int .u8 (x.toNat : Int)) w := by
          have := idx_at s (a + (j + 2)) x hgx
          rw [show ((a + (j + 2) : Nat) : Int) = (a : Int) + ((j : Int) + 2) from by omega] at this
          exact this
        have hwr : IntKind.i64.wrap ((a : Int) + ((j : Int) + 2)) = (a : Int) + ((j : Int) + 2) := by rw [IntKind.wrap_i64]; omega
        have HH : Hid _ := hex_any x
        rcases hcase with ⟨h5, he⟩ | ⟨p, h5, hp, hp2⟩
        · rw [hexI_none h5] at HH
          have HE : Hid _ := he
          clear he ht HP h5 hgx
          go_wp2_with fail
          go_quiet (fail)
          go_wp2_with fail
          go_quiet (exact Calls.mono (HH.out _) fun _ _ h => ⟨h.1, _, h.2⟩)
          go_wp2_with fail
          refine Calls.mono (HF.out _ _) ?_
          rintro e w1 ⟨rfl, hR1, hg1⟩
          have R1 : Hid _ := hR1
          clear hR1
          go_wp2
          go_ret
          exact ⟨gr_dr' hg1, Or.inr ⟨r.length + 2, HE.out, rfl, ⟨a, a, by omega, by omega, R1.out⟩⟩⟩
        · rw [hexI_some h5] at HH
          have HP2 : Hid _ := hp
          have h16 := hx_lt _ _ h5
          clear ht HP h5 hgx hp
          go_wp2_with fail
          go_quiet (fail)
          go_wp2_with fail
          go_quiet (exact Calls.mono (HH.out _) fun _ _ h => ⟨h.1, _, h.2⟩)
          go_wp2
          exact ⟨⟨j + 1, n * 16 + p, _, by go_num, by go_num, rfl, by omega, HP2⟩, by simp [intOf]; omega⟩
theorem one_hex_ok (g : Nat) (s : ByteArray) (r : List UInt8) (w : World) (h : At w g s (92 :: 120 :: r)) (hs : s.size ≤ 1000) (v : Nat) (r' : List UInt8) (he : rdHex (r.length + 2) r = .ok (v, r')) :
    Calls Tryz.prog 56 #[.pointer (some ⟨g, 0, none⟩)] w fun e w' => e = .returned (.int .i64 ((v : Nat) : Int)) ∧ At w' g s r' ∧ w.grownBy w' (some g) := by
  refine (one_hex g s r w h hs).mono ?_
  rintro e w' ⟨hg, ⟨v', r'', h1, h2, h3⟩ | ⟨k, h1, _⟩⟩
  · rw [he] at h1
    injection h1 with h1
    injection h1 with h4 h5
    subst h4; subst h5
    exact ⟨h2, h3, hg⟩
  · rw [he] at h1; cases h1
theorem one_hex_bad (g : Nat) (s : ByteArray) (r : List UInt8) (w : World) (h : At w g s (92 :: 120 :: r)) (hs : s.size ≤ 1000) (k : Nat) (he : rdHex (r.length + 2) r = .error k) :
    Calls Tryz.prog 56 #[.pointer (some ⟨g, 0, none⟩)] w fun e w' => e = .returned (.int .i64 0) ∧ Bad w' g s k 0 ∧ w.grownBy w' (some g) := by
  refine (one_hex g s r w h hs).mono ?_
  rintro e w' ⟨hg, ⟨v', r'', h1, h2, h3⟩ | ⟨k', h1, h2, h3⟩⟩
  · rw [he] at h1; cases h1
  · rw [he] at h1
    injection h1 with h1
    subst h1
    exact ⟨h2, h3, hg⟩
/-- A byte is read. -/
theorem one_ok (g : Nat) (s : ByteArray) (l : List UInt8) (w : World) (h : At w g s l) (hs : s.size ≤ 1000) (v : Nat) (r : List UInt8) (he : rd1 l = .ok (v, r)) :
    Calls Tryz.prog 56 #[.pointer (some ⟨g, 0, none⟩)] w fun e w' => e = .returned (.int .i64 ((v : Nat) : Int)) ∧ At w' g s r ∧ w.grownBy w' (some g) := by
  cases l with
  | nil => simp [rd1] at he
  | cons c l =>
    rw [rd1] at he
    split at he
    · rename_i hc
      subst hc
      cases l with
      | nil => simp [rdEsc] at he
      | cons d l =>
        rw [rdEsc] at he
        split at he
        · rename_i h3
          injection he with he
          injection he with h4 h5
          subst h4; subst h5
          exact one_escS g s d l w h hs h3
        · split at he
          · rename_i h4
            subst h4
            exact one_hex_ok g s l w h hs v r he
          · cases he
    · rename_i hc
      split at he
      · cases he
      · rename_i h3
        injection he with he
        injection he with h4 h5
        subst h4; subst h5
        exact one_plain g s c l w h hs hc (by omega) (by omega) (fun h => h3 (Or.inr (Or.inr h)))
/-- None can be. -/
theorem one_bad (g : Nat) (s : ByteArray) (l : List UInt8) (w : World) (h : At w g s l) (hs : s.size ≤ 1000) (k : Nat) (he : rd1 l = .error k) :
    Calls Tryz.prog 56 #[.pointer (some ⟨g, 0, none⟩)] w fun e w' => ∃ v : Nat, v < 256 ∧ e = .returned (.int .i64 ((v : Nat) : Int)) ∧ Bad w' g s k 0 ∧ w.grownBy w' (some g) := by
  cases l with
  | nil =>
    simp [rd1] at he
    subst he
    exact (one_nil g s w h hs).mono fun e w' h => ⟨0, by omega, h⟩
  | cons c l =>
    rw [rd1] at he
    split at he
    · rename_i hc
      subst hc
      cases l with
      | nil =>
        simp [rdEsc] at he
        subst he
        exact (one_esc0 g s w h hs).mono fun e w' h => ⟨0, by omega, h⟩
      | cons d l =>
        rw [rdEsc] at he
        split at he
        · cases he
        · rename_i h3
          split at he
          · rename_i h4
            subst h4
            exact (one_hex_bad g s l w h hs k he).mono fun e w' h => ⟨0, by omega, h⟩
          · rename_i h4
            injection he with he
            subst he
            exact (one_escN g s d l w h hs h3 h4).mono fun e w' h => ⟨0, by omega, h⟩
    · rename_i hc
      split at he
      · rename_i h3
        injection he with he
        subst he
        exact (one_not g s c l w h hs hc h3).mono fun e w' h => ⟨c.toNat, c.toNat_lt, h⟩
      · cases he
end Go.Proofs.YtmdfdlljeggbbaaGreatDoor
