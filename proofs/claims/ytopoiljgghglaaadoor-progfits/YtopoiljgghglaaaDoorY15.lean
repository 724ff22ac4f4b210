/- The landed sim: taken. What a loop's body, or a closure, leaves as it lay: all but one box, the row that the box names, and some blocks. The landed sim: what the closure that goes all ways at a place has in memory. -/
import Derived.Test.YtopoiljgghglaaaDoorY14
import Derived.Test.YtopoiljgghglaaaDoorY12
import Derived.Test.YtopoiljgghglaaaDoorY10
import Derived.RangeFuncBox
import Derived.RangeFuncWrites
import Derived.RangeFuncFrom
import Derived.Laws.EntriesVeiled
namespace Go.Proofs.YtopoiljgghglaaaDoor
set_option linter.unusedSimpArgs false
set_option linter.unusedVariables false
set_option maxRecDepth 100000
open Go.RowKit
/-- b' is where the first i of F go on. -/
def TkI (ss : List St) (s : List UInt8) (a : Nat) (F : List Nat) (i : Nat) (b' : List Nat) : Prop := b'.length ≤ i ∧ (∀ x ∈ b', x < ss.length) ∧ ∀ k', k' ∈ b' ↔ ∃ k ∈ F.take i, Stp ss s k a k' (a + 1)
theorem stp_take {ss : List St} {s : List UInt8} {a x k' : Nat} {n : St} (hn : ss[x]? = some n) : Stp ss s x a k' (a + 1) ↔ n.op = 1 ∧ k' = n.x.toNat ∧ ∃ c, s[a]? = some c ∧ n.c.has c.toNat = true := by
  constructor
  · rintro ⟨n', hn', h⟩
    rw [hn] at hn'
    obtain rfl := Option.some.inj hn'
    rcases h with ⟨h1, h2, _, h3⟩ | ⟨_, _, h⟩ | ⟨_, _, h, _⟩ | ⟨_, _, h, _⟩
    · exact ⟨h1, h2, h3⟩
    · omega
    · omega
    · omega
  · rintro ⟨h1, h2, h3⟩
    exact ⟨n, hn, Or.inl ⟨h1, h2, rfl, h3⟩⟩
theorem TkI.no {ss : List St} {s : List UInt8} {a i x : Nat} {F b' : List Nat} {n : St} (h : TkI ss s a F i b') (hx : F[i]? = some x) (hn : ss[x]? = some n) (hno : ¬ (n.op = 1 ∧ ∃ c, s[a]? = some c ∧ n.c.has c.toNat = true)) : TkI ss s a F (i + 1) b' := by
  refine ⟨by have := h.1; omega, h.2.1, fun k' => (h.2.2 k').trans ?_⟩
  rw [List.take_add_one, hx]
  constructor
  · rintro ⟨k, hk, h1⟩
    exact ⟨k, by simp [hk], h1⟩
  · rintro ⟨k, hk, h1⟩
    rcases List.mem_append.1 hk with hk | hk
    · exact ⟨k, hk, h1⟩
    · simp at hk
      subst hk
      obtain ⟨h2, _, h3⟩ := (stp_take hn).1 h1
      exact absurd ⟨h2, h3⟩ hno
theorem TkI.yes {ss : List St} {s : List UInt8} {a i x y : Nat} {F b' : List Nat} {n : St} (h : TkI ss s a F i b') (hx : F[i]? = some x) (hn : ss[x]? = some n) (hop : n.op = 1) (hc : ∃ c, s[a]? = some c ∧ n.c.has c.toNat = true) (hy : n.x = (y : Int)) (hyl : y < ss.length) : TkI ss s a F (i + 1) (b' ++ [y]) := by
  refine ⟨by have := h.1; simp; omega, ?_, fun k' => ?_⟩
  · intro z hz
    rcases List.mem_append.1 hz with hz | hz
    · exact h.2.1 z hz
    · rw [List.mem_singleton.1 hz]; exact hyl
  · have ey : n.x.toNat = y := by omega
    rw [List.mem_append, h.2.2 k', List.take_add_one, hx, List.mem_singleton]
    constructor
    · rintro (⟨k, hk, h1⟩ | rfl)
      · exact ⟨k, by simp [hk], h1⟩
      · exact ⟨x, by simp, (stp_take hn).2 ⟨hop, ey.symm, hc⟩⟩
    · rintro ⟨k, hk, h1⟩
      rcases List.mem_append.1 hk with hk | hk
      · exact Or.inl ⟨k, hk, h1⟩
      · simp at hk
        subst hk
        exact Or.inr (((stp_take hn).1 h1).2.1.trans ey)
/-- What taken answers. -/
def TkP (ss : List St) (s : List UInt8) (a : Nat) (F : List Nat) (w : World) (e : Ending) (w' : World) : Prop := ∃ u b', e = .returned u ∧ IsIn w' u b' ∧ Tkn ss s a F b' ∧ b'.length ≤ F.length ∧ (∀ x ∈ b', x < ss.length) ∧ Below w.heap.size w w'
/-- Between two rounds. -/
def TkR (ss : List St) (s : List UInt8) (a : Nat) (F : List Nat) (w1 : World) (i : Nat) (u : Value) (wr : World) : Prop := ∃ b', IsOwn wr w1.heap.size u b' ∧ TkI ss s a F i b' ∧ Below w1.heap.size w1 wr
theorem TkR.form {ss : List St} {s : List UInt8} {a : Nat} {F : List Nat} {w1 : World} {i : Nat} {u : Value} {wr : World} (h : TkR ss s a F w1 i u wr) : ∃ x l c, u = .slice x l c := by
  obtain ⟨b', h1, _⟩ := h
  obtain ⟨x, c, e⟩ := h1.form
  exact ⟨x, _, c, e⟩
theorem TkR.no {ss : List St} {s : List UInt8} {a : Nat} {F : List Nat} {w1 : World} {i x : Nat} {u : Value} {wr w' : World} {n : St} (h : TkR ss s a F w1 i u wr) (hb : Below wr.heap.size wr w') (hx : F[i]? = some x) (hn : ss[x]? = some n) (hno : ¬ (n.op = 1 ∧ ∃ c, s[a]? = some c ∧ n.c.has c.toNat = true)) : TkR ss s a F w1 (i + 1) u w' := by
  obtain ⟨b', h1, h2, h3⟩ := h
  exact ⟨b', h1.kept hb, h2.no hx hn hno, h3.trans (hb.mono h3.size)⟩
set_option maxHeartbeats 8000000 in
theorem taken_any (ss : List St) (b off cap : Nat) (hf : stepsF ss = 0) (hok : SsOk ss) (s : ByteArray) (hs : s.size ≤ 400) (F : List Nat) (hF : ∀ x ∈ F, x < ss.length) (g o c a : Nat) (ha : a ≤ 401) (hlen : F.length ≤ 200) (w : World) (hlt : b < w.heap.size) (hN : SsAt w b off ss) (hg : g < w.heap.size) (hI : IsAt w g o F) :
    Calls Tryd.prog 40 #[rnV (.slice (some ⟨b, off, none⟩) ss.length cap) s, .slice (some ⟨g, o, none⟩) F.length c, .int .i64 (a : Int)] w (TkP ss s.data.toList a F w) := by
  obtain ⟨h200, hpos, hst⟩ := stepsF_zero hf
  obtain ⟨ob, hob⟩ : ∃ ob : Obj, ob = .cells #[.slice (some ⟨b, off, none⟩) ss.length cap, .string s] 60 := ⟨_, rfl⟩
  have hB0 : Below w.heap.size w (w.alloc ob) := (Below.refl _ _).alloc (Nat.le_refl _) _
  have HR : Hid (∀ w', Below (w.alloc ob).heap.size (w.alloc ob) w' → w'.cell? ⟨w.heap.size, 0, none⟩ = some (.slice (some ⟨b, off, none⟩) ss.length cap) ∧ w'.cell? ⟨w.heap.size, 1, none⟩ = some (.string s)) := by
    intro w' hb
    exact ⟨(hb.cell (p := ⟨w.heap.size, 0, none⟩) (by simp)).trans (by rw [hob]; simp), (hb.cell (p := ⟨w.heap.size, 1, none⟩) (by simp)).trans (by rw [hob]; simp)⟩
  have HN := hid (hN.below hB0 hlt)
  have HI := hid (hI.below hB0 hg)
  have HF := hid hF
  have HST := hid hst
  have HOK := hid hok
  clear hN hI hF hst hok hf
  go_enter Tryd.func40, Tryd.ntmps40
  go_wp2_with fail
  rw [← hob]
  clear hob
  go_loopw [13, 7] (fun v u wr => ∃ i : Nat, i ≤ F.length ∧ v = .int .i64 i ∧ Hid (TkR ss s.data.toList a F (w.alloc ob) i u wr)) (fun v _ _ => F.length - (intOf v).toNat)
  case atStart => exact ⟨0, by omega, rfl, ⟨[], IsOwn.nil _ _, ⟨by simp, by simp, by simp⟩, Below.refl _ _⟩⟩
  case round =>
    obtain ⟨i, hi, rfl, HT⟩ := hrel
    obtain ⟨ua, ul, uc, rfl⟩ := HT.out.form
    have HBr : Hid (Below (w.alloc ob).heap.size (w.alloc ob) wr) := by obtain ⟨_, _, _, h⟩ := HT.out; exact h
    by_cases hil : i < F.length
    · obtain ⟨x, hx⟩ : ∃ x, F[i]? = some x := ⟨F[i], List.getElem?_eq_getElem hil⟩
      have hxF : x ∈ F := List.mem_of_getElem? hx
      have hxl := HF.out x hxF
      obtain ⟨n, hn⟩ : ∃ n, ss[x]? = some n := ⟨ss[x], List.getElem?_eq_getElem hxl⟩
      have hnS : n ∈ ss := List.mem_of_getElem? hn
      have ci := (HBr.out.cell (p := ⟨g, _, none⟩) (by simp; omega)).trans (HI.out i x hx)
      obtain ⟨c0, c1, c2, c3, c4, c5, c6⟩ := HN.out.below HBr.out (by simp; omega) x n hn
      obtain ⟨r0, r1⟩ := HR.out wr HBr.out
      have g1 : (i : Int) < (F.length : Int) := by omega
      have g2 : (x : Int) < (ss.length : Int) := by omega
      have HXN : Hid (F[i]? = some x ∧ ss[x]? = some n) := ⟨hx, hn⟩
      have HRG := hid (HST.out n hnS).1
      have HKO := hid (HOK.out n hnS)
      obtain ⟨od, hod⟩ : ∃ od : Obj, od = .cells #[.int .i64 n.op, .int .u64 n.c.a, .int .u64 n.c.b, .int .u64 n.c.c, .int .u64 n.c.d, .int .i64 n.x, .int .i64 n.y] 54 := ⟨_, rfl⟩
      have HB2 : Hid (Below wr.heap.size wr (wr.alloc od)) := (Below.refl _ _).alloc (Nat.le_refl _) _
      have RC : Hid ((∀ d os, (Go.Sort.grow (redrawn (wr.alloc od) d) os).cell? ⟨wr.heap.size, 0, none⟩ = some (.int .i64 n.op)) ∧ (∀ d os, (Go.Sort.grow (redrawn (wr.alloc od) d) os).cell? ⟨wr.heap.size, 1, none⟩ = some (.int .u64 n.c.a)) ∧ (∀ d os, (Go.Sort.grow (redrawn (wr.alloc od) d) os).cell? ⟨wr.heap.size, 2, none⟩ = some (.int .u64 n.c.b)) ∧ (∀ d os, (Go.Sort.grow (redrawn (wr.alloc od) d) os).cell? ⟨wr.heap.size, 3, none⟩ = some (.int .u64 n.c.c)) ∧ (∀ d os, (Go.Sort.grow (redrawn (wr.alloc od) d) os).cell? ⟨wr.heap.size, 4, none⟩ = some (.int .u64 n.c.d)) ∧ (∀ d os, (Go.Sort.grow (redrawn (wr.alloc od) d) os).cell? ⟨wr.heap.size, 5, none⟩ = some (.int .i64 n.x)) ∧ (∀ d os, (Go.Sort.grow (redrawn (wr.alloc od) d) os).cell? ⟨w.heap.size, 0, none⟩ = some (.slice (some ⟨b, off, none⟩) ss.length cap)) ∧ (∀ d os, (Go.Sort.grow (redrawn (wr.alloc od) d) os).cell? ⟨w.heap.size, 1, none⟩ = some (.string s))) := by
        have h2 := HR.out (wr.alloc od) (HBr.out.trans (HB2.out.mono HBr.out.size))
        refine ⟨?_, ?_, ?_, ?_, ?_, ?_, cell_regrown h2.1, cell_regrown h2.2⟩ <;> exact cell_regrown (by rw [hod]; simp)
      clear hx hn hnS hxF
      go_wp2_with fail
      rw [← hod]
      clear hod c0 c1 c2 c3 c4 c5 c6 r0 r1 ci
      obtain ⟨r0, r1, r2, r3, r4, r5, r6, r7⟩ := RC.out
      by_cases h1 : n.op = 1
      · rw [h1] at r0
        by_cases hal : a < s.size
        · have a0 : (0 : Int) ≤ (a : Int) := by omega
          have a1 : (a : Int) < (s.size : Int) := by omega
          have g3 : decide ((a : Int) < (s.size : Int)) = true := by simp; omega
          have g4 : decide (a < s.size) = true := by simp; omega
          have hsa : s.data.toList[a]? = some s[a] := by
            rw [List.getElem?_eq_getElem (by simpa using hal)]; rfl
          have hlb : (s[a].toNat : Int) < 256 := by have := s[a].toNat_lt; omega
          have CH := hid (fun W => has_any n.c (s[a].toNat : Int) W (by omega) hlb)
          rw [C4.hasI_eq n.c HKO.out] at CH
          cases hy : n.c.has s[a].toNat with
          | false =>
            rw [hy] at CH
            have HNO : Hid (∀ w', Below wr.heap.size wr w' → TkR ss s.data.toList a F (w.alloc ob) (i + 1) (.slice ua ul uc) w') := fun w' hb => HT.out.no hb HXN.out.1 HXN.out.2 (by
              rintro ⟨_, cc, hc, h2⟩
              rw [hsa] at hc
              obtain rfl := Option.some.inj hc
              rw [hy] at h2
              cases h2)
            clear hy hsa
            refine wp_region_quiet_below (by kernel_rfl) (by kernel_rfl) ?_
            repeat (go_big_quiet_step (first
              | (go_at_call 50; exact Calls.regrown_of (CH.out _))))
            refine wpQuiet_nil ?_
            intro _ hw'
            obtain ⟨⟨dq, osq⟩, hw''⟩ := hw'
            have B2 : Hid (Below wr.heap.size wr (Go.Sort.grow (redrawn (wr.alloc od) dq) osq)) := HB2.out.trans ((below_regrown (wr.alloc od) dq osq).mono (by simp))
            subst hw''
            generalize Go.Sort.grow (redrawn (wr.alloc od) dq) osq = W at *
            clear RC r0 r1 r2 r3 r4 r5 r6 r7 CH
            go_wp2
            exact ⟨⟨i + 1, by omega, by go_num, HNO.out _ B2.out⟩, by simp [intOf]; omega⟩
          | true =>
            rw [hy] at CH
            have hxr : ¬ (n.x < 0 ∨ (ss.length : Int) ≤ n.x) := fun h => HRG.out (Or.inr (Or.inr (Or.inl ⟨by omega, h⟩)))
            obtain ⟨y, hyx⟩ : ∃ y : Nat, n.x = (y : Int) := ⟨n.x.toNat, by omega⟩
            have HYX : Hid (n.x = (y : Int) ∧ y < ss.length) := ⟨hyx, by omega⟩
            rw [hyx] at r5
            have HYE : Hid (n.op = 1 ∧ ∃ c, s.data.toList[a]? = some c ∧ n.c.has c.toNat = true) := ⟨h1, _, hsa, hy⟩
            clear hy hsa hxr hyx h1
            refine wp_region_quiet_below (by kernel_rfl) (by kernel_rfl) ?_
            repeat (go_big_quiet_step (first
              | (go_at_call 50; exact Calls.regrown_of (CH.out _))))
            refine wpQuiet_nil ?_
            intro _ hw'
            obtain ⟨⟨dq, osq⟩, hw''⟩ := hw'
            have B2 : Hid (Below wr.heap.size wr (Go.Sort.grow (redrawn (wr.alloc od) dq) osq)) := HB2.out.trans ((below_regrown (wr.alloc od) dq osq).mono (by simp))
            subst hw''
            have q5 := r5 dq osq
            generalize Go.Sort.grow (redrawn (wr.alloc od) dq) osq = W at *
            clear RC r0 r1 r2 r3 r4 r5 r6 r7 CH
            obtain ⟨b', hO, hTI, hBB⟩ := HT.out
            obtain ⟨_, _, hfm⟩ := hO.form
            injection hfm with _ hul _
            subst hul
            have hbl : b'.length ≤ 200 := by have := hTI.1; omega
            have HO2 := hid (hO.kept B2.out)
            have HTI := hid (hTI.yes HXN.out.1 HXN.out.2 HYE.out.1 HYE.out.2 HYX.out.1 HYX.out.2)
            have HBB := hid (hBB.trans (B2.out.mono hBB.size))
            clear hO hTI hBB
            have HOA := hid (HO2.out.kept ((Below.refl _ _).alloc (Nat.le_refl _) (.cells #[.int .i64 (y : Int)] 3)))
            have HBA := hid (HBB.out.trans (((Below.refl _ _).alloc (Nat.le_refl _) (.cells #[.int .i64 (y : Int)] 3)).mono HBB.out.size))
            go_wp2_with (at_builtin; refine wpList_append_is rfl _ _ rfl (w.alloc ob).heap.size _ rfl b' HOA.out W.heap.size 1 y rfl (by rw [World.cell?_alloc_at (w := W) _ _ W.heap.size 0 rfl]; rfl) (by omega) HBA.out.size ?_; intro gg cc W2 hown hgr _ _)
            have HTR : Hid (TkR ss s.data.toList a F (w.alloc ob) (i + 1) (.slice (some ⟨gg, 0, none⟩) (b'.length + 1) cc) W2) := ⟨b' ++ [y], hown, HTI.out, HBA.out.trans (HOA.out.grown HBA.out.size hgr)⟩
            clear hown hgr HOA HO2 HT
            exact ⟨⟨i + 1, by omega, by go_num, HTR⟩, by simp [intOf]; omega⟩
        · have g3 : decide ((a : Int) < (s.size : Int)) = false := by simp; omega
          have g4 : decide (a < s.size) = false := by simp; omega
          have g5 : ¬ (a : Int) < (s.size : Int) := by omega
          have HNO : Hid (∀ w', Below wr.heap.size wr w' → TkR ss s.data.toList a F (w.alloc ob) (i + 1) (.slice ua ul uc) w') := fun w' hb => HT.out.no hb HXN.out.1 HXN.out.2 (by
            rintro ⟨_, cc, hc, _⟩
            rw [List.getElem?_eq_none (by simp; omega)] at hc
            cases hc)
          refine wp_region_quiet_below (by kernel_rfl) (by kernel_rfl) ?_
          repeat (go_big_quiet_step (fail))
          refine wpQuiet_nil ?_
          intro _ hw'
          obtain ⟨⟨dq, osq⟩, hw''⟩ := hw'
          have B2 : Hid (Below wr.heap.size wr (Go.Sort.grow (redrawn (wr.alloc od) dq) osq)) := HB2.out.trans ((below_regrown (wr.alloc od) dq osq).mono (by simp))
          subst hw''
          generalize Go.Sort.grow (redrawn (wr.alloc od) dq) osq = W at *
          clear RC r0 r1 r2 r3 r4 r5 r6 r7
          go_wp2
          exact ⟨⟨i + 1, by omega, by go_num, HNO.out _ B2.out⟩, by simp [intOf]; omega⟩
      · have e1 : (n.op == 1) = false := by rw [beq_eq_false_iff_ne]; exact h1
        have HNO : Hid (∀ w', Below wr.heap.size wr w' → TkR ss s.data.toList a F (w.alloc ob) (i + 1) (.slice ua ul uc) w') := fun w' hb => HT.out.no hb HXN.out.1 HXN.out.2 (fun h => h1 h.1)
        refine wp_region_quiet_below (by kernel_rfl) (by kernel_rfl) ?_
        repeat (go_big_quiet_step (fail))
        refine wpQuiet_nil ?_
        intro _ hw'
        obtain ⟨⟨dq, osq⟩, hw''⟩ := hw'
        have B2 : Hid (Below wr.heap.size wr (Go.Sort.grow (redrawn (wr.alloc od) dq) osq)) := HB2.out.trans ((below_regrown (wr.alloc od) dq osq).mono (by simp))
        subst hw''
        generalize Go.Sort.grow (redrawn (wr.alloc od) dq) osq = W at *
        clear RC r0 r1 r2 r3 r4 r5 r6 r7
        go_wp2
        exact ⟨⟨i + 1, by omega, by go_num, HNO.out _ B2.out⟩, by simp [intOf]; omega⟩
    · have he : i = F.length := by omega
      have g1 : ¬ (i : Int) < (F.length : Int) := by omega
      have HY : Hid (TkP ss s.data.toList a F w (.returned (.slice ua ul uc)) wr) := by
        obtain ⟨b', h1, h2, h3⟩ := HT.out
        rw [he] at h2
        refine ⟨_, b', rfl, h1.isIn (by have := h2.1; unfold maxLen; omega), fun k' => (h2.2.2 k').trans (by rw [List.take_length]), h2.1, h2.2.1, hB0.trans (h3.mono (by simp))⟩
      clear HT HBr he
      go_wp2
      go_ret
      exact HY.out
end Go.Proofs.YtopoiljgghglaaaDoor
namespace Go.Proofs.YtopoiljgghglaaaDoor
set_option linter.unusedSimpArgs false
set_option linter.unusedVariables false
set_option maxRecDepth 100000
open Go.RowKit

/-- Block k is turned: the box bf, the row that it names, or one of X. -/
def Frm (bf : Nat) (X : Nat → Prop) (W : World) (k : Nat) : Prop := k < W.heap.size ∧ (X k ∨ k = bf ∨ ∃ u, W.cell? ⟨bf, 0, none⟩ = some u ∧ u.ownBlock = some k)
/-- All other cells lie as they lay. -/
structure KpF (bf : Nat) (X : Nat → Prop) (W W' : World) : Prop where
  size : W.heap.size ≤ W'.heap.size
  same : ∀ k o, W.heap[k]? = some o → o.isCells = true → ¬ Frm bf X W k → W'.heap[k]? = some o
  row : ∀ k, Frm bf X W' k → Frm bf X W k ∨ W.heap.size ≤ k
theorem KpF.refl (bf : Nat) (X : Nat → Prop) (W : World) : KpF bf X W W := ⟨Nat.le_refl _, fun _ _ h _ _ => h, fun _ h => Or.inl h⟩
theorem heap_lt {W : World} {k : Nat} {o : Obj} (h : W.heap[k]? = some o) : k < W.heap.size := (Array.getElem?_eq_some_iff.1 h).1
theorem KpF.free {bf : Nat} {X : Nat → Prop} {W W' : World} (h : KpF bf X W W') {k : Nat} (hk : k < W.heap.size) (hn : ¬ Frm bf X W k) : ¬ Frm bf X W' k := fun hf => by
  rcases h.row k hf with h1 | h1
  · exact hn h1
  · omega
theorem KpF.trans {bf : Nat} {X : Nat → Prop} {A B C : World} (h : KpF bf X A B) (g : KpF bf X B C) : KpF bf X A C where
  size := Nat.le_trans h.size g.size
  same := fun k o hk ho hn => g.same k o (h.same k o hk ho hn) ho (h.free (heap_lt hk) hn)
  row := fun k hf => by
    rcases g.row k hf with h1 | h1
    · exact h.row k h1
    · exact Or.inr (Nat.le_trans h.size h1)
theorem cell_block {W : World} {k o : Nat} {c : Value} (h : W.cell? ⟨k, o, none⟩ = some c) : ∃ ob, W.heap[k]? = some ob ∧ ob.isCells = true := by
  unfold World.cell? at h
  split at h
  · rename_i cs t z hh
    exact ⟨_, hh, rfl⟩
  · cases h
theorem cell_of_block {W W' : World} {k : Nat} {ob : Obj} (h : W.heap[k]? = some ob) (h' : W'.heap[k]? = some ob) (o : Nat) : W'.cell? ⟨k, o, none⟩ = W.cell? ⟨k, o, none⟩ := by
  unfold World.cell?
  simp only [h, h']
theorem frozen_of_block {W W' : World} {k : Nat} {ob : Obj} (h : W.heap[k]? = some ob) (h' : W'.heap[k]? = some ob) (o : Nat) : W'.frozen? ⟨k, o, none⟩ = W.frozen? ⟨k, o, none⟩ := by
  unfold World.frozen?
  simp only [h, h']
theorem KpF.cell {bf : Nat} {X : Nat → Prop} {W W' : World} (h : KpF bf X W W') {k o : Nat} {c : Value} (hc : W.cell? ⟨k, o, none⟩ = some c) (hn : ¬ Frm bf X W k) : W'.cell? ⟨k, o, none⟩ = some c := by
  obtain ⟨ob, h1, h2⟩ := cell_block hc
  rw [cell_of_block h1 (h.same k ob h1 h2 hn), hc]
theorem cell_lt {W : World} {k o : Nat} {c : Value} (h : W.cell? ⟨k, o, none⟩ = some c) : k < W.heap.size := by
  obtain ⟨ob, h1, _⟩ := cell_block h
  exact heap_lt h1
/-- What only makes memory. -/
theorem KpF.below {bf : Nat} (X : Nat → Prop) {W W' : World} (h : Below W.heap.size W W') (hb : bf < W.heap.size) : KpF bf X W W' where
  size := h.size
  same := fun k o hk _ _ => (h.block k (heap_lt hk)).trans hk
  row := fun k hf => by
    rcases Nat.lt_or_ge k W.heap.size with hk | hk
    · refine Or.inl ⟨hk, ?_⟩
      rcases hf.2 with h1 | h1 | ⟨u, h1, h2⟩
      · exact Or.inl h1
      · exact Or.inr (Or.inl h1)
      · exact Or.inr (Or.inr ⟨u, (h.cell (p := ⟨bf, 0, none⟩) hb).symm.trans h1, h2⟩)
    · exact Or.inr hk
/-- A store into one of X. -/
theorem KpF.put {bf : Nat} {X : Nat → Prop} (W : World) (b o : Nat) (c : Value) (hX : X b) (hne : bf ≠ b) : KpF bf X W (W.setCell ⟨b, o, none⟩ c) where
  size := by simp
  same := fun k ob hk _ hn => by
    have hkb : k ≠ b := fun e => hn ⟨heap_lt hk, Or.inl (e ▸ hX)⟩
    simp [World.setCell, Array.getElem?_modify, hk, Ne.symm hkb]
  row := fun k hf => by
    refine Or.inl ⟨by simpa using hf.1, ?_⟩
    rcases hf.2 with h1 | h1 | ⟨u, h1, h2⟩
    · exact Or.inl h1
    · exact Or.inr (Or.inl h1)
    · refine Or.inr (Or.inr ⟨u, ?_, h2⟩)
      have hh : (W.setCell ⟨b, o, none⟩ c).heap[bf]? = W.heap[bf]? := by simp [World.setCell, Array.getElem?_modify, Ne.symm hne]
      unfold World.cell? at h1 ⊢
      simp only [hh] at h1
      exact h1
/-- A plain value is stored into the box. -/
theorem KpF.box {bf : Nat} {X : Nat → Prop} (W : World) (t : TypeId) (v c : Value) (hB : Boxed W bf t v) (hc : c.ownBlock = none) : KpF bf X W (W.setCell ⟨bf, 0, none⟩ c) where
  size := by simp
  same := fun k ob hk _ hn => by
    have hkb : k ≠ bf := fun e => hn ⟨heap_lt hk, Or.inr (Or.inl e)⟩
    simp [World.setCell, Array.getElem?_modify, hk, Ne.symm hkb]
  row := fun k hf => by
    refine Or.inl ⟨by simpa using hf.1, ?_⟩
    rcases hf.2 with h1 | h1 | ⟨u, h1, h2⟩
    · exact Or.inl h1
    · exact Or.inr (Or.inl h1)
    · have : (W.setCell ⟨bf, 0, none⟩ c).cell? ⟨bf, 0, none⟩ = some c := by
        simp [World.cell?, World.setCell, Array.getElem?_modify, show W.heap[bf]? = _ from hB]
      rw [this] at h1
      injection h1 with h1
      rw [← h1, hc] at h2
      cases h2
/-- append, and the box names what it made. -/
theorem KpF.grow {bf : Nat} {X : Nat → Prop} {W W1 : World} {t : TypeId} {u c : Value} (hB : Boxed W bf t u) (hg : W.grownBy W1 u.ownBlock) (hub : ∀ k, u.ownBlock = some k → k ≠ bf) (hc : ∀ k, c.ownBlock = some k → u.ownBlock = some k ∨ W.heap.size ≤ k) : KpF bf X W (W1.setCell ⟨bf, 0, none⟩ c) where
  size := by have := hg.size; simpa using this
  same := fun k ob hk _ hn => by
    have hkb : k ≠ bf := fun e => hn ⟨heap_lt hk, Or.inr (Or.inl e)⟩
    have hku : u.ownBlock ≠ some k := fun e => hn ⟨heap_lt hk, Or.inr (Or.inr ⟨u, hB.cell, e⟩)⟩
    have h1 := (hg.block k (heap_lt hk) (Ne.symm hku)).trans hk
    simp [World.setCell, Array.getElem?_modify, h1, Ne.symm hkb]
  row := fun k hf => by
    have hb1 : Boxed W1 bf t u := hB.kept hg (fun e => hub bf e.symm rfl)
    rcases Nat.lt_or_ge k W.heap.size with hk | hk
    · refine Or.inl ⟨hk, ?_⟩
      rcases hf.2 with h1 | h1 | ⟨u', h1, h2⟩
      · exact Or.inl h1
      · exact Or.inr (Or.inl h1)
      · have : (W1.setCell ⟨bf, 0, none⟩ c).cell? ⟨bf, 0, none⟩ = some c := by
          simp [World.cell?, World.setCell, Array.getElem?_modify, show W1.heap[bf]? = _ from hb1]
        rw [this] at h1
        injection h1 with h1
        rw [← h1] at h2
        rcases hc k h2 with h3 | h3
        · exact Or.inr (Or.inr ⟨u, hB.cell, h3⟩)
        · omega
    · exact Or.inr hk
/-- What the loop itself keeps. -/
theorem KpF.obj {bf : Nat} (X : Nat → Prop) (W : World) (l : Nat) (o o' : Obj) (hb : bf ≠ l) (hl : W.heap[l]? = some o) (ho : o.isCells = false) : KpF bf X W (W.putObj l o') where
  size := by simp
  same := fun k ob hk hc _ => by
    have hkl : k ≠ l := fun e => by
      rw [e, hl] at hk
      injection hk with hk
      rw [← hk, ho] at hc
      cases hc
    exact (World.putObj_heap_other hkl).trans hk
  row := fun k hf => by
    refine Or.inl ⟨by simpa using hf.1, ?_⟩
    rcases hf.2 with h1 | h1 | ⟨u, h1, h2⟩
    · exact Or.inl h1
    · exact Or.inr (Or.inl h1)
    · refine Or.inr (Or.inr ⟨u, ?_, h2⟩)
      have : (W.putObj l o').heap[bf]? = W.heap[bf]? := World.putObj_heap_other hb
      unfold World.cell? at h1 ⊢
      simp only [this] at h1
      exact h1
/-- The same, and the row is the old one or new. -/
theorem wpList_append_isr {ops : Array Oper} {rest : List Oper} {o : Oper} {a : Act} {Q : Exit → Act → World → Prop} {w : World} (hgd : o.guard = none) (s x : Operand)
    (ho : o.op = .call { callee := .builtin .append, args := #[s, x], argTypes := #[34, 34] })
    (B : Nat) (v : Value) (hs : a.eval s = v) (l : List Nat) (hown : IsOwn w B v l) (g2 c2 n : Nat) (hx : a.eval x = .slice (some ⟨g2, 0, none⟩) 1 c2)
    (hnew : w.cell? ⟨g2, 0, none⟩ = some (.int .i64 (n : Int))) (hlen : l.length ≤ 1000000000) (hbase : B ≤ w.heap.size)
    (h : ∀ g cap w', IsOwn w' B (.slice (some ⟨g, 0, none⟩) (l.length + 1) cap) (l ++ [n]) → w.grownBy w' v.ownBlock → B ≤ g → (v.ownBlock = some g ∨ w.heap.size ≤ g) → wpList Tryd.prog ops Q rest (a.put o.dst (.slice (some ⟨g, 0, none⟩) (l.length + 1) cap)) w') : wpList Tryd.prog ops Q (o :: rest) a w := by
  have hinfo : (Tryd.prog.info? 3).map (fun i => (i.zero, i.size, i.bytes)) = some (some (.int .i64 0), 1, 8) := by kernel_rfl
  obtain ⟨i0, hi, hz0, hz1, hz2⟩ := info_parts hinfo
  refine wpList_append_lies w hgd s x 34 ho B 3 i0 _ 1 8 Tryd.underlying34 hi hz0 hz1 hz2 rfl (by decide) v l.length (isCells l) hs hown ⟨g2, 0, none⟩ 1 c2 (isCells [n]) hx rfl ?_ (by simp [isCells, Value.oneCell']) (by omega) (by unfold maxLen; omega) (by omega) hbase _ rfl ?_
  · intro j u hj
    cases j with
    | zero =>
      simp [isCells] at hj
      subst hj
      rw [Addr.add_lit]
      exact hnew
    | succ j => simp [isCells] at hj
  · intro g cap w' h1 h2 h3 h4
    have e : IsOwn w' B (.slice (some ⟨g, 0, none⟩) (l.length + 1) cap) (l ++ [n]) := by
      unfold IsOwn
      simpa [isCells] using h1
    have hg : B ≤ g := by
      rcases h3 with h3 | h3
      · rcases hown.2 with ⟨hv, _⟩ | ⟨g', cap', cur, hv, hb, _⟩
        · rw [hv] at h3; cases h3
        · rw [hv] at h3
          injection h3 with h3
          simp at h3
          omega
      · omega
    exact h g cap w' e h2 hg (h3.imp id (fun e => by omega))
end Go.Proofs.YtopoiljgghglaaaDoor
namespace Go.Proofs.YtopoiljgghglaaaDoor
set_option linter.unusedSimpArgs false
set_option linter.unusedVariables false
set_option maxRecDepth 100000
open Go.RowKit
theorem zero_seen (w : World) : (zeroValue 95).run Tryd.prog w = .ok (.agg (rowB 199 fun _ => false)) w := by
  have h : (zeroValue 95).run Tryd.prog w = .ok (.agg (Array.replicate 200 (.bool false))) w := by kernel_rfl
  rw [h, rowB_new 199]
/-- A program, a text and a place, and where the closure's variables lie. -/
structure Vc where
  ss : List St
  b : Nat
  off : Nat
  cap : Nat
  s : ByteArray
  a : Nat
  B : Nat
  br : Nat
  ba : Nat
  bf : Nat
  bs : Nat
  bv : Nat
  R : Nat
/-- What they are like. -/
structure Vc.Good (c : Vc) : Prop where
  fault : stepsF c.ss = 0
  blt : c.b < c.B
  Br : c.B ≤ c.br
  Ba : c.B ≤ c.ba
  Bf : c.B ≤ c.bf
  Bs : c.B ≤ c.bs
  Bv : c.B ≤ c.bv
  Rr : c.br < c.R
  Ra : c.ba < c.R
  Rf : c.bf < c.R
  Rs : c.bs < c.R
  Rv : c.bv < c.R
  fs : c.bf ≠ c.bs
  rf : c.br ≠ c.bf
  rs : c.br ≠ c.bs
  af : c.ba ≠ c.bf
  sa : c.ba ≠ c.bs
  vf : c.bv ≠ c.bf
  vs : c.bv ≠ c.bs
  size : c.s.size ≤ 400
  place : c.a ≤ 400
/-- The closure's value. -/
abbrev Vc.v (c : Vc) : Value := .func (.func 49) #[] #[.pointer (some ⟨c.bs, 0, none⟩), .pointer (some ⟨c.bf, 0, none⟩), .pointer (some ⟨c.br, 0, none⟩), .pointer (some ⟨c.bv, 0, none⟩), .pointer (some ⟨c.ba, 0, none⟩)]
/-- In w the steps S have been come to. -/
structure Vc.At (c : Vc) (w : World) (S : List Nat) : Prop where
  steps : SsAt w c.b c.off c.ss
  r0 : w.cell? ⟨c.br, 0, none⟩ = some (.slice (some ⟨c.b, c.off, none⟩) c.ss.length c.cap)
  r1 : w.cell? ⟨c.br, 1, none⟩ = some (.string c.s)
  a0 : w.cell? ⟨c.ba, 0, none⟩ = some (.int .i64 (c.a : Int))
  v0 : w.cell? ⟨c.bv, 0, none⟩ = some c.v
  box : ∃ u, Boxed w c.bf 34 u ∧ IsOwn w c.R u S
  seen : w.heap[c.bs]? = some (.cells (rowB 199 fun j => decide (j ∈ S)) 95 (0, 0))
  sz : c.R ≤ w.heap.size
  nod : S.Nodup
  lt : ∀ x ∈ S, x < c.ss.length
theorem Vc.At.len {c : Vc} {w : World} {S : List Nat} (h : c.At w S) : S.length ≤ c.ss.length := nodup_le _ _ h.nod h.lt
/-- The frame. -/
abbrev Vc.Kp (c : Vc) (w w' : World) : Prop := KpF c.bf (fun k => k = c.bs) w w'
theorem own_base {w : World} {B : Nat} {v : Value} {l : List Nat} (h : IsOwn w B v l) (g : Nat) (e : v.ownBlock = some g) : B ≤ g ∧ g < w.heap.size := by
  rcases h.2 with ⟨hv, _⟩ | ⟨b, cap, cur, hv, hb, hh, _⟩
  · rw [hv] at e; cases e
  · rw [hv] at e
    injection e with e
    simp only at e
    subst e
    exact ⟨hb, (Array.getElem?_eq_some_iff.1 hh).1⟩
/-- What is turned. -/
theorem Vc.At.frm {c : Vc} (hc : c.Good) {w : World} {S : List Nat} (h : c.At w S) {k : Nat} (hk : Frm c.bf (fun k => k = c.bs) w k) : k = c.bs ∨ k = c.bf ∨ (c.R ≤ k ∧ k < w.heap.size) := by
  obtain ⟨h1, h2 | h2 | ⟨u, h2, h3⟩⟩ := hk
  · exact Or.inl h2
  · exact Or.inr (Or.inl h2)
  · obtain ⟨u', hb, ho⟩ := h.box
    rw [hb.cell] at h2
    obtain rfl := Option.some.inj h2
    exact Or.inr (Or.inr (own_base ho k h3))
theorem SsAt.lt {w : World} {b off : Nat} {ss : List St} (h : SsAt w b off ss) (h0 : 0 < ss.length) : b < w.heap.size := by
  obtain ⟨h1, _⟩ := h 0 ss[0] (List.getElem?_eq_getElem h0)
  exact cell_lt h1
theorem Vc.At.below {c : Vc} (hc : c.Good) {w w' : World} {S : List Nat} (h : c.At w S) (hb : Below w.heap.size w w') : c.At w' S where
  steps := h.steps.below hb (by have := h.sz; have := hc.Rr; have := hc.Br; have := hc.blt; omega)
  r0 := (hb.cell (p := ⟨c.br, 0, none⟩) (cell_lt h.r0)).trans h.r0
  r1 := (hb.cell (p := ⟨c.br, 1, none⟩) (cell_lt h.r0)).trans h.r1
  a0 := (hb.cell (p := ⟨c.ba, 0, none⟩) (cell_lt h.a0)).trans h.a0
  v0 := (hb.cell (p := ⟨c.bv, 0, none⟩) (cell_lt h.v0)).trans h.v0
  box := by
    obtain ⟨u, h1, h2⟩ := h.box
    exact ⟨u, (hb.block _ h1.lt).trans h1, h2.kept hb⟩
  seen := (hb.block _ (heap_lt h.seen)).trans h.seen
  sz := Nat.le_trans h.sz hb.size
  nod := h.nod
  lt := h.lt
/-- A block of one's own that the closure does not turn. -/
theorem Vc.At.mine {c : Vc} (hc : c.Good) {w w' : World} {S : List Nat} (h : c.At w S) (o : Obj) (hk : c.Kp (w.alloc o) w') (i : Nat) : w'.cell? ⟨w.heap.size, i, none⟩ = (w.alloc o).cell? ⟨w.heap.size, i, none⟩ ∨ o.isCells = false := by
  cases ho : o.isCells with
  | false => exact Or.inr rfl
  | true =>
    left
    have hn : ¬ Frm c.bf (fun k => k = c.bs) (w.alloc o) w.heap.size := by
      rintro ⟨h1, h2 | h2 | ⟨u, h2, h3⟩⟩
      · have := heap_lt h.seen
        omega
      · obtain ⟨u, hb, _⟩ := h.box
        have := hb.lt
        omega
      · obtain ⟨u', hb, hw⟩ := h.box
        rw [World.cell?_of_block (a := ⟨c.bf, 0, none⟩) (Below.heap_alloc w o c.bf hb.lt), hb.cell] at h2
        obtain rfl := Option.some.inj h2
        have := (own_base hw _ h3).2
        omega
    have h1 : (w.alloc o).heap[w.heap.size]? = some o := World.alloc_heap_new w o
    exact cell_of_block h1 (hk.same _ _ h1 ho hn) i
theorem rowB_snoc (S : List Nat) (k : Nat) : upd (fun j => decide (j ∈ S)) k true = fun j => decide (j ∈ S ++ [k]) := by
  funext j
  unfold upd
  by_cases h : j = k
  · subst h; simp
  · simp [h]
/-- k is entered. -/
theorem Vc.At.enter {c : Vc} (hc : c.Good) {w W3 : World} {S : List Nat} {k : Nat} {u : Value} {gg cc : Nat} (h : c.At w S) (hk : ¬ k ∈ S) (hkl : k < c.ss.length) (hu : Boxed w c.bf 34 u) (ho : IsOwn w c.R u S) (o : Obj)
    (hgr : ((w.setCell ⟨c.bs, k, none⟩ (.bool true)).alloc o).grownBy W3 u.ownBlock) (hown : IsOwn W3 c.R (.slice (some ⟨gg, 0, none⟩) (S.length + 1) cc) (S ++ [k])) (hrow : u.ownBlock = some gg ∨ w.heap.size + 1 ≤ gg) :
    c.At (W3.setCell ⟨c.bf, 0, none⟩ (.slice (some ⟨gg, 0, none⟩) (S.length + 1) cc)) (S ++ [k]) ∧ c.Kp w (W3.setCell ⟨c.bf, 0, none⟩ (.slice (some ⟨gg, 0, none⟩) (S.length + 1) cc)) ∧ Below c.B w (W3.setCell ⟨c.bf, 0, none⟩ (.slice (some ⟨gg, 0, none⟩) (S.length + 1) cc)) := by
  obtain ⟨h200, hpos, _⟩ := stepsF_zero hc.fault
  have hur : ∀ g, u.ownBlock = some g → c.R ≤ g ∧ g < w.heap.size := fun g e => own_base ho g e
  have hsz := h.sz
  have g1 : w.grownBy (w.setCell ⟨c.bs, k, none⟩ (.bool true)) (some c.bs) := ⟨rfl, rfl, rfl, by simp, fun j hj hn => by
    have : c.bs ≠ j := fun e => hn (by rw [e])
    simp [World.setCell, Array.getElem?_modify, this]⟩
  have hgg : c.R ≤ gg := (own_base hown gg rfl).1
  have s1 : W3.heap.size = W3.heap.size := rfl
  have hsW : w.heap.size ≤ W3.heap.size := by
    have := hgr.size
    simp at this
    omega
  -- a block below R that is neither
  have keep : ∀ j, j < c.R → j ≠ c.bs → j ≠ c.bf → (W3.setCell ⟨c.bf, 0, none⟩ (.slice (some ⟨gg, 0, none⟩) (S.length + 1) cc)).heap[j]? = w.heap[j]? := fun j hj h1 h2 => by
    have e1 : (w.setCell ⟨c.bs, k, none⟩ (.bool true)).heap[j]? = w.heap[j]? := g1.block j (by omega) (by intro e; injection e with e; exact h1 e)
    have e2 : ((w.setCell ⟨c.bs, k, none⟩ (.bool true)).alloc o).heap[j]? = (w.setCell ⟨c.bs, k, none⟩ (.bool true)).heap[j]? := Below.heap_alloc _ _ _ (by simp; omega)
    have e3 := hgr.block j (by simp; omega) (fun e => by have := (hur j e.symm).1; omega)
    have e4 : (W3.setCell ⟨c.bf, 0, none⟩ (.slice (some ⟨gg, 0, none⟩) (S.length + 1) cc)).heap[j]? = W3.heap[j]? := by simp [World.setCell, Array.getElem?_modify, Ne.symm h2]
    rw [e4, e3, e2, e1]
  have kcell : ∀ j i, j < c.R → j ≠ c.bs → j ≠ c.bf → (W3.setCell ⟨c.bf, 0, none⟩ (.slice (some ⟨gg, 0, none⟩) (S.length + 1) cc)).cell? ⟨j, i, none⟩ = w.cell? ⟨j, i, none⟩ := fun j i hj h1 h2 => by
    unfold World.cell?
    simp only [keep j hj h1 h2]
  have hrow2 : (w.setCell ⟨c.bs, k, none⟩ (.bool true)).heap[c.bs]? = some (.cells (rowB 199 fun j => decide (j ∈ S ++ [k])) 95 (0, 0)) := by
    have := h.seen
    simp [World.setCell, Array.getElem?_modify, this, rowB_set, rowB_snoc]
  have hbW : Boxed W3 c.bf 34 u := by
    have e1 : (w.setCell ⟨c.bs, k, none⟩ (.bool true)).heap[c.bf]? = w.heap[c.bf]? := g1.block _ hu.lt (by intro e; injection e with e; exact hc.fs e)
    have e2 : ((w.setCell ⟨c.bs, k, none⟩ (.bool true)).alloc o).heap[c.bf]? = (w.setCell ⟨c.bs, k, none⟩ (.bool true)).heap[c.bf]? := Below.heap_alloc _ _ _ (by simp; exact hu.lt)
    have e3 := hgr.block c.bf (by simp; have := hu.lt; omega) (fun e => by have := (hur _ e.symm).1; have := hc.Rf; omega)
    exact (e3.trans (e2.trans e1)).trans hu
  have hB : Below c.B w (W3.setCell ⟨c.bf, 0, none⟩ (.slice (some ⟨gg, 0, none⟩) (S.length + 1) cc)) := by
    refine ⟨?_, ?_, ?_, by simpa using hsW, fun j hj => keep j (by have := hc.Br; have := hc.Rr; omega) (by have := hc.Bs; omega) (by have := hc.Bf; omega)⟩
    · exact hgr.os
    · exact hgr.tape
    · exact hgr.output
  refine ⟨⟨?_, ?_, ?_, ?_, ?_, ?_, ?_, ?_, ?_, ?_⟩, ?_, hB⟩
  · exact h.steps.below hB hc.blt
  · rw [kcell _ _ hc.Rr hc.rs hc.rf]; exact h.r0
  · rw [kcell _ _ hc.Rr hc.rs hc.rf]; exact h.r1
  · rw [kcell _ _ hc.Ra hc.sa hc.af]; exact h.a0
  · rw [kcell _ _ hc.Rv hc.vs hc.vf]; exact h.v0
  · refine ⟨.slice (some ⟨gg, 0, none⟩) (S.length + 1) cc, ?_, ?_⟩
    · simp [Boxed, World.setCell, Array.getElem?_modify, show W3.heap[c.bf]? = _ from hbW]
    · refine World.ownsRow.kept (row := some c.bf) hown (grownBy_setCell' W3 c.bf _) (Or.inr ?_)
      intro e
      injection e with e
      simp only at e
      have := hc.Rf
      omega
  · have e2 : ((w.setCell ⟨c.bs, k, none⟩ (.bool true)).alloc o).heap[c.bs]? = (w.setCell ⟨c.bs, k, none⟩ (.bool true)).heap[c.bs]? := Below.heap_alloc _ _ _ (by simp; exact heap_lt h.seen)
    have e3 := hgr.block c.bs (by simp; have := heap_lt h.seen; omega) (fun e => by have := (hur _ e.symm).1; have := hc.Rs; omega)
    have e4 : (W3.setCell ⟨c.bf, 0, none⟩ (.slice (some ⟨gg, 0, none⟩) (S.length + 1) cc)).heap[c.bs]? = W3.heap[c.bs]? := by simp [World.setCell, Array.getElem?_modify, hc.fs]
    rw [e4, e3, e2, hrow2]
  · simp; omega
  · rw [List.nodup_append]
    refine ⟨h.nod, by simp, fun x hx y hy => ?_⟩
    rw [List.mem_singleton.1 hy]
    intro e
    exact hk (e ▸ hx)
  · intro x hx
    rcases List.mem_append.1 hx with hx | hx
    · exact h.lt x hx
    · rw [List.mem_singleton.1 hx]; exact hkl
  · have k1 : c.Kp w (w.setCell ⟨c.bs, k, none⟩ (.bool true)) := KpF.put w c.bs k _ rfl hc.fs
    have hu1 : Boxed (w.setCell ⟨c.bs, k, none⟩ (.bool true)) c.bf 34 u := hu.kept g1 (by intro e; injection e with e; exact hc.fs e)
    have k2 : c.Kp (w.setCell ⟨c.bs, k, none⟩ (.bool true)) ((w.setCell ⟨c.bs, k, none⟩ (.bool true)).alloc o) := KpF.below _ ((Below.refl _ _).alloc (Nat.le_refl _) _) hu1.lt
    have hu2 : Boxed ((w.setCell ⟨c.bs, k, none⟩ (.bool true)).alloc o) c.bf 34 u := (Below.heap_alloc _ _ _ hu1.lt).trans hu1
    refine k1.trans (k2.trans (KpF.grow hu2 hgr (fun j e hj => ?_) (fun j e => ?_)))
    · have := (hur j e).1
      have := hc.Rf
      omega
    · injection e with e
      simp only at e
      subst e
      rcases hrow with h1 | h1
      · exact Or.inl h1
      · right
        simp
        omega
end Go.Proofs.YtopoiljgghglaaaDoor
