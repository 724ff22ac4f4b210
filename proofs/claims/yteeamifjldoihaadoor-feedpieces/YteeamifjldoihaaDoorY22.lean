/- The law FeedIs, walked from what the document asks of package feed. class.with. class.Of. class.Of at one letter. The laws' own patterns: the letter a, once, as often as one likes, once at least; what is found of them. What a pattern's text is, as a whole, and what stands in all that it fits: plain mathematics. Texts, byte by byte: plain facts. -/
import Derived.Test.YteeamifjldoihaaDoorY14
import Derived.Test.YteeamifjldoihaaDoorY21
import Derived.Test.YteeamifjldoihaaDoorY13
import Derived.Test.YteeamifjldoihaaDoorY03
import Derived.Test.YteeamifjldoihaaDoorY10
import Derived.Deep.CutRange
import Derived.BigQuiet
import Derived.Test.YteeamifjldoihaaDoorY01
import Derived.Test.YteeamifjldoihaaDoorY02
import Derived.Test.YteeamifjldoihaaDoorY04
namespace Go.Proofs.YteeamifjldoihaaDoor
set_option linter.unusedSimpArgs false
set_option linter.unusedVariables false
set_option maxRecDepth 100000
open Go.RowKit
/-- A feed of the call's own, and what lies below. -/
structure FdS (Fv : (Nat → Prop) → World → Value → Rx → List UInt8 → Bool → Prop) (w : World) (u : Value) (F : Nat → Prop) (t : Rx) (s : List UInt8) (d : Bool) (wr : World) : Prop where
  f : Fv F wr u t s d
  lo : ∀ k, F k → w.heap.size ≤ k
  b : Below w.heap.size w wr
theorem FdS.below {X : World → Prop} {Fv : (Nat → Prop) → World → Value → Rx → List UInt8 → Bool → Prop} (C : FeedC X Fv) {w : World} {u : Value} {F : Nat → Prop} {t : Rx} {s : List UInt8} {d : Bool} {wr w' : World} (h : FdS Fv w u F t s d wr) (hb : Below wr.heap.size wr w') : FdS Fv w u F t s d w' :=
  ⟨C.keep F (fun _ => False) wr w' u t s d h.f (But.below hb) (fun _ h => h.elim), h.lo, h.b.trans (hb.mono h.b.size)⟩
theorem FdS.turn {Fv : (Nat → Prop) → World → Value → Rx → List UInt8 → Bool → Prop} {w : World} {u : Value} {F : Nat → Prop} {t : Rx} {s : List UInt8} {d : Bool} {wr w' : World} (h : FdS Fv w u F t s d wr) {F' : Nat → Prop} {s' : List UInt8} {d' : Bool} (hf : Fv F' w' u t s' d') (hb : But F wr w') (ho : Onto F F' wr) : FdS Fv w u F' t s' d' w' :=
  ⟨hf, fun k hk => by
    rcases ho k hk with h1 | h1
    · exact h.lo k h1
    · exact Nat.le_trans h.b.size h1, h.b.trans (hb.to h.b.size h.lo)⟩
theorem isIn_lastF {w : World} {a : Option Addr} {l : List Nat} {cap : Nat} (h : IsIn w (.slice a l.length cap) l) (hl : l ≠ []) : ∃ b off, a = some ⟨b, off, none⟩ ∧ ∃ x, l.getLast? = some x ∧ w.cell? ⟨b, off + (l.length - 1), none⟩ = some (.int .i64 (x : Int)) := by
  obtain ⟨a', cap', e, hm, h | ⟨b, off, rfl, hlt, hn⟩⟩ := h
  · exact absurd h hl
  · injection e with e1 e2 e3
    subst e1
    refine ⟨b, off, rfl, l.getLast hl, List.getLast?_eq_some_getLast hl, ?_⟩
    apply hn
    have hp : 0 < l.length := List.length_pos_iff.2 hl
    rw [List.getLast_eq_getElem, List.getElem?_eq_getElem (by omega)]
set_option maxHeartbeats 4000000 in
theorem feedIs_bad {X : World → Prop} {Fv : (Nat → Prop) → World → Value → Rx → List UInt8 → Bool → Prop} (C : FeedC X Fv) (ns : List Nd) (v lv : Value) (l : List ByteArray) (w : World) (hN : NsIn w v ns) (hw : ∀ n ∈ ns, n.wf) (hL : TsIn w lv l) (hE : w.cell? ⟨0, 0, none⟩ = some (rty 28)) (h0 : 0 < w.heap.size) (hf : ¬ faultL ns = 0) :
    Calls Tryd.prog 3 #[v, lv] w fun e w' => e = .returned (.bool true) ∧ Below w.heap.size w w' := by
  have HO : Hid (NdOk ns) := fun n hn => C4.wf_ok (hw n hn).2
  have H0 : Hid _ := h0
  have S0 : Hid (Stay w w) := ⟨Below.refl _ _, hE⟩
  have CF : Hid _ := fault_any ns HO.out v w hN
  have C1 : Hid (∀ w', Below w.heap.size w w' → _) := fun w' hb => C.bad ns v w' (hN.below hb) hw hf
  obtain ⟨a, cap, rfl, hm⟩ := nsIn_form hN
  obtain ⟨la, lc, rfl, lm, -⟩ := hL
  have pf : (faultL ns == 0) = false := by simp [hf]
  clear hw C hN hE h0 hf
  generalize faultL ns = ft at *
  go_enter Tryd.func3, Tryd.ntmps3
  go_wp2_with fail
  refine Calls.mono (CF.out) ?_
  rintro e w1 ⟨rfl, hb⟩
  have S1 : Hid (Stay w w1) := S0.out.more H0.out hb
  clear hb
  go_wp2_with fail
  refine Calls.mono (C1.out _ S1.out.b) ?_
  rintro e w2 ⟨ua, rfl, hb⟩
  have S2 : Hid (Stay w w2) := S1.out.more H0.out hb
  clear hb
  go_wp2_with fail
  refine Calls.mono (error_self _ _ S2.out.e) ?_
  rintro e w3 ⟨rfl, hb⟩
  have S3 : Hid (Stay w w3) := S2.out.more H0.out hb
  clear hb
  go_wp2_with fail
  go_ret
  exact ⟨rfl, S3.out.b⟩
set_option maxHeartbeats 16000000 in
theorem feedIs_ok {X : World → Prop} {Fv : (Nat → Prop) → World → Value → Rx → List UInt8 → Bool → Prop} (hXb : Lasts X) (C : FeedC X Fv) (t : Rx) (ht : t.Ok) (v lv : Value) (l : List ByteArray) (lw : ∀ x ∈ l, x.size ≤ 140737488355328) (w : World) (hX : X w) (hN : NsIn w v t.flat) (hw : ∀ n ∈ t.flat, n.wf) (hL : TsIn w lv l) (hE : w.cell? ⟨0, 0, none⟩ = some (rty 28)) (h0 : 0 < w.heap.size) (hf : faultL t.flat = 0) :
    Calls Tryd.prog 3 #[v, lv] w fun e w' => e = .returned (.bool true) ∧ Below w.heap.size w w' := by
  have HO : Hid (NdOk t.flat) := fun n hn => C4.wf_ok (hw n hn).2
  have H0 : Hid _ := h0
  have HEE := hid hE
  have S0 : Hid (Stay w w) := ⟨Below.refl _ _, hE⟩
  have CF : Hid _ := fault_any t.flat HO.out v w hN
  rw [hf] at CF
  obtain ⟨hl60, hr, hv⟩ := (faultL_zero t.flat).1 hf
  have HRR : Hid (∀ n ∈ t.flat, (1 ≤ n.op ∧ n.op ≤ 9) ∧ n.c.ok) := fun n hn => ⟨(hr n hn).1, HO.out n hn⟩
  have C1 : Hid (∀ w', Below w.heap.size w w' → _) := fun w' hb => C.new t v w' (hXb w w' hX hb) ht (hN.below hb) hw hf
  have HXX : Hid (∀ w', Below w.heap.size w w' → X w') := fun w' hb => hXb w w' hX hb
  have HEN : Hid (∀ (s : ByteArray) lE w', s.size ≤ 400 → EndsR s.data.toList t 0 lE → Below w.heap.size w w' → _) := fun s lE w' hs hE hb => endsOf_any t ht v s (by omega) 0 (by omega) lE hE w' (hN.below hb) HRR.out hl60
  have HC := hid C
  have HLW := hid lw
  obtain ⟨a, cap, rfl, hm⟩ := nsIn_form hN
  obtain ⟨la, lc, rfl, lm, hla⟩ := hL
  have HLA := hid hla
  unfold maxLen at lm
  clear hw C hN hE h0 hf hr hv hl60 hXb hX ht hla lw
  go_enter Tryd.func3, Tryd.ntmps3
  go_wp2_with fail
  refine Calls.mono (CF.out) ?_
  rintro e w1 ⟨rfl, hb⟩
  have S1 : Hid (Stay w w1) := S0.out.more H0.out hb
  clear hb
  go_wp2_with fail
  refine Calls.mono (C1.out _ S1.out.b) ?_
  rintro e w2 ⟨u, F, d, rfl, hf, hb, hF⟩
  have HS2 : Hid (FdS Fv w u F t [] d w2) := ⟨hf, fun k hk => Nat.le_trans S1.out.b.size (hF k hk), S1.out.b.trans (hb.mono S1.out.b.size)⟩
  have S2 : Hid (Stay w w2) := S1.out.more H0.out hb
  obtain ⟨ua, rfl⟩ := HC.out.ptr F w2 u t [] d hf
  clear hb hf hF
  go_wp2_with fail
  refine Calls.mono (error_self 0 _ S2.out.e) ?_
  rintro e w3 ⟨rfl, hb⟩
  have HS3 : Hid (∃ (s : ByteArray) (F : Nat → Prop) (d : Bool), s.size ≤ 400 ∧ s = ⟨#[]⟩ ∧ FdS Fv w (.pointer (some ua)) F t s.data.toList d w3) := ⟨⟨#[]⟩, F, d, by decide, rfl, HS2.out.below HC.out hb⟩
  clear hb HS2
  go_wp2_with fail
  go_loopw [9, 10] (fun sv v wr => ∃ (i : Nat) (s : ByteArray) (F : Nat → Prop) (d : Bool), i ≤ l.length ∧ i ≤ 12 ∧ v = .int .i64 (i : Int) ∧ sv = .string s ∧ s.size ≤ 400 ∧ Hid (FdS Fv w (.pointer (some ua)) F t s.data.toList d wr)) (fun _ v _ => l.length - (intOf v).toNat)
  case atStart =>
    obtain ⟨s, F, d, h1, h2, h3⟩ := HS3.out
    exact ⟨0, s, F, d, by omega, by omega, rfl, by rw [h2], h1, h3⟩
  case round =>
    clear HS3
    obtain ⟨i, s, F, d, hi, hi12, rfl, rfl, hs4, HF⟩ := hrel
    by_cases hil : i < l.length ∧ i < 12
    · obtain ⟨hil, hi2⟩ := hil
      obtain ⟨x, hx⟩ : ∃ x, l[i]? = some x := ⟨l[i], List.getElem?_eq_getElem hil⟩
      obtain ⟨b, off, hab, hlt, hN⟩ : ∃ b off, la = some ⟨b, off, none⟩ ∧ b < w.heap.size ∧ ∀ i t, l[i]? = some t → w.cell? ⟨b, off + i, none⟩ = some (.string t) := by
        rcases HLA.out with h | h
        · rw [h] at hil; simp at hil
        · exact h
      subst hab
      have hxm := HLW.out x (List.mem_of_getElem? hx)
      have cx := (HF.out.b.cell (p := ⟨b, _, none⟩) hlt).trans (hN i x hx)
      have g1 : (i : Int) < (l.length : Int) := by omega
      have g2 : (i : Int) < 12 := by omega
      have g3 : decide ((i : Int) < 12) = true := by rw [decide_eq_true_iff]; omega
      have g4 : decide (i < 12) = true := by rw [decide_eq_true_iff]; omega
      have g5 : decide (i < l.length) = true := by rw [decide_eq_true_iff]; omega
      have g6 : decide ((i : Int) < (l.length : Int)) = true := by rw [decide_eq_true_iff]; omega
      have i0 : (0 : Int) ≤ (i : Int) := by omega
      have hw1 : IntKind.i64.wrap ((s.size : Int) + (x.size : Int)) = (s.size : Int) + (x.size : Int) := by rw [IntKind.wrap_i64]; omega
      have hwi : IntKind.i64.wrap ((i : Int) + 1) = (i : Int) + 1 := by rw [IntKind.wrap_i64]; omega
      obtain ⟨s', hs'⟩ : ∃ s', (if 400 < s.size + x.size then s else s ++ x) = s' := ⟨_, rfl⟩
      obtain ⟨e', he'⟩ : ∃ e' : Int, (if 400 < s.size + x.size then (3 : Int) else 0) = e' := ⟨_, rfl⟩
      have hs4' : s'.size ≤ 400 := by
        rw [← hs']
        by_cases h : 400 < s.size + x.size
        · rw [if_pos h]; exact hs4
        · rw [if_neg h, ByteArray.size_append]; omega
      have CP : Hid (Calls Tryd.prog 8 #[.pointer (some ua), .string x] wr fun e w' => e = .returned (errV e') ∧ Turns F wr w' (fun F' => ∃ d', Fv F' w' (.pointer (some ua)) t s'.data.toList d')) := by
        show Calls _ _ _ _ _
        have hsl : s.data.toList.length = s.size := by simp
        by_cases h : 400 < s.size + x.size
        · rw [if_pos h] at hs' he'
          subst hs'
          subst he'
          exact (HC.out.full F wr _ t s.data.toList d x (HXX.out _ HF.out.b) HF.out.f hxm (by omega)).mono fun e w' ⟨h1, F', h2, h3, h4⟩ => ⟨h1, F', ⟨d, h2⟩, h3, h4⟩
        · rw [if_neg h] at hs' he'
          subst hs'
          subst he'
          refine (HC.out.put F wr _ t s.data.toList d x (HXX.out _ HF.out.b) HF.out.f hxm (by omega)).mono fun e w' ⟨h1, F', ⟨d', _, h2⟩, h3, h4⟩ => ⟨h1, F', ⟨d', ?_⟩, h3, h4⟩
          rw [show (s ++ x).data.toList = s.data.toList ++ x.data.toList by simp]
          exact h2
      have HS' := hid hs'
      have HE' := hid he'
      clear hs' he' hx hN
      go_upto_if 49 with fail
      go_cut [9, 11] from 50 to 102 (fun v9 v11 wc => v9 = .string s' ∧ v11 = .int .i64 e' ∧ wc = wr)
      case first =>
        by_cases hfull : 400 < s.size + x.size
        · have q1 := HS'.out
          have q2 := HE'.out
          rw [if_pos hfull] at q1 q2
          subst q1
          subst q2
          have hfi : (400 : Int) < (s.size : Int) + (x.size : Int) := by omega
          go_wp2_with fail
          go_meet
          case rel => exact ⟨rfl, rfl, rfl⟩
        · have q1 := HS'.out
          have q2 := HE'.out
          rw [if_neg hfull] at q1 q2
          subst q1
          subst q2
          have hfi : ¬ (400 : Int) < (s.size : Int) + (x.size : Int) := by omega
          go_wp2_with fail
          go_meet
          case rel => exact ⟨rfl, rfl, rfl⟩
      case rest =>
      obtain ⟨rfl, rfl, rfl⟩ := hcut
      clear HS' HE' hw1
      go_wp2_with fail
      refine Calls.mono CP.out ?_
      rintro e w4 ⟨rfl, F4, ⟨d4, hf4⟩, hb4, ho4⟩
      have HF4 := hid (HF.out.turn hf4 hb4 ho4)
      clear CP hf4 hb4 ho4 HF
      go_wp2_with fail
      refine Calls.mono (error_self _ _ ((HF4.out.b.cell (p := ⟨0, 0, none⟩) H0.out).trans HEE.out)) ?_
      rintro e w5 ⟨rfl, hb5⟩
      have HF5 := hid (HF4.out.below HC.out hb5)
      clear hb5 HF4
      obtain ⟨lE, hlE⟩ := ends_total s'.data.toList t 0
      have CE := hid (HEN.out s' lE w5 hs4' hlE HF5.out.b)
      have HLE := hid hlE
      clear hlE
      go_wp2_with fail
      refine Calls.mono CE.out ?_
      rintro e w6 ⟨u6, rfl, hb6, hI⟩
      have HF6 := hid (HF5.out.below HC.out hb6)
      have HI6 := hid hI
      obtain ⟨ea, ec, rfl, em⟩ := isIn_form hI
      clear hb6 hI HF5 CE
      obtain ⟨y, hy⟩ : ∃ y : Bool, (y = true ↔ Fit s'.data.toList t 0 s'.data.toList.length) := ⟨@decide _ (Classical.propDecidable _), @decide_eq_true_iff _ (Classical.propDecidable _)⟩
      have HY := hid hy
      clear hy
      have hsl' : s'.data.toList.length = s'.size := by simp
      obtain ⟨nl, hnl⟩ : ∃ nl, lE.length = nl := ⟨_, rfl⟩
      rw [hnl]
      have HNL := hid hnl
      clear hnl
      go_upto_region 16 with fail
      go_cut [13] from 67 to 102 (fun v wc => v = .bool y ∧ wc = w6)
      case first =>
        rcases Nat.eq_zero_or_pos nl with hz | hz
        · subst hz
          have hnil : lE = [] := List.eq_nil_of_length_eq_zero HNL.out
          have hyf : y = false := by
            cases y with
            | false => rfl
            | true =>
              have h := HLE.out.all.2 (HY.out.1 rfl)
              rw [hnil] at h
              cases h
          subst hyf
          clear hnil HLE HY HI6 HNL
          go_wp2_with fail
          go_meet
          case rel => exact ⟨rfl, rfl⟩
        · obtain ⟨be, oe, rfl, xl, hxl, hce⟩ := isIn_lastF HI6.out (by intro e; have h := HNL.out; rw [e] at h; simp at h; omega)
          obtain ⟨k, hkk⟩ : ∃ k, nl = k + 1 := ⟨nl - 1, by omega⟩
          subst hkk
          have hk := HNL.out
          have hyx : y = decide (xl = s'.size) := by
            rw [Bool.eq_iff_iff, HY.out, decide_eq_true_iff, ← HLE.out.all, hxl, hsl']
            simp
          have hkl : k ≤ s'.size := by have := HLE.out.len; rw [hk, hsl'] at this; omega
          rw [hk, Nat.add_sub_cancel] at hce
          have k0 : (0 : Int) ≤ (k : Int) := by omega
          have k1 : (k : Int) < (k : Int) + 1 := by omega
          have k2 : (0 : Int) < (k : Int) + 1 := by omega
          clear hz hk HLE HY HI6 hxl HNL
          by_cases hxs : xl = s'.size
          · have pxs : ((xl : Int) == (s'.size : Int)) = true := by rw [beq_iff_eq]; omega
            rw [decide_eq_true hxs] at hyx
            subst hyx
            clear hxs
            go_wp2_with fail
            go_meet
            case rel => exact ⟨rfl, rfl⟩
          · have pxs : ((xl : Int) == (s'.size : Int)) = false := by rw [beq_eq_false_iff_ne]; omega
            rw [decide_eq_false hxs] at hyx
            subst hyx
            clear hxs
            go_wp2_with fail
            go_meet
            case rel => exact ⟨rfl, rfl⟩
      case rest =>
      obtain ⟨rfl, rfl⟩ := hcut
      clear HI6 HLE
      have CL := hid (HC.out.len F4 _ _ t _ d4 (HXX.out _ HF6.out.b) HF6.out.f)
      rw [hsl'] at CL
      have HSL := hid hsl'
      clear hsl'
      go_wp2_with fail
      refine Calls.mono CL.out ?_
      rintro e w7 ⟨rfl, F7, hf7, hb7, ho7⟩
      have HF7 := hid (HF6.out.turn hf7 hb7 ho7)
      clear CL hf7 hb7 ho7 HF6
      have CY := hid (HC.out.yes F7 _ _ t _ d4 y (HXX.out _ HF7.out.b) HF7.out.f HY.out)
      go_wp2_with fail
      refine Calls.mono CY.out ?_
      rintro e w8 ⟨rfl, F8, hf8, hb8, ho8⟩
      have HF8 := hid (HF7.out.turn hf8 hb8 ho8)
      clear CY hf8 hb8 ho8 HF7
      cases y with
      | false =>
        clear HY HNL
        go_wp2
        exact ⟨⟨i + 1, s', F8, d4, by omega, by omega, by go_num, rfl, hs4', HF8⟩, by simp [intOf]; omega⟩
      | true =>
        have hd : d4 = false := by
          cases d4 with
          | false => rfl
          | true =>
            have h := HC.out.dead F8 _ _ t _ HF8.out.f []
            rw [List.append_nil] at h
            exact absurd (HY.out.1 rfl) h
        have CD := hid (HC.out.said F8 _ _ t _ d4 (HXX.out _ HF8.out.b) HF8.out.f)
        rw [hd] at CD
        have HD := hid hd
        clear hd
        go_wp2_with fail
        refine Calls.mono CD.out ?_
        rintro e w9 ⟨rfl, F9, hf9, hb9, ho9⟩
        have HF9 := hid (HF8.out.turn hf9 hb9 ho9)
        clear CD hf9 hb9 ho9 HF8 HY HNL
        go_wp2
        exact ⟨⟨i + 1, s', F9, false, by omega, by omega, by go_num, rfl, hs4', HF9⟩, by simp [intOf]; omega⟩
    · have HB := hid HF.out.b
      clear HF
      rcases Nat.lt_or_ge i l.length with h1 | h1
      · have g1 : (i : Int) < (l.length : Int) := by omega
        have g2 : ¬ (i : Int) < 12 := by omega
        have g3 : decide ((i : Int) < 12) = false := by rw [decide_eq_false_iff_not]; omega
        have g4 : decide (i < 12) = false := by rw [decide_eq_false_iff_not]; omega
        clear hil
        go_wp2
        go_ret
        exact ⟨rfl, HB.out⟩
      · have g1 : ¬ (i : Int) < (l.length : Int) := by omega
        clear hil
        go_wp2
        go_ret
        exact ⟨rfl, HB.out⟩
theorem feedIs_any {X : World → Prop} {Fv : (Nat → Prop) → World → Value → Rx → List UInt8 → Bool → Prop} (hXb : Lasts X) (C : FeedC X Fv) (ns : List Nd) (v lv : Value) (l : List ByteArray) (lw : ∀ x ∈ l, x.size ≤ 140737488355328) (w : World) (hX : X w) (hN : NsIn w v ns) (hw : ∀ n ∈ ns, n.wf) (hL : TsIn w lv l) (hE : w.cell? ⟨0, 0, none⟩ = some (rty 28)) (h0 : 0 < w.heap.size) :
    Calls Tryd.prog 3 #[v, lv] w fun e w' => e = .returned (.bool true) ∧ Below w.heap.size w w' := by
  by_cases hf : faultL ns = 0
  · obtain ⟨_, hr, hv⟩ := (faultL_zero ns).1 hf
    obtain ⟨t, ht, rfl⟩ := tree_of ns hv
    exact feedIs_ok hXb C t ht v lv l lw w hX hN hw hL hE h0 hf
  · exact feedIs_bad C ns v lv l w hN hw hL hE h0 hf
end Go.Proofs.YteeamifjldoihaaDoor
namespace Go.Proofs.YteeamifjldoihaaDoor
set_option linter.unusedSimpArgs false
set_option linter.unusedVariables false
set_option maxRecDepth 100000
open Go.RowKit
set_option maxHeartbeats 400000 in
theorem with_any (k : C4) (x : Int) (w : World) (h : 0 ≤ x) (h2 : x < 256) :
    Calls Tryd.prog 25 #[k.v, .int .u8 x] w fun e w' => e = .returned (k.add x).v ∧ Below w.heap.size w w' := by
  have hw := k.get (x/64).toNat (by omega)
  have hs := k.set (x/64).toNat (by omega)
  go_enter Tryd.func25, Tryd.ntmps25
  go_wp2
  refine bodyPost_ret (v := (k.add x).v) (by simp [results, Tryd.results25, go_sem]; exact ⟨rfl, rfl, rfl, rfl⟩) rfl ⟨rfl, ?_⟩
  exact ((Below.refl _ _).alloc (Nat.le_refl _) _).alloc (by simp) _
end Go.Proofs.YteeamifjldoihaaDoor
namespace Go.Proofs.YteeamifjldoihaaDoor
set_option linter.unusedSimpArgs false
set_option linter.unusedVariables false
set_option maxRecDepth 100000
open Go.RowKit
set_option maxHeartbeats 1000000 in
theorem of_any (s : ByteArray) (w : World) (hs : s.size ≤ maxLen) :
    Calls Tryd.prog 13 #[.string s] w fun e w' => e = .returned (C4.ofL s.data.toList).v ∧ Below w.heap.size w w' := by
  unfold maxLen at hs
  go_enter Tryd.func13, Tryd.ntmps13
  go_wp2
  go_loopw [7] (fun i wr => ∃ k : Nat, k ≤ s.size ∧ i = .int .i64 k ∧ Below w.heap.size w wr ∧ Hb wr w.heap.size z4 ∧ Hb wr (w.heap.size + 1) (C4.ofL (s.data.toList.take k))) (fun i _ => s.size - (intOf i).toNat)
  case atStart =>
    refine ⟨0, by omega, rfl, ?_, ?_, ?_⟩
    · exact ((Below.refl _ _).alloc (Nat.le_refl _) _).alloc (by simp) _
    · exact (Hb.new _ z4 _ rfl).alloc _
    · exact Hb.new _ z4 _ (by simp)
  case round =>
    obtain ⟨k, hk, rfl, hB, hZ, hC⟩ := hrel
    by_cases hlt : k < s.size
    · obtain ⟨c0, c1, c2, c3, e0, e1, e2, e3⟩ := hC.all
      have i0 : (0 : Int) ≤ (k : Int) := by omega
      have i1 : (k : Int) < (s.size : Int) := by omega
      have hg : s.data.toList[k]? = some s[k] := by
        rw [List.getElem?_eq_getElem (by simpa using hlt)]; rfl
      have hts : s.data.toList.take (k + 1) = s.data.toList.take k ++ [s[k]] := by
        rw [List.take_succ_eq_append_getElem (by simpa using hlt)]; rfl
      have HT : Hid (C4.ofL (s.data.toList.take (k + 1)) = (C4.ofL (s.data.toList.take k)).add (s[k].toNat : Int)) := by rw [hts, C4.ofL_snoc]; exact rfl
      clear hts hg
      have hlb : (s[k].toNat : Int) < 256 := by have := s[k].toNat_lt; omega
      have hl0 : (0 : Int) ≤ (s[k].toNat : Int) := by omega
      go_wp2_with fail
      go_region_with (first | (go_at_call 25; refine (with_any (C4.ofL (s.data.toList.take k)) _ _ hl0 hlb).mono ?_; rintro e w' ⟨rfl, hb⟩; have hC1 := Hb.below hC.drew hb hC.lt; obtain ⟨g0, g1, g2, g3, q0, q1, q2, q3⟩ := hC1.all))
      all_goals
        go_wp2
        refine ⟨⟨k + 1, by omega, by go_num, ?_, ?_, ?_⟩, by simp [intOf]; omega⟩
        · exact below_put4 (hB.drew.trans (hb.mono hB.size)) (by omega) _
        · exact Hb.other4 (Hb.below hZ.drew hb hZ.lt) _ (by omega)
        · rw [HT.out]; exact hC1.put4 _
    · have hk4 : k = s.size := by omega
      subst hk4
      have ht : s.data.toList.take s.size = s.data.toList := List.take_of_length_le (by simp)
      rw [ht] at hC
      clear ht
      obtain ⟨c0, c1, c2, c3, e0, e1, e2, e3⟩ := hC.all
      obtain ⟨d0, d1, d2, d3, f0, f1, f2, f3⟩ := hZ.all
      go_wp2
      have hq := hZ.put4 (C4.ofL s.data.toList)
      refine bodyPost_ret (v := (C4.ofL s.data.toList).v) (by simp [results, Tryd.results13, go_sem, hq.c0, hq.c1, hq.c2, hq.c3]) rfl ⟨rfl, ?_⟩
      exact below_put4 hB (by omega) _
end Go.Proofs.YteeamifjldoihaaDoor
namespace Go.Proofs.YteeamifjldoihaaDoor
set_option linter.unusedSimpArgs false
set_option linter.unusedVariables false
open Go.RowKit
def kA : C4 := C4.ofL [97]
def kB : C4 := C4.ofL [98]
theorem ofA : ∀ w, Calls Tryd.prog 13 #[.string ⟨#[97]⟩] w fun e w' => e = .returned kA.v ∧ Below w.heap.size w w' := fun w => of_any ⟨#[97]⟩ w (by decide)
theorem ofB : ∀ w, Calls Tryd.prog 13 #[.string ⟨#[98]⟩] w fun e w' => e = .returned kB.v ∧ Below w.heap.size w w' := fun w => of_any ⟨#[98]⟩ w (by decide)
theorem kA_ok : kA.ok ∧ kA.has 97 = true := ⟨ofL_ok _, by unfold kA; rw [ofL_has _ _ (by decide)]; decide⟩
theorem kB_ok : kB.ok ∧ kB.has 98 = true := ⟨ofL_ok _, by unfold kB; rw [ofL_has _ _ (by decide)]; decide⟩
theorem kA_not : kA.ok ∧ kA.has 97 = true ∧ kA.has 98 = false := ⟨ofL_ok _, kA_ok.2, by unfold kA; rw [ofL_has _ _ (by decide)]; decide⟩
end Go.Proofs.YteeamifjldoihaaDoor
namespace Go.Proofs.YteeamifjldoihaaDoor
set_option linter.unusedSimpArgs false
set_option linter.unusedVariables false
set_option maxRecDepth 100000
open Go.RowKit
theorem ns_newF (w : World) (ns : List Nd) (hm : ns.length ≤ maxLen) : NsIn (w.alloc (.cells (nsCells ns).toArray 43 (0, 0))) (.slice (some ⟨w.heap.size, 0, none⟩) ns.length ns.length) ns := by
  have e : (w.alloc (.cells (nsCells ns).toArray 43 (0, 0))).heap[w.heap.size]? = some (.cells (nsCells ns).toArray 43 (0, 0)) := by
    show (w.heap.push _)[w.heap.size]? = _
    simp
  have h : NsOwn (w.alloc (.cells (nsCells ns).toArray 43 (0, 0))) w.heap.size (.slice (some ⟨w.heap.size, 0, none⟩) ns.length ns.length) ns :=
    ⟨nsCells_len ns, Or.inr ⟨w.heap.size, ns.length, _, rfl, Nat.le_refl _, e, Nat.le_refl _, hm, by simp [nsCells_len], by simp [← nsCells_len]⟩⟩
  exact h.isIn hm
theorem kA_wfF : kA.wf := ⟨by decide, by decide, by decide, by decide⟩
theorem z4_wfF : z4.wf := ⟨by decide, by decide, by decide, by decide⟩
/-- The letter a. -/
abbrev tLa : Rx := .leaf ⟨1, kA⟩
/-- The letter a, as op says (5: as often as one likes, 6: once at least). -/
abbrev tOp (op : Int) : Rx := .one ⟨op, z4⟩ tLa
theorem tLa_ok : tLa.Ok := rfl
theorem tLa_wf : ∀ n ∈ tLa.flat, n.wf := by
  intro n hn
  simp [Rx.flat] at hn
  subst hn
  exact ⟨by decide, kA_wfF⟩
theorem tLa_fault : faultL tLa.flat = 0 := by
  rw [faultL_zero]
  refine ⟨by simp [Rx.flat], ?_, ?_⟩
  · intro n hn
    simp [Rx.flat] at hn
    subst hn
    exact ⟨by simp, Or.inl rfl⟩
  · have := endF_flat tLa tLa_ok [] [] (tLa.flat.length + 1) (by omega)
    simpa [endE] using this
theorem tOp_ok {op : Int} (h : op = 5 ∨ op = 6) : (tOp op).Ok := by
  refine ⟨?_, rfl⟩
  rcases h with rfl | rfl <;> rfl
theorem tOp_wf {op : Int} (h : op = 5 ∨ op = 6) : ∀ n ∈ (tOp op).flat, n.wf := by
  intro n hn
  simp [Rx.flat] at hn
  rcases hn with rfl | rfl
  · exact ⟨by rcases h with rfl | rfl <;> decide, z4_wfF⟩
  · exact ⟨by decide, kA_wfF⟩
theorem tOp_fault {op : Int} (h : op = 5 ∨ op = 6) : faultL (tOp op).flat = 0 := by
  rw [faultL_zero]
  refine ⟨by simp [Rx.flat], ?_, ?_⟩
  · intro n hn
    simp [Rx.flat] at hn
    rcases hn with rfl | rfl
    · exact ⟨by simp only; omega, Or.inr (show z4.eqb z4 = true by decide)⟩
    · exact ⟨by simp, Or.inl rfl⟩
  · have := endF_flat (tOp op) (tOp_ok h) [] [] ((tOp op).flat.length + 1) (by omega)
    simpa [endE] using this
theorem fitA (s : List UInt8) (i j : Nat) : Fit s tLa i j ↔ ∃ c, s[i]? = some c ∧ kA.has c.toNat = true ∧ j = i + 1 := by
  simp only [Fit, if_true]
theorem fitA_yes {s : List UInt8} {i : Nat} (h : s[i]? = some 97) : Fit s tLa i (i + 1) := (fitA s i _).2 ⟨97, h, kA_ok.2, rfl⟩
theorem fitA_no {s : List UInt8} {i j : Nat} (h : s[i]? = some 98) : ¬ Fit s tLa i j := fun hf => by
  obtain ⟨c, hc, hh, _⟩ := (fitA s i j).1 hf
  rw [h] at hc
  obtain rfl := Option.some.inj hc
  have := kA_not.2.2
  rw [show (98 : UInt8).toNat = 98 from rfl, this] at hh
  cases hh
theorem fitA_out {s : List UInt8} {i j : Nat} (h : s.length ≤ i) : ¬ Fit s tLa i j := fun hf => by
  obtain ⟨c, hc, _⟩ := (fitA s i j).1 hf
  rw [List.getElem?_eq_none h] at hc
  cases hc
theorem fit5 (s : List UInt8) (i j : Nat) : Fit s (tOp 5) i j ↔ Str s.length (Fit s tLa) i j := by
  simp only [Fit, if_true]
theorem fit6 (s : List UInt8) (i j : Nat) : Fit s (tOp 6) i j ↔ ∃ k, Fit s tLa i k ∧ Str s.length (Fit s tLa) k j := by
  show (if (6 : Int) = 5 then _ else if (6 : Int) = 6 then _ else _) ↔ _
  rw [if_neg (by decide), if_pos rfl]
/-- What goes on in steps that end at M at most, ends there at most. -/
theorem str_most {N M : Nat} {R : Nat → Nat → Prop} (h : ∀ i j, R i j → j ≤ M) {i j : Nat} (hs : Str N R i j) : i ≤ M → j ≤ M := by
  induction hs with
  | nil i hi => exact id
  | cons i k j h1 _ ih => exact fun _ => ih (h i k h1)
theorem found_aa : FndR [97, 97] tLa 1 (some (1, 2)) :=
  ⟨Nat.le_refl _, fun k h1 h2 => by omega, fitA_yes rfl, fun c hc => (fit_le _ _ _ _ hc).2⟩
theorem found_baab : FndR [98, 97, 97, 98] (tOp 6) 0 (some (1, 3)) := by
  refine ⟨by omega, fun k _ h2 j hj => ?_, ?_, fun c hc => ?_⟩
  · obtain rfl : k = 0 := by omega
    obtain ⟨m, hm, _⟩ := (fit6 _ _ _).1 hj
    exact fitA_no rfl hm
  · exact (fit6 _ _ _).2 ⟨2, fitA_yes rfl, .cons 2 3 3 (fitA_yes rfl) (.nil 3 (by decide))⟩
  · obtain ⟨m, hm, hs⟩ := (fit6 _ _ _).1 hc
    obtain ⟨_, _, _, rfl⟩ := (fitA _ _ _).1 hm
    refine str_most (M := 3) (fun i j hij => ?_) hs (by omega)
    obtain ⟨d, hd, _, rfl⟩ := (fitA _ _ _).1 hij
    rcases Nat.lt_or_ge i 3 with h1 | h1
    · omega
    · rcases Nat.eq_or_lt_of_le h1 with rfl | h1
      · exact absurd hij (fitA_no rfl)
      · exact absurd hij (fitA_out (by simp; omega))
theorem found_ba : AllR [98, 97] (tOp 5) 0 [(0, 0), (1, 2), (2, 2)] := by
  refine .cons 0 (0, 0) _ ⟨Nat.le_refl _, fun k h1 h2 => by omega, (fit5 _ _ _).2 (.nil 0 (by decide)), fun c hc => ?_⟩ (.cons 1 (1, 2) _ ⟨Nat.le_refl _, fun k h1 h2 => (by omega), (fit5 _ _ _).2 (.cons 1 2 2 (fitA_yes rfl) (.nil 2 (by decide))), fun c hc => (fit_le _ _ _ _ hc).2⟩ (.cons 2 (2, 2) _ ⟨Nat.le_refl _, fun k h1 h2 => (by omega), (fit5 _ _ _).2 (.nil 2 (by decide)), fun c hc => (fit_le _ _ _ _ hc).2⟩ (.nil 3 (FndR.out (by decide)))))
  have hs := (fit5 _ _ _).1 hc
  cases hs with
  | nil _ _ => exact Nat.le_refl _
  | cons _ k _ h1 _ => exact absurd h1 (fitA_no rfl)
end Go.Proofs.YteeamifjldoihaaDoor
namespace Go.Proofs.YteeamifjldoihaaDoor
set_option linter.unusedSimpArgs false
set_option linter.unusedVariables false
set_option maxRecDepth 100000
open Go.RowKit
/-- The one byte of a class. -/
def C4.only (k : C4) : Option UInt8 := if ((List.range 256).filter k.has).length = 1 then ((List.range 256).filter k.has).head?.map (fun b => UInt8.ofNat b) else none
/-- The one text that a pattern fits. -/
def Rx.whl : Rx → Option (List UInt8)
  | .leaf n => if n.op = 1 then n.c.only.map (fun c => [c]) else if n.op = 2 then some [] else none
  | .one _ _ => none
  | .two n a b => if n.op = 3 then a.whl.bind (fun x => b.whl.map (fun y => x ++ y)) else none
/-- The longer one, the first if they are as long. -/
def longer (x y : List UInt8) : List UInt8 := if x.length < y.length then y else x
/-- What stands in all that a pattern fits. -/
def Rx.ned : Rx → List UInt8
  | .leaf n => ((Rx.leaf n).whl).getD []
  | .one n a => if n.op = 6 then a.ned else []
  | .two n a b => match (Rx.two n a b).whl with
    | some x => x
    | none => if n.op = 3 then longer a.ned b.ned else []
/-- The piece of a text from one place to another one. -/
def cut (s : List UInt8) (i j : Nat) : List UInt8 := (s.drop i).take (j - i)
theorem cut_len {s : List UInt8} {i j : Nat} (h : i ≤ j) (hj : j ≤ s.length) : (cut s i j).length = j - i := by
  unfold cut
  rw [List.length_take, List.length_drop]
  omega
theorem cut_trans {s : List UInt8} {i k j : Nat} (h1 : i ≤ k) (h2 : k ≤ j) : cut s i j = cut s i k ++ cut s k j := by
  unfold cut
  have e : j - i = (k - i) + (j - k) := by omega
  rw [e, List.take_add, List.drop_drop]
  congr 3
  omega
theorem cut_self (s : List UInt8) (i : Nat) : cut s i i = [] := by simp [cut]
theorem only_has {k : C4} {c : UInt8} (h : k.only = some c) (b : UInt8) : k.has b.toNat = true ↔ b = c := by
  unfold C4.only at h
  split at h
  · rename_i h1
    obtain ⟨x, hx⟩ : ∃ x, (List.range 256).filter k.has = [x] := List.length_eq_one_iff.1 h1
    rw [hx] at h
    simp at h
    have hm : ∀ y, y < 256 → (k.has y = true ↔ y = x) := by
      intro y hy
      have : y ∈ (List.range 256).filter k.has ↔ y = x := by rw [hx, List.mem_singleton]
      rw [List.mem_filter, List.mem_range] at this
      rw [← this]
      exact ⟨fun h => ⟨hy, h⟩, fun h => h.2⟩
    have hx256 : x < 256 := by
      have : x ∈ (List.range 256).filter k.has := by rw [hx]; simp
      rw [List.mem_filter, List.mem_range] at this
      exact this.1
    rw [hm b.toNat b.toNat_lt, ← h]
    constructor
    · intro e
      rw [← e]
      simp
    · intro e
      rw [e]
      simp
      omega
  · cases h
/-- What a pattern that has a whole fits is that one. -/
theorem whl_fit (s : List UInt8) : ∀ (t : Rx), t.Ok → (∀ n ∈ t.flat, 1 ≤ n.op ∧ n.op ≤ 9) → ∀ (x : List UInt8), t.whl = some x → ∀ i j, Fit s t i j ↔ (j = i + x.length ∧ j ≤ s.length ∧ cut s i j = x)
  | .leaf n, hk, ho, x, hx, i, j => by
    simp only [Rx.whl] at hx
    simp only [Fit]
    by_cases h1 : n.op = 1
    · rw [if_pos h1] at hx ⊢
      cases hc : n.c.only with
      | none => rw [hc] at hx; cases hx
      | some c =>
        rw [hc] at hx
        simp at hx
        subst hx
        constructor
        · rintro ⟨d, hd, hh, rfl⟩
          have hdc := (only_has hc d).1 hh
          subst hdc
          have hlt : i < s.length := by
            rcases Nat.lt_or_ge i s.length with h' | h'
            · exact h'
            · rw [List.getElem?_eq_none h'] at hd; cases hd
          refine ⟨by simp, by omega, ?_⟩
          unfold cut
          rw [List.drop_eq_getElem_cons hlt, show i + 1 - i = 1 from by omega]
          rw [List.getElem?_eq_getElem hlt] at hd
          simp [Option.some.inj hd]
        · rintro ⟨rfl, hj, he⟩
          simp at hj
          have hlt : i < s.length := by omega
          refine ⟨c, ?_, (only_has hc c).2 rfl, by simp⟩
          have h0 := congrArg (fun l => l[0]?) he
          simpa [cut, List.getElem?_take, List.getElem?_drop] using h0
    · rw [if_neg h1] at hx ⊢
      by_cases h2 : n.op = 2
      · rw [if_pos h2] at hx
        rw [if_neg (by omega), if_neg (by omega)]
        simp at hx
        subst hx
        constructor
        · rintro ⟨rfl, hi⟩
          exact ⟨by simp, hi, cut_self _ _⟩
        · rintro ⟨rfl, hj, _⟩
          exact ⟨by simp, by simpa using hj⟩
      · rw [if_neg h2] at hx; cases hx
  | .one n a, hk, ho, x, hx, i, j => by simp [Rx.whl] at hx
  | .two n a b, hk, ho, x, hx, i, j => by
    simp only [Rx.whl] at hx
    by_cases h3 : n.op = 3
    · rw [if_pos h3] at hx
      simp only [Fit, if_pos h3]
      cases hxa : a.whl with
      | none => rw [hxa] at hx; cases hx
      | some xa =>
        cases hxb : b.whl with
        | none => rw [hxa, hxb] at hx; cases hx
        | some xb =>
          rw [hxa, hxb] at hx
          simp at hx
          subst hx
          have fa := whl_fit s a hk.2.1 (fun m hm => ho m (by simp [Rx.flat, hm])) xa hxa
          have fb := whl_fit s b hk.2.2 (fun m hm => ho m (by simp [Rx.flat, hm])) xb hxb
          constructor
          · rintro ⟨k, h1, h2⟩
            obtain ⟨rfl, hk1, e1⟩ := (fa i k).1 h1
            obtain ⟨rfl, hk2, e2⟩ := (fb _ j).1 h2
            refine ⟨by simp; omega, hk2, ?_⟩
            rw [cut_trans (k := i + xa.length) (by omega) (by omega), e1, e2]
          · rintro ⟨rfl, hj, he⟩
            rw [List.length_append] at hj he
            have hc := cut_trans (s := s) (i := i) (k := i + xa.length) (j := i + (xa.length + xb.length)) (by omega) (by omega)
            rw [he] at hc
            have hl := cut_len (s := s) (i := i) (j := i + xa.length) (by omega) (by omega)
            obtain ⟨e1, e2⟩ := List.append_inj hc (by rw [hl]; omega)
            refine ⟨i + xa.length, (fa _ _).2 ⟨rfl, by omega, e1.symm⟩, (fb _ _).2 ⟨by simp; omega, by rw [List.length_append]; omega, ?_⟩⟩
            rw [List.length_append]
            exact e2.symm
    · rw [if_neg h3] at hx; cases hx
theorem longer_cases (x y : List UInt8) : longer x y = x ∨ longer x y = y := by unfold longer; split <;> simp
/-- What is needed stands in all that is fitted. -/
theorem ned_fit (s : List UInt8) : ∀ (t : Rx), t.Ok → (∀ n ∈ t.flat, 1 ≤ n.op ∧ n.op ≤ 9) → ∀ i j, Fit s t i j → ∃ p q, cut s i j = p ++ t.ned ++ q
  | .leaf n, hk, ho, i, j, hf => by
    unfold Rx.ned
    cases hx : (Rx.leaf n).whl with
    | none => exact ⟨[], cut s i j, by simp⟩
    | some x =>
      obtain ⟨_, _, e⟩ := (whl_fit s (.leaf n) hk ho x hx i j).1 hf
      exact ⟨[], [], by simp [e]⟩
  | .one n a, hk, ho, i, j, hf => by
    unfold Rx.ned
    by_cases h6 : n.op = 6
    · rw [if_pos h6]
      simp only [Fit] at hf
      rw [if_neg (by omega), if_pos h6] at hf
      obtain ⟨k, h1, h2⟩ := hf
      have hle : ∀ i j, Fit s a i j → i ≤ j ∧ j ≤ s.length := fit_le s a
      obtain ⟨p, q, e⟩ := ned_fit s a hk.2 (fun m hm => ho m (by simp [Rx.flat, hm])) i k h1
      refine ⟨p, q ++ cut s k j, ?_⟩
      rw [cut_trans (k := k) (hle i k h1).1 (Str.le hle h2).1, e]
      simp
    · rw [if_neg h6]
      exact ⟨[], cut s i j, by simp⟩
  | .two n a b, hk, ho, i, j, hf => by
    unfold Rx.ned
    cases hx : (Rx.two n a b).whl with
    | some x =>
      obtain ⟨_, _, e⟩ := (whl_fit s (.two n a b) hk ho x hx i j).1 hf
      exact ⟨[], [], by simp [e]⟩
    | none =>
      simp only
      by_cases h3 : n.op = 3
      · rw [if_pos h3]
        simp only [Fit, if_pos h3] at hf
        obtain ⟨k, h1, h2⟩ := hf
        rw [cut_trans (k := k) (fit_le s a i k h1).1 (fit_le s b k j h2).1]
        rcases longer_cases a.ned b.ned with e | e
        · rw [e]
          obtain ⟨p, q, e'⟩ := ned_fit s a hk.2.1 (fun m hm => ho m (by simp [Rx.flat, hm])) i k h1
          exact ⟨p, q ++ cut s k j, by rw [e']; simp⟩
        · rw [e]
          obtain ⟨p, q, e'⟩ := ned_fit s b hk.2.2 (fun m hm => ho m (by simp [Rx.flat, hm])) k j h2
          exact ⟨cut s i k ++ p, q, by rw [e']; simp⟩
      · rw [if_neg h3]
        exact ⟨[], cut s i j, by simp⟩
end Go.Proofs.YteeamifjldoihaaDoor
namespace Go.Proofs.YteeamifjldoihaaDoor
set_option linter.unusedSimpArgs false
set_option linter.unusedVariables false
set_option maxRecDepth 100000
open Go.RowKit
theorem ba_ext {a b : ByteArray} (h : a.data.toList = b.data.toList) : a = b := by
  cases a with
  | mk x =>
    cases b with
    | mk y =>
      congr 1
      exact Array.toList_inj.1 h
theorem cut_extract (s : ByteArray) (i j : Nat) : (s.extract i j).data.toList = cut s.data.toList i j := by
  rw [ByteArray.data_extract, Array.toList_extract]
  unfold cut
  simp [List.extract]
theorem size_list (s : ByteArray) : s.data.toList.length = s.size := by simp
theorem ba_beq (a b : ByteArray) : (a.toList == b.toList) = true ↔ a = b := by
  rw [beq_iff_eq, ByteArray.toList_eq, ByteArray.toList_eq]
  exact ⟨ba_ext, fun h => by rw [h]⟩
end Go.Proofs.YteeamifjldoihaaDoor
