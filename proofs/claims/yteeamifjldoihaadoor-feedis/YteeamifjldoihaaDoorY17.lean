/- The law FeedIs, walked from what the document asks of package feed. -/
import Derived.Test.YteeamifjldoihaaDoorY14
import Derived.Test.YteeamifjldoihaaDoorY16
import Derived.Test.YteeamifjldoihaaDoorY13
import Derived.Test.YteeamifjldoihaaDoorY03
import Derived.Test.YteeamifjldoihaaDoorY10
import Derived.Deep.CutRange
import Derived.BigQuiet
namespace Go.Proofs.YteeamifjldoihaaDoor
set_option linter.unusedSimpArgs false
set_option linter.unusedVariables false
set_option maxRecDepth 100000
open Go.RowKit
/-- A feed of the call's own, and what lies below. -/
structure FdS (Fv : (Nat → Prop) → World → Value → Rx → List UInt8 → Bool → Prop) (w : World) (u : Value) (F : Nat → Prop) (t : Rx) (s : List UInt8) (d : Bool) (wr : World) : Prop where
  f : Fv F wr u t s d
  lo : ∀ k, F k → w.heap.size ≤ k
  b : Below w.heap.size w wr
theorem FdS.below {X : World → Prop} {Fv : (Nat → Prop) → World → Value → Rx → List UInt8 → Bool → Prop} (C : FeedC X Fv) {w : World} {u : Value} {F : Nat → Prop} {t : Rx} {s : List UInt8} {d : Bool} {wr w' : World} (h : FdS Fv w u F t s d wr) (hb : Below wr.heap.size wr w') : FdS Fv w u F t s d w' :=
  ⟨C.keep F (fun _ => False) wr w' u t s d h.f (But.below hb) (fun _ h => h.elim), h.lo, h.b.trans (hb.mono h.b.size)⟩
theorem FdS.turn {Fv : (Nat → Prop) → World → Value → Rx → List UInt8 → Bool → Prop} {w : World} {u : Value} {F : Nat → Prop} {t : Rx} {s : List UInt8} {d : Bool} {wr w' : World} (h : FdS Fv w u F t s d wr) {F' : Nat → Prop} {s' : List UInt8} {d' : Bool} (hf : Fv F' w' u t s' d') (hb : But F wr w') (ho : Onto F F' wr) : FdS Fv w u F' t s' d' w' :=
  ⟨hf, fun k hk => by
    rcases ho k hk with h1 | h1
    · exact h.lo k h1
    · exact Nat.le_trans h.b.size h1, h.b.trans (hb.to h.b.size h.lo)⟩
theorem isIn_lastF {w : World} {a : Option Addr} {l : List Nat} {cap : Nat} (h : IsIn w (.slice a l.length cap) l) (hl : l ≠ []) : ∃ b off, a = some ⟨b, off, none⟩ ∧ ∃ x, l.getLast? = some x ∧ w.cell? ⟨b, off + (l.length - 1), none⟩ = some (.int .i64 (x : Int)) := by
  obtain ⟨a', cap', e, hm, h | ⟨b, off, rfl, hlt, hn⟩⟩ := h
  · exact absurd h hl
  · injection e with e1 e2 e3
    subst e1
    refine ⟨b, off, rfl, l.getLast hl, List.getLast?_eq_some_getLast hl, ?_⟩
    apply hn
    have hp : 0 < l.length := List.length_pos_iff.2 hl
    rw [List.getLast_eq_getElem, List.getElem?_eq_getElem (by omega)]
set_option maxHeartbeats 4000000 in
theorem feedIs_bad {X : World → Prop} {Fv : (Nat → Prop) → World → Value → Rx → List UInt8 → Bool → Prop} (C : FeedC X Fv) (ns : List Nd) (v lv : Value) (l : List ByteArray) (w : World) (hN : NsIn w v ns) (hw : ∀ n ∈ ns, n.wf) (hL : TsIn w lv l) (hE : w.cell? ⟨0, 0, none⟩ = some (rty 28)) (h0 : 0 < w.heap.size) (hf : ¬ faultL ns = 0) :
    Calls Tryd.prog 3 #[v, lv] w fun e w' => e = .returned (.bool true) ∧ Below w.heap.size w w' := by
  have HO : Hid (NdOk ns) := fun n hn => C4.wf_ok (hw n hn).2
  have H0 : Hid _ := h0
  have S0 : Hid (Stay w w) := ⟨Below.refl _ _, hE⟩
  have CF : Hid _ := fault_any ns HO.out v w hN
  have C1 : Hid (∀ w', Below w.heap.size w w' → _) := fun w' hb => C.bad ns v w' (hN.below hb) hw hf
  obtain ⟨a, cap, rfl, hm⟩ := nsIn_form hN
  obtain ⟨la, lc, rfl, lm, -⟩ := hL
  have pf : (faultL ns == 0) = false := by simp [hf]
  clear hw C hN hE h0 hf
  generalize faultL ns = ft at *
  go_enter Tryd.func3, Tryd.ntmps3
  go_wp2_with fail
  refine Calls.mono (CF.out) ?_
  rintro e w1 ⟨rfl, hb⟩
  have S1 : Hid (Stay w w1) := S0.out.more H0.out hb
  clear hb
  go_wp2_with fail
  refine Calls.mono (C1.out _ S1.out.b) ?_
  rintro e w2 ⟨ua, rfl, hb⟩
  have S2 : Hid (Stay w w2) := S1.out.more H0.out hb
  clear hb
  go_wp2_with fail
  refine Calls.mono (error_self _ _ S2.out.e) ?_
  rintro e w3 ⟨rfl, hb⟩
  have S3 : Hid (Stay w w3) := S2.out.more H0.out hb
  clear hb
  go_wp2_with fail
  go_ret
  exact ⟨rfl, S3.out.b⟩
set_option maxHeartbeats 16000000 in
theorem feedIs_ok {X : World → Prop} {Fv : (Nat → Prop) → World → Value → Rx → List UInt8 → Bool → Prop} (hXb : Lasts X) (C : FeedC X Fv) (t : Rx) (ht : t.Ok) (v lv : Value) (l : List ByteArray) (lw : ∀ x ∈ l, x.size ≤ 140737488355328) (w : World) (hX : X w) (hN : NsIn w v t.flat) (hw : ∀ n ∈ t.flat, n.wf) (hL : TsIn w lv l) (hE : w.cell? ⟨0, 0, none⟩ = some (rty 28)) (h0 : 0 < w.heap.size) (hf : faultL t.flat = 0) :
    Calls Tryd.prog 3 #[v, lv] w fun e w' => e = .returned (.bool true) ∧ Below w.heap.size w w' := by
  have HO : Hid (NdOk t.flat) := fun n hn => C4.wf_ok (hw n hn).2
  have H0 : Hid _ := h0
  have HEE := hid hE
  have S0 : Hid (Stay w w) := ⟨Below.refl _ _, hE⟩
  have CF : Hid _ := fault_any t.flat HO.out v w hN
  rw [hf] at CF
  obtain ⟨hl60, hr, hv⟩ := (faultL_zero t.flat).1 hf
  have HRR : Hid (∀ n ∈ t.flat, (1 ≤ n.op ∧ n.op ≤ 9) ∧ n.c.ok) := fun n hn => ⟨(hr n hn).1, HO.out n hn⟩
  have C1 : Hid (∀ w', Below w.heap.size w w' → _) := fun w' hb => C.new t v w' (hXb w w' hX hb) ht (hN.below hb) hw hf
  have HXX : Hid (∀ w', Below w.heap.size w w' → X w') := fun w' hb => hXb w w' hX hb
  have HEN : Hid (∀ (s : ByteArray) lE w', s.size ≤ 400 → EndsR s.data.toList t 0 lE → Below w.heap.size w w' → _) := fun s lE w' hs hE hb => endsOf_any t ht v s (by omega) 0 (by omega) lE hE w' (hN.below hb) HRR.out hl60
  have HC := hid C
  have HLW := hid lw
  obtain ⟨a, cap, rfl, hm⟩ := nsIn_form hN
  obtain ⟨la, lc, rfl, lm, hla⟩ := hL
  have HLA := hid hla
  unfold maxLen at lm
  clear hw C hN hE h0 hf hr hv hl60 hXb hX ht hla lw
  go_enter Tryd.func3, Tryd.ntmps3
  go_wp2_with fail
  refine Calls.mono (CF.out) ?_
  rintro e w1 ⟨rfl, hb⟩
  have S1 : Hid (Stay w w1) := S0.out.more H0.out hb
  clear hb
  go_wp2_with fail
  refine Calls.mono (C1.out _ S1.out.b) ?_
  rintro e w2 ⟨u, F, d, rfl, hf, hb, hF⟩
  have HS2 : Hid (FdS Fv w u F t [] d w2) := ⟨hf, fun k hk => Nat.le_trans S1.out.b.size (hF k hk), S1.out.b.trans (hb.mono S1.out.b.size)⟩
  have S2 : Hid (Stay w w2) := S1.out.more H0.out hb
  obtain ⟨ua, rfl⟩ := HC.out.ptr F w2 u t [] d hf
  clear hb hf hF
  go_wp2_with fail
  refine Calls.mono (error_self 0 _ S2.out.e) ?_
  rintro e w3 ⟨rfl, hb⟩
  have HS3 : Hid (∃ (s : ByteArray) (F : Nat → Prop) (d : Bool), s.size ≤ 400 ∧ s = ⟨#[]⟩ ∧ FdS Fv w (.pointer (some ua)) F t s.data.toList d w3) := ⟨⟨#[]⟩, F, d, by decide, rfl, HS2.out.below HC.out hb⟩
  clear hb HS2
  go_wp2_with fail
  go_loopw [9, 10] (fun sv v wr => ∃ (i : Nat) (s : ByteArray) (F : Nat → Prop) (d : Bool), i ≤ l.length ∧ i ≤ 12 ∧ v = .int .i64 (i : Int) ∧ sv = .string s ∧ s.size ≤ 400 ∧ Hid (FdS Fv w (.pointer (some ua)) F t s.data.toList d wr)) (fun _ v _ => l.length - (intOf v).toNat)
  case atStart =>
    obtain ⟨s, F, d, h1, h2, h3⟩ := HS3.out
    exact ⟨0, s, F, d, by omega, by omega, rfl, by rw [h2], h1, h3⟩
  case round =>
    clear HS3
    obtain ⟨i, s, F, d, hi, hi12, rfl, rfl, hs4, HF⟩ := hrel
    by_cases hil : i < l.length ∧ i < 12
    · obtain ⟨hil, hi2⟩ := hil
      obtain ⟨x, hx⟩ : ∃ x, l[i]? = some x := ⟨l[i], List.getElem?_eq_getElem hil⟩
      obtain ⟨b, off, hab, hlt, hN⟩ : ∃ b off, la = some ⟨b, off, none⟩ ∧ b < w.heap.size ∧ ∀ i t, l[i]? = some t → w.cell? ⟨b, off + i, none⟩ = some (.string t) := by
        rcases HLA.out with h | h
        · rw [h] at hil; simp at hil
        · exact h
      subst hab
      have hxm := HLW.out x (List.mem_of_getElem? hx)
      have cx := (HF.out.b.cell (p := ⟨b, _, none⟩) hlt).trans (hN i x hx)
      have g1 : (i : Int) < (l.length : Int) := by omega
      have g2 : (i : Int) < 12 := by omega
      have g3 : decide ((i : Int) < 12) = true := by rw [decide_eq_true_iff]; omega
      have g4 : decide (i < 12) = true := by rw [decide_eq_true_iff]; omega
      have g5 : decide (i < l.length) = true := by rw [decide_eq_true_iff]; omega
      have g6 : decide ((i : Int) < (l.length : Int)) = true := by rw [decide_eq_true_iff]; omega
      have i0 : (0 : Int) ≤ (i : Int) := by omega
      have hw1 : IntKind.i64.wrap ((s.size : Int) + (x.size : Int)) = (s.size : Int) + (x.size : Int) := by rw [IntKind.wrap_i64]; omega
      have hwi : IntKind.i64.wrap ((i : Int) + 1) = (i : Int) + 1 := by rw [IntKind.wrap_i64]; omega
      obtain ⟨s', hs'⟩ : ∃ s', (if 400 < s.size + x.size then s else s ++ x) = s' := ⟨_, rfl⟩
      obtain ⟨e', he'⟩ : ∃ e' : Int, (if 400 < s.size + x.size then (3 : Int) else 0) = e' := ⟨_, rfl⟩
      have hs4' : s'.size ≤ 400 := by
        rw [← hs']
        by_cases h : 400 < s.size + x.size
        · rw [if_pos h]; exact hs4
        · rw [if_neg h, ByteArray.size_append]; omega
      have CP : Hid (Calls Tryd.prog 8 #[.pointer (some ua), .string x] wr fun e w' => e = .returned (errV e') ∧ Turns F wr w' (fun F' => ∃ d', Fv F' w' (.pointer (some ua)) t s'.data.toList d')) := by
        show Calls _ _ _ _ _
        have hsl : s.data.toList.length = s.size := by simp
        by_cases h : 400 < s.size + x.size
        · rw [if_pos h] at hs' he'
          subst hs'
          subst he'
          exact (HC.out.full F wr _ t s.data.toList d x (HXX.out _ HF.out.b) HF.out.f hxm (by omega)).mono fun e w' ⟨h1, F', h2, h3, h4⟩ => ⟨h1, F', ⟨d, h2⟩, h3, h4⟩
        · rw [if_neg h] at hs' he'
          subst hs'
          subst he'
          refine (HC.out.put F wr _ t s.data.toList d x (HXX.out _ HF.out.b) HF.out.f hxm (by omega)).mono fun e w' ⟨h1, F', ⟨d', _, h2⟩, h3, h4⟩ => ⟨h1, F', ⟨d', ?_⟩, h3, h4⟩
          rw [show (s ++ x).data.toList = s.data.toList ++ x.data.toList by simp]
          exact h2
      have HS' := hid hs'
      have HE' := hid he'
      clear hs' he' hx hN
      go_upto_if 49 with fail
      go_cut [9, 11] from 50 to 102 (fun v9 v11 wc => v9 = .string s' ∧ v11 = .int .i64 e' ∧ wc = wr)
      case first =>
        by_cases hfull : 400 < s.size + x.size
        · have q1 := HS'.out
          have q2 := HE'.out
          rw [if_pos hfull] at q1 q2
          subst q1
          subst q2
          have hfi : (400 : Int) < (s.size : Int) + (x.size : Int) := by omega
          go_wp2_with fail
          go_meet
          case rel => exact ⟨rfl, rfl, rfl⟩
        · have q1 := HS'.out
          have q2 := HE'.out
          rw [if_neg hfull] at q1 q2
          subst q1
          subst q2
          have hfi : ¬ (400 : Int) < (s.size : Int) + (x.size : Int) := by omega
          go_wp2_with fail
          go_meet
          case rel => exact ⟨rfl, rfl, rfl⟩
      case rest =>
      obtain ⟨rfl, rfl, rfl⟩ := hcut
      clear HS' HE' hw1
      go_wp2_with fail
      refine Calls.mono CP.out ?_
      rintro e w4 ⟨rfl, F4, ⟨d4, hf4⟩, hb4, ho4⟩
      have HF4 := hid (HF.out.turn hf4 hb4 ho4)
      clear CP hf4 hb4 ho4 HF
      go_wp2_with fail
      refine Calls.mono (error_self _ _ ((HF4.out.b.cell (p := ⟨0, 0, none⟩) H0.out).trans HEE.out)) ?_
      rintro e w5 ⟨rfl, hb5⟩
      have HF5 := hid (HF4.out.below HC.out hb5)
      clear hb5 HF4
      obtain ⟨lE, hlE⟩ := ends_total s'.data.toList t 0
      have CE := hid (HEN.out s' lE w5 hs4' hlE HF5.out.b)
      have HLE := hid hlE
      clear hlE
      go_wp2_with fail
      refine Calls.mono CE.out ?_
      rintro e w6 ⟨u6, rfl, hb6, hI⟩
      have HF6 := hid (HF5.out.below HC.out hb6)
      have HI6 := hid hI
      obtain ⟨ea, ec, rfl, em⟩ := isIn_form hI
      clear hb6 hI HF5 CE
      obtain ⟨y, hy⟩ : ∃ y : Bool, (y = true ↔ Fit s'.data.toList t 0 s'.data.toList.length) := ⟨@decide _ (Classical.propDecidable _), @decide_eq_true_iff _ (Classical.propDecidable _)⟩
      have HY := hid hy
      clear hy
      have hsl' : s'.data.toList.length = s'.size := by simp
      obtain ⟨nl, hnl⟩ : ∃ nl, lE.length = nl := ⟨_, rfl⟩
      rw [hnl]
      have HNL := hid hnl
      clear hnl
      go_upto_region 16 with fail
      go_cut [13] from 67 to 102 (fun v wc => v = .bool y ∧ wc = w6)
      case first =>
        rcases Nat.eq_zero_or_pos nl with hz | hz
        · subst hz
          have hnil : lE = [] := List.eq_nil_of_length_eq_zero HNL.out
          have hyf : y = false := by
            cases y with
            | false => rfl
            | true =>
              have h := HLE.out.all.2 (HY.out.1 rfl)
              rw [hnil] at h
              cases h
          subst hyf
          clear hnil HLE HY HI6 HNL
          go_wp2_with fail
          go_meet
          case rel => exact ⟨rfl, rfl⟩
        · obtain ⟨be, oe, rfl, xl, hxl, hce⟩ := isIn_lastF HI6.out (by intro e; have h := HNL.out; rw [e] at h; simp at h; omega)
          obtain ⟨k, hkk⟩ : ∃ k, nl = k + 1 := ⟨nl - 1, by omega⟩
          subst hkk
          have hk := HNL.out
          have hyx : y = decide (xl = s'.size) := by
            rw [Bool.eq_iff_iff, HY.out, decide_eq_true_iff, ← HLE.out.all, hxl, hsl']
            simp
          have hkl : k ≤ s'.size := by have := HLE.out.len; rw [hk, hsl'] at this; omega
          rw [hk, Nat.add_sub_cancel] at hce
          have k0 : (0 : Int) ≤ (k : Int) := by omega
          have k1 : (k : Int) < (k : Int) + 1 := by omega
          have k2 : (0 : Int) < (k : Int) + 1 := by omega
          clear hz hk HLE HY HI6 hxl HNL
          by_cases hxs : xl = s'.size
          · have pxs : ((xl : Int) == (s'.size : Int)) = true := by rw [beq_iff_eq]; omega
            rw [decide_eq_true hxs] at hyx
            subst hyx
            clear hxs
            go_wp2_with fail
            go_meet
            case rel => exact ⟨rfl, rfl⟩
          · have pxs : ((xl : Int) == (s'.size : Int)) = false := by rw [beq_eq_false_iff_ne]; omega
            rw [decide_eq_false hxs] at hyx
            subst hyx
            clear hxs
            go_wp2_with fail
            go_meet
            case rel => exact ⟨rfl, rfl⟩
      case rest =>
      obtain ⟨rfl, rfl⟩ := hcut
      clear HI6 HLE
      have CL := hid (HC.out.len F4 _ _ t _ d4 (HXX.out _ HF6.out.b) HF6.out.f)
      rw [hsl'] at CL
      have HSL := hid hsl'
      clear hsl'
      go_wp2_with fail
      refine Calls.mono CL.out ?_
      rintro e w7 ⟨rfl, F7, hf7, hb7, ho7⟩
      have HF7 := hid (HF6.out.turn hf7 hb7 ho7)
      clear CL hf7 hb7 ho7 HF6
      have CY := hid (HC.out.yes F7 _ _ t _ d4 y (HXX.out _ HF7.out.b) HF7.out.f HY.out)
      go_wp2_with fail
      refine Calls.mono CY.out ?_
      rintro e w8 ⟨rfl, F8, hf8, hb8, ho8⟩
      have HF8 := hid (HF7.out.turn hf8 hb8 ho8)
      clear CY hf8 hb8 ho8 HF7
      cases y with
      | false =>
        clear HY HNL
        go_wp2
        exact ⟨⟨i + 1, s', F8, d4, by omega, by omega, by go_num, rfl, hs4', HF8⟩, by simp [intOf]; omega⟩
      | true =>
        have hd : d4 = false := by
          cases d4 with
          | false => rfl
          | true =>
            have h := HC.out.dead F8 _ _ t _ HF8.out.f []
            rw [List.append_nil] at h
            exact absurd (HY.out.1 rfl) h
        have CD := hid (HC.out.said F8 _ _ t _ d4 (HXX.out _ HF8.out.b) HF8.out.f)
        rw [hd] at CD
        have HD := hid hd
        clear hd
        go_wp2_with fail
        refine Calls.mono CD.out ?_
        rintro e w9 ⟨rfl, F9, hf9, hb9, ho9⟩
        have HF9 := hid (HF8.out.turn hf9 hb9 ho9)
        clear CD hf9 hb9 ho9 HF8 HY HNL
        go_wp2
        exact ⟨⟨i + 1, s', F9, false, by omega, by omega, by go_num, rfl, hs4', HF9⟩, by simp [intOf]; omega⟩
    · have HB := hid HF.out.b
      clear HF
      rcases Nat.lt_or_ge i l.length with h1 | h1
      · have g1 : (i : Int) < (l.length : Int) := by omega
        have g2 : ¬ (i : Int) < 12 := by omega
        have g3 : decide ((i : Int) < 12) = false := by rw [decide_eq_false_iff_not]; omega
        have g4 : decide (i < 12) = false := by rw [decide_eq_false_iff_not]; omega
        clear hil
        go_wp2
        go_ret
        exact ⟨rfl, HB.out⟩
      · have g1 : ¬ (i : Int) < (l.length : Int) := by omega
        clear hil
        go_wp2
        go_ret
        exact ⟨rfl, HB.out⟩
theorem feedIs_any {X : World → Prop} {Fv : (Nat → Prop) → World → Value → Rx → List UInt8 → Bool → Prop} (hXb : Lasts X) (C : FeedC X Fv) (ns : List Nd) (v lv : Value) (l : List ByteArray) (lw : ∀ x ∈ l, x.size ≤ 140737488355328) (w : World) (hX : X w) (hN : NsIn w v ns) (hw : ∀ n ∈ ns, n.wf) (hL : TsIn w lv l) (hE : w.cell? ⟨0, 0, none⟩ = some (rty 28)) (h0 : 0 < w.heap.size) :
    Calls Tryd.prog 3 #[v, lv] w fun e w' => e = .returned (.bool true) ∧ Below w.heap.size w w' := by
  by_cases hf : faultL ns = 0
  · obtain ⟨_, hr, hv⟩ := (faultL_zero ns).1 hf
    obtain ⟨t, ht, rfl⟩ := tree_of ns hv
    exact feedIs_ok hXb C t ht v lv l lw w hX hN hw hL hE h0 hf
  · exact feedIs_bad C ns v lv l w hN hw hL hE h0 hf
end Go.Proofs.YteeamifjldoihaaDoor
