/- What the document's own functions answer: WordsOf. What the document's own functions answer: WordsOf, of any words. What the document asks of package words. What the document's own functions answer: WordsFault. Two spans are the same. What winnowfansame.Hits answers. The law WordsIs, walked from what the document asks of package words. -/
import Derived.Test.YtciaagphclddjaaDoorY04
import Derived.Test.YtciaagphclddjaaDoorY02
import Derived.KernelRfl
import Derived.Test.YtciaagphclddjaaDoorY03
namespace Go.Proofs.YtciaagphclddjaaDoor
set_option linter.unusedSimpArgs false
set_option linter.unusedVariables false
set_option maxRecDepth 100000
open Go.RowKit
set_option maxHeartbeats 2000000 in
theorem stands_neg (s x : ByteArray) (i : Int) (hi : i < 0) (w : World) :
    Calls Tryd.prog 28 #[.string s, .int .i64 i, .string x] w fun e w' => e = .returned (.bool false) ∧ w' = w := by
  go_enter Tryd.func28, Tryd.ntmps28
  go_wp2
  go_ret
  exact ⟨rfl, rfl⟩
theorem stW_StA (s x : ByteArray) (e : Nat) (hx : x.size ≤ e) (he : e ≤ s.size) : stW s.data.toList e x.data.toList = true ↔ StA s (e - x.size) x := by
  have h1 : x.data.toList.length = x.size := by simp
  have h2 : s.data.toList.length = s.size := by simp
  rw [stW_iff, h1, h2]
  unfold StA
  rw [show e - x.size + x.size = e by omega]
  constructor
  · rintro ⟨_, h3, h4⟩
    exact ⟨h3, ba_ext (by rw [cut_extract, h4])⟩
  · rintro ⟨h3, h4⟩
    refine ⟨hx, h3, ?_⟩
    rw [← cut_extract, h4]
/-- Between two rounds of the inner loop. -/
def WoI (L : List (List UInt8)) (s : List UInt8) (w : World) (e i : Nat) (u : Value) (wz : World) : Prop := HtOwn wz w.heap.size u (hitsTo L s e ++ hitsAt L s e i) ∧ Below w.heap.size w wz
theorem WoI.form {L : List (List UInt8)} {s : List UInt8} {w : World} {e i : Nat} {u : Value} {wz : World} (h : WoI L s w e i u wz) : ∃ a n c, u = .slice a n c := by
  obtain ⟨a, c, h1⟩ := h.1.form
  exact ⟨a, _, c, h1⟩
theorem WoI.skip {L : List (List UInt8)} {s : List UInt8} {w : World} {e i : Nat} {u : Value} {wz : World} (h : WoI L s w e i u wz) (hn : hitOne s e i L[i]? = []) : WoI L s w e (i + 1) u wz := by
  refine ⟨?_, h.2⟩
  rw [hitsAt, hn, List.append_nil]
  exact h.1
set_option maxHeartbeats 8000000 in
theorem wordsOf_at (l : List ByteArray) (hl : l.length ≤ 20) (hx : ∀ x ∈ l, x.size ≤ 20) (s : ByteArray) (hs : s.size ≤ 400) (b off cap : Nat) (w : World) (hlt : b < w.heap.size) (hN : ∀ i t, l[i]? = some t → w.cell? ⟨b, off + i, none⟩ = some (.string t)) :
    Calls Tryd.prog 17 #[.slice (some ⟨b, off, none⟩) l.length cap, .string s] w fun e w' => ∃ u, e = .returned u ∧ HtIn w' u (hits (wdL l) s.data.toList) ∧ Below w.heap.size w w' := by
  have hsl : s.data.toList.length = s.size := by simp
  have HN := hid hN
  have HX := hid hx
  have hbig : ∀ m, m ≤ 401 → (hitsTo (wdL l) s.data.toList m).length ≤ 8020 := fun m hm => by
    have h1 := hitsTo_len (wdL l) s.data.toList m
    rw [wdL_len] at h1
    exact Nat.le_trans h1 (Nat.mul_le_mul hm hl)
  have H0 : Hid (WoI (wdL l) s.data.toList w 0 0 (.slice none 0 0) w) := ⟨HtOwn.nil _ _, Below.refl _ _⟩
  clear hN hx
  go_enter Tryd.func17, Tryd.ntmps17
  go_wp2_with fail
  go_loopw [5, 6] (fun u v wr => ∃ e : Nat, e ≤ s.size + 1 ∧ v = .int .i64 (e : Int) ∧ Hid (WoI (wdL l) s.data.toList w e 0 u wr)) (fun _ v _ => s.size + 1 - (intOf v).toNat)
  case atStart => exact ⟨0, by omega, rfl, H0⟩
  case round =>
    clear H0
    obtain ⟨e, he, rfl, HW⟩ := hrel
    obtain ⟨ua, un, uc, rfl⟩ := HW.out.form
    by_cases hes : e ≤ s.size
    · have g1 : (e : Int) ≤ (s.size : Int) := by omega
      go_wp2_with fail
      go_loopw [5, 7] (fun u v wz => ∃ i : Nat, i ≤ l.length ∧ v = .int .i64 (i : Int) ∧ Hid (WoI (wdL l) s.data.toList w e i u wz)) (fun _ v _ => l.length - (intOf v).toNat)
      case atStart => exact ⟨0, by omega, rfl, HW⟩
      case round =>
        clear HW
        obtain ⟨i, hi, rfl, HI⟩ := hrel
        obtain ⟨va, vn, vc, rfl⟩ := HI.out.form
        by_cases hil : i < l.length
        · obtain ⟨x, hxg⟩ : ∃ x, l[i]? = some x := ⟨l[i], List.getElem?_eq_getElem hil⟩
          have hxs := HX.out x (List.mem_of_getElem? hxg)
          have cx := (HI.out.2.cell (p := ⟨b, _, none⟩) hlt).trans (HN.out i x hxg)
          have g2 : (i : Int) < (l.length : Int) := by omega
          have i0 : (0 : Int) ≤ (i : Int) := by omega
          have HG : Hid ((wdL l)[i]? = some x.data.toList) := wdL_get hxg
          have hxl : x.data.toList.length = x.size := by simp
          clear hxg
          by_cases hxe : x.size ≤ e
          · have hwr : IntKind.i64.wrap ((e : Int) - (x.size : Int)) = ((e - x.size : Nat) : Int) := by rw [IntKind.wrap_i64]; omega
            have C := hid (stands_any s x (by omega) (by omega) (e - x.size) (by omega) wr)
            have HST := hid (stW_StA s x e hxe hes)
            go_wp2_with fail
            refine Calls.mono C.out ?_
            rintro e' w1 ⟨y, rfl, hy, rfl⟩
            have HYY := hid (hy.trans HST.out.symm)
            clear hy C HST
            cases y with
            | false =>
              have HI2 := hid (HI.out.skip (by
                rw [HG.out]
                have : ¬ stW s.data.toList e x.data.toList = true := fun h => by have := HYY.out.2 h; cases this
                simp only [hitOne]
                rw [if_neg this]))
              clear HYY HI
              go_wp2
              exact ⟨⟨i + 1, by omega, by go_num, HI2⟩, by simp [intOf]; omega⟩
            | true =>
              have hO := HI.out.1
              have hB := HI.out.2
              obtain ⟨_, _, hfm⟩ := hO.form
              injection hfm with hq1 hvn hq2
              clear hq1 hq2
              have hlen2 : (hitsTo (wdL l) s.data.toList e ++ hitsAt (wdL l) s.data.toList e i).length ≤ 8040 := by
                rw [List.length_append]
                have h1 := hbig e (by omega)
                have h2 := hitsAt_len (wdL l) s.data.toList e i
                omega
              subst hvn
              have HAP : Hid (hitsAt (wdL l) s.data.toList e (i + 1) = hitsAt (wdL l) s.data.toList e i ++ [(i, e - x.size, e)]) := by
                show _ = _
                rw [hitsAt, HG.out]
                simp only [hitOne]
                rw [if_pos (HYY.out.1 rfl), hxl]
              have HO2 := hid (hO.kept ((Below.refl _ _).alloc (Nat.le_refl _) (.cells #[.int .i64 (i : Int), .int .i64 ((e - x.size : Nat) : Int), .int .i64 (e : Int)] 64)))
              have HB2 := hid (hB.alloc hB.size (.cells #[.int .i64 (i : Int), .int .i64 ((e - x.size : Nat) : Int), .int .i64 (e : Int)] 64))
              clear HYY HI hO hB
              obtain ⟨LL, hLL⟩ : ∃ LL, hitsTo (wdL l) s.data.toList e ++ hitsAt (wdL l) s.data.toList e i = LL := ⟨_, rfl⟩
              rw [hLL] at HO2 hlen2 ⊢
              have HLL := hid hLL
              clear hLL
              go_wp2_with (at_builtin; refine wpList_append_ht rfl _ _ rfl w.heap.size _ rfl LL HO2.out w1.heap.size 1 (i, e - x.size, e) rfl (by rw [World.cell?_alloc_at (w := w1) _ _ w1.heap.size 0 rfl]; rfl) (by rw [World.cell?_alloc_at (w := w1) _ _ w1.heap.size 1 rfl]; rfl) (by rw [World.cell?_alloc_at (w := w1) _ _ w1.heap.size 2 rfl]; rfl) (by omega) HB2.out.size ?_; intro g cap' w2 hown hgr _ _)
              have HI2 : Hid (WoI (wdL l) s.data.toList w e (i + 1) (.slice (some ⟨g, 0, none⟩) (LL.length + 1) cap') w2) := by
                refine ⟨?_, HB2.out.trans (HO2.out.grown HB2.out.size hgr)⟩
                rw [HAP.out, ← List.append_assoc, HLL.out]
                exact hown
              clear hown hgr HO2 HB2
              exact ⟨⟨i + 1, by omega, by go_num, HI2⟩, by simp [intOf]; omega⟩
          · have hwr : IntKind.i64.wrap ((e : Int) - (x.size : Int)) = (e : Int) - (x.size : Int) := by rw [IntKind.wrap_i64]; omega
            have C := hid (stands_neg s x ((e : Int) - (x.size : Int)) (by omega) wr)
            have HI2 := hid (HI.out.skip (by
              rw [HG.out]
              have : ¬ stW s.data.toList e x.data.toList = true := fun h => by
                have := ((stW_iff _ _ _).1 h).1
                omega
              simp only [hitOne]
              rw [if_neg this]))
            clear HI
            go_wp2_with fail
            refine Calls.mono C.out ?_
            rintro e' w1 ⟨rfl, rfl⟩
            clear C
            go_wp2
            exact ⟨⟨i + 1, by omega, by go_num, HI2⟩, by simp [intOf]; omega⟩
        · have g2 : ¬ (i : Int) < (l.length : Int) := by omega
          have HW2 : Hid (WoI (wdL l) s.data.toList w (e + 1) 0 (.slice va vn vc) wr) := by
            refine ⟨?_, HI.out.2⟩
            have h1 := HI.out.1
            rw [show i = (wdL l).length by rw [wdL_len]; omega] at h1
            simpa [hitsTo, hitsAt] using h1
          clear HI
          go_wp2
          exact ⟨⟨e + 1, by omega, by go_num, HW2⟩, by simp [intOf]; omega⟩
    · have g1 : ¬ (e : Int) ≤ (s.size : Int) := by omega
      have HY : Hid (HtIn wr (.slice ua un uc) (hits (wdL l) s.data.toList) ∧ Below w.heap.size w wr) := by
        refine ⟨?_, HW.out.2⟩
        have h1 := HW.out.1
        rw [show e = s.data.toList.length + 1 by omega] at h1
        have h2 : HtOwn wr w.heap.size (.slice ua un uc) (hits (wdL l) s.data.toList) := by
          unfold hits
          simpa only [hitsAt, List.append_nil] using h1
        refine h2.isIn ?_
        have := hbig (s.data.toList.length + 1) (by omega)
        unfold hits maxLen
        omega
      clear HW
      go_wp2
      go_ret
      exact ⟨_, rfl, HY.out.1, HY.out.2⟩
end Go.Proofs.YtciaagphclddjaaDoor
namespace Go.Proofs.YtciaagphclddjaaDoor
set_option linter.unusedSimpArgs false
set_option linter.unusedVariables false
set_option maxRecDepth 100000
open Go.RowKit
theorem hits_nil (s : List UInt8) : hits [] s = [] := by
  have : ∀ m, hitsTo [] s m = [] := fun m => by
    induction m with
    | zero => rfl
    | succ m ih => rw [hitsTo, ih]; rfl
  exact this _
set_option maxHeartbeats 2000000 in
theorem wordsOf_nil (a : Option Addr) (cap : Nat) (s : ByteArray) (hs : s.size ≤ 400) (w : World) :
    Calls Tryd.prog 17 #[.slice a 0 cap, .string s] w fun e w' => e = .returned (.slice none 0 0) ∧ Below w.heap.size w w' := by
  have H0 : Hid (Below w.heap.size w w) := Below.refl _ _
  go_enter Tryd.func17, Tryd.ntmps17
  go_wp2_with fail
  go_loopw [5, 6] (fun u v wr => ∃ e : Nat, e ≤ s.size + 1 ∧ v = .int .i64 (e : Int) ∧ u = .slice none 0 0 ∧ Hid (Below w.heap.size w wr)) (fun _ v _ => s.size + 1 - (intOf v).toNat)
  case atStart => exact ⟨0, by omega, rfl, rfl, H0⟩
  case round =>
    clear H0
    obtain ⟨e, he, rfl, rfl, HW⟩ := hrel
    by_cases hes : e ≤ s.size
    · have g1 : (e : Int) ≤ (s.size : Int) := by omega
      go_wp2_with fail
      go_loopw [5, 7] (fun u v wz => u = .slice none 0 0 ∧ v = .int .i64 0 ∧ Hid (Below w.heap.size w wz)) (fun _ _ _ => 0)
      case atStart => exact ⟨rfl, rfl, HW⟩
      case round =>
        clear HW
        obtain ⟨rfl, rfl, HI⟩ := hrel
        go_wp2
        exact ⟨⟨e + 1, by omega, by go_num, rfl, HI⟩, by simp [intOf]; omega⟩
    · have g1 : (s.size : Int) < (e : Int) := by omega
      go_wp2
      go_ret
      exact ⟨rfl, HW.out⟩
theorem wordsOf_any (l : List ByteArray) (hl : l.length ≤ 20) (hx : ∀ x ∈ l, x.size ≤ 20) (s : ByteArray) (hs : s.size ≤ 400) (v : Value) (w : World) (hN : TsIn w v l) :
    Calls Tryd.prog 17 #[v, .string s] w fun e w' => ∃ u, e = .returned u ∧ HtIn w' u (hits (wdL l) s.data.toList) ∧ Below w.heap.size w w' := by
  obtain ⟨a, cap, rfl, hm, rfl | ⟨b, off, rfl, hlt, h⟩⟩ := hN
  · refine (wordsOf_nil a cap s hs w).mono ?_
    rintro e w' ⟨rfl, hb⟩
    refine ⟨_, rfl, ?_, hb⟩
    rw [show wdL [] = [] from rfl, hits_nil]
    exact htIn_nil _
  · exact wordsOf_at l hl hx s hs b off cap w hlt h
end Go.Proofs.YtciaagphclddjaaDoor
namespace Go.Proofs.YtciaagphclddjaaDoor
set_option linter.unusedSimpArgs false
set_option linter.unusedVariables false
set_option maxRecDepth 100000
open Go.RowKit
/-- What is wrong with words, or a text of n bytes. -/
noncomputable def wE (l : List ByteArray) (n : Nat) : Int := if wF l = 0 then (if 400 < n then 3 else 0) else wF l
theorem wE_zero (l : List ByteArray) (n : Nat) : wE l n = 0 ↔ wF l = 0 ∧ n ≤ 400 := by
  unfold wE
  by_cases h : wF l = 0
  · rw [if_pos h]
    by_cases h4 : 400 < n
    · rw [if_pos h4]; simp; omega
    · rw [if_neg h4]; simp [h]; omega
  · rw [if_neg h]; simp [h]
/-- What the document asks of All (X: what the library's tables hold). -/
structure WordsL (X : World → Prop) : Prop where
  bad : ∀ (l : List ByteArray) v (s : ByteArray) w, TsIn w v l → (∀ x ∈ l, x.size ≤ maxLen) → s.size ≤ maxLen → ¬ wE l s.size = 0 → Calls Tryd.prog 18 #[v, .string s] w fun e w' => ∃ u, e = .returned (.tuple #[u, errV (wE l s.size)]) ∧ Below w.heap.size w w' ∧ HtIn w' u []
  all : ∀ (l : List ByteArray) v (s : ByteArray) w, X w → TsIn w v l → (∀ x ∈ l, x.size ≤ maxLen) → wE l s.size = 0 → Calls Tryd.prog 18 #[v, .string s] w fun e w' => ∃ u, e = .returned (.tuple #[u, .nilIface]) ∧ Below w.heap.size w w' ∧ HtIn w' u (hits (wdL l) s.data.toList)
theorem wHas_app {l : List ByteArray} {x y : ByteArray} {k : Nat} (h : wHas l x k) : wHas (l ++ [y]) x k := by
  obtain ⟨m, h1, h2⟩ := h
  refine ⟨m, h1, ?_⟩
  have : m < l.length := by
    rcases Nat.lt_or_ge m l.length with h' | h'
    · exact h'
    · rw [List.getElem?_eq_none h'] at h2; cases h2
  rw [List.getElem?_append_left this]
  exact h2
theorem wBad_zero {l : List ByteArray} {i : Nat} {x : ByteArray} (hx : l[i]? = some x) (h : wBad l i = 0) : ¬ (x.size < 1 ∨ 20 < x.size) ∧ ¬ wHas l x i := by
  refine ⟨fun hc => ?_, fun hc => ?_⟩
  · rw [wBad_size hx hc] at h; cases h
  · by_cases hs : x.size < 1 ∨ 20 < x.size
    · rw [wBad_size hx hs] at h; cases h
    · rw [wBad_has hx hs hc] at h; cases h
theorem wFrom_of (l : List ByteArray) : ∀ n i, (∀ k, i ≤ k → k < i + n → wBad l k = 0) → wFrom l n i = 0
  | 0, i, _ => rfl
  | n + 1, i, h => by
    rw [wFrom, if_pos (h i (by omega) (by omega))]
    exact wFrom_of l n (i + 1) (fun k h1 h2 => h k (by omega) (by omega))
/-- Words that may be, one taken away. -/
theorem wF_less {l : List ByteArray} {y : ByteArray} (h : wF (l ++ [y]) = 0) : wF l = 0 ∧ wF [y] = 0 := by
  obtain ⟨h1, h2⟩ := wF_zero h
  have h20 : l.length ≤ 20 := by simp at h1; omega
  have hz : ∀ k, k < l.length + 1 → wBad (l ++ [y]) k = 0 := fun k hk => by
    unfold wF at h
    rw [if_neg (by omega)] at h
    exact wFrom_zero _ _ 0 h k (by omega) (by simp; omega)
  constructor
  · unfold wF
    rw [if_neg (by omega)]
    refine wFrom_of l _ 0 fun k _ hk => ?_
    have hk' : k < l.length := by omega
    have hx : l[k]? = some l[k] := List.getElem?_eq_getElem hk'
    have hx2 : (l ++ [y])[k]? = some l[k] := by rw [List.getElem?_append_left hk']; exact hx
    obtain ⟨a1, a2⟩ := wBad_zero hx2 (hz k (by omega))
    exact wBad_ok hx a1 (fun hc => a2 (wHas_app hc))
  · unfold wF
    rw [if_neg (by simp)]
    have hy := h2 y (by simp)
    refine wFrom_of [y] _ 0 fun k _ hk => ?_
    obtain rfl : k = 0 := by simp at hk; omega
    exact wBad_ok (x := y) rfl (by omega) (fun ⟨m, hm, _⟩ => by omega)
/-- What the document asks of Check. -/
structure WordsK (X : World → Prop) : Prop where
  chk : ∀ (l : List ByteArray) v w, X w → TsIn w v l → (∀ x ∈ l, x.size ≤ maxLen) → Calls Tryd.prog 16 #[v] w fun e w' => e = .returned (errV (wF l)) ∧ Below w.heap.size w w'
end Go.Proofs.YtciaagphclddjaaDoor
namespace Go.Proofs.YtciaagphclddjaaDoor
set_option linter.unusedSimpArgs false
set_option linter.unusedVariables false
set_option maxRecDepth 100000
open Go.RowKit
set_option maxHeartbeats 8000000 in
theorem wordsFault_at (l : List ByteArray) (hl : l.length ≤ 20) (hsz : ∀ x ∈ l, x.size ≤ maxLen) (a : Option Addr) (cap : Nat) (w : World) (ha : l = [] ∨ ∃ b off, a = some ⟨b, off, none⟩ ∧ b < w.heap.size ∧ ∀ i t, l[i]? = some t → w.cell? ⟨b, off + i, none⟩ = some (.string t)) :
    Calls Tryd.prog 15 #[.slice a l.length cap] w fun e w' => e = .returned (.int .i64 (wF l)) ∧ Below w.heap.size w w' := by
  have HZ : Hid (wF l = wFrom l l.length 0) := by show _ = _; unfold wF; rw [if_neg (by omega)]
  have g20 : ¬ (20 : Int) < (l.length : Int) := by omega
  have HA := hid ha
  have HS := hid hsz
  clear ha hsz
  go_enter Tryd.func15, Tryd.ntmps15
  go_wp2_with fail
  go_loopw [3] (fun v wr => ∃ i : Nat, i ≤ l.length ∧ v = .int .i64 (i : Int) ∧ Hid (wF l = wFrom l (l.length - i) i) ∧ Hid (Below w.heap.size w wr)) (fun v _ => l.length - (intOf v).toNat)
  case atStart => exact ⟨0, by omega, rfl, HZ, Below.refl _ _⟩
  case round =>
    obtain ⟨i, hi, rfl, HI, HB⟩ := hrel
    by_cases hil : i < l.length
    · obtain ⟨x, hx⟩ : ∃ x, l[i]? = some x := ⟨l[i], List.getElem?_eq_getElem hil⟩
      obtain ⟨b, off, hab, hlt, hN⟩ : ∃ b off, a = some ⟨b, off, none⟩ ∧ b < w.heap.size ∧ ∀ i t, l[i]? = some t → w.cell? ⟨b, off + i, none⟩ = some (.string t) := by
        rcases HA.out with h | h
        · rw [h] at hil; simp at hil
        · exact h
      subst hab
      have hxm := HS.out x (List.mem_of_getElem? hx)
      unfold maxLen at hxm
      have cx := (HB.out.cell (p := ⟨b, _, none⟩) hlt).trans (hN i x hx)
      have g1 : (i : Int) < (l.length : Int) := by omega
      have i0 : (0 : Int) ≤ (i : Int) := by omega
      have HW : Hid (wFrom l (l.length - i) i = if wBad l i = 0 then wFrom l (l.length - (i + 1)) (i + 1) else wBad l i) := by
        show _ = _
        rw [show l.length - i = (l.length - (i + 1)) + 1 by omega, wFrom]
      have HXG := hid hx
      have HNN := hid hN
      clear hx hN
      by_cases h1 : x.size < 1
      · have h1i : (x.size : Int) < 1 := by omega
        have HR : Hid (wF l = 5) := by
          show _ = _
          have hb := wBad_size HXG.out (Or.inl h1)
          rw [HI.out, HW.out, hb]
          rfl
        clear h1
        go_wp2
        go_ret
        exact ⟨by rw [HR.out]; rfl, HB.out⟩
      · by_cases h2 : 20 < x.size
        · have h1i : ¬ (x.size : Int) < 1 := by omega
          have h2i : (20 : Int) < (x.size : Int) := by omega
          have HR : Hid (wF l = 5) := by
            show _ = _
            have hb := wBad_size HXG.out (Or.inr h2)
            rw [HI.out, HW.out, hb]
            rfl
          clear h1 h2
          go_wp2
          go_ret
          exact ⟨by rw [HR.out]; rfl, HB.out⟩
        · have h1i : ¬ (x.size : Int) < 1 := by omega
          have h2i : ¬ (20 : Int) < (x.size : Int) := by omega
          have HSZ : Hid (¬ (x.size < 1 ∨ 20 < x.size)) := by show ¬ _; omega
          clear h1 h2
          go_wp2_with fail
          have HB0 := HB
          clear cx
          go_loopw [4] (fun v wz => ∃ k : Nat, k ≤ i ∧ v = .int .i64 (k : Int) ∧ Hid (¬ wHas l x k) ∧ Hid (Below w.heap.size w wz)) (fun v _ => i - (intOf v).toNat)
          case atStart => exact ⟨0, by omega, rfl, (fun ⟨m, h, _⟩ => by omega), HB0⟩
          case round =>
            clear HB HB0
            obtain ⟨k, hk, rfl, HK, HB⟩ := hrel
            by_cases hki : k < i
            · obtain ⟨y, hy⟩ : ∃ y, l[k]? = some y := ⟨l[k]'(by omega), List.getElem?_eq_getElem (by omega)⟩
              have cx := (HB.out.cell (p := ⟨b, _, none⟩) hlt).trans (HNN.out i x HXG.out)
              have cy := (HB.out.cell (p := ⟨b, _, none⟩) hlt).trans (HNN.out k y hy)
              have g2 : (k : Int) < (i : Int) := by omega
              have g3 : (k : Int) < (l.length : Int) := by omega
              have k0 : (0 : Int) ≤ (k : Int) := by omega
              have HYG := hid hy
              clear hy
              obtain ⟨q, hq⟩ : ∃ q, (y.toList == x.toList) = q := ⟨_, rfl⟩
              cases q with
              | true =>
                have HR : Hid (wF l = 6) := by
                  show _ = _
                  have hyx : y = x := (ba_beq y x).1 hq
                  have hb := wBad_has HXG.out HSZ.out ⟨k, hki, by rw [HYG.out, hyx]⟩
                  rw [HI.out, HW.out, hb]
                  rfl
                go_wp2_with fail
                go_quiet (fail)
                go_wp2
                go_ret
                exact ⟨by rw [HR.out]; rfl, HB.out.trans ((below_drewN' wr nq).mono HB.out.size)⟩
              | false =>
                have HK2 : Hid (¬ wHas l x (k + 1)) := by
                  rintro ⟨m, h1, h2⟩
                  rcases Nat.lt_or_ge m k with h3 | h3
                  · exact HK.out ⟨m, h3, h2⟩
                  · obtain rfl : m = k := by omega
                    rw [HYG.out] at h2
                    have := (ba_beq y x).2 (Option.some.inj h2)
                    rw [hq] at this
                    cases this
                go_wp2_with fail
                go_quiet (fail)
                go_wp2
                exact ⟨⟨k + 1, by omega, by go_num, HK2, HB.out.trans ((below_drewN' wr nq).mono HB.out.size)⟩, by simp [intOf]; omega⟩
            · obtain rfl : k = i := by omega
              have g2 : ¬ (k : Int) < (k : Int) := by omega
              have HR : Hid (wF l = wFrom l (l.length - (k + 1)) (k + 1)) := by
                show _ = _
                rw [HI.out, HW.out, wBad_ok HXG.out HSZ.out HK.out, if_pos rfl]
              clear HK HI HW
              go_wp2
              exact ⟨⟨k + 1, by omega, by go_num, HR, HB⟩, by simp [intOf]; omega⟩
    · have g1 : ¬ (i : Int) < (l.length : Int) := by omega
      have HR : Hid (wF l = 0) := by
        show _ = _
        rw [HI.out, show l.length - i = 0 by omega, wFrom]
      clear HI
      go_wp2
      go_ret
      exact ⟨by rw [HR.out]; rfl, HB.out⟩
set_option maxHeartbeats 1000000 in
theorem wordsFault_any (l : List ByteArray) (hsz : ∀ x ∈ l, x.size ≤ maxLen) (v : Value) (w : World) (hN : TsIn w v l) :
    Calls Tryd.prog 15 #[v] w fun e w' => e = .returned (.int .i64 (wF l)) ∧ Below w.heap.size w w' := by
  obtain ⟨a, cap, rfl, hm, h⟩ := hN
  by_cases h20 : 20 < l.length
  · have g20 : (20 : Int) < (l.length : Int) := by omega
    have HR : Hid (wF l = 3) := by show _ = _; unfold wF; rw [if_pos h20]
    unfold maxLen at hm
    clear h
    go_enter Tryd.func15, Tryd.ntmps15
    go_wp2
    go_ret
    exact ⟨by rw [HR.out]; rfl, Below.refl _ _⟩
  · exact wordsFault_at l (by omega) hsz a cap w h
end Go.Proofs.YtciaagphclddjaaDoor
namespace Go.Proofs.YtciaagphclddjaaDoor
set_option linter.unusedSimpArgs false
set_option linter.unusedVariables false
set_option maxRecDepth 100000
open Go.RowKit
theorem list2sp {α : Type} (l : List α) (h : l.length = 2) : ∃ a b, l = [a, b] := by
  match l, h with
  | [a, b], _ => exact ⟨a, b, rfl⟩
/-- Two spans are the same. -/
theorem eqSpd (d : Nat) (a b c e : Int) (w : World) : (Op.equalIn (d + 1 + 1) 62 (.agg #[.int .i64 a, .int .i64 b]) (.agg #[.int .i64 c, .int .i64 e])).run Tryd.prog w = .ok (a == c && b == e) w := by
  have hs : Tryd.prog.underlying 62 = some (.struct (Tryd.prog.fieldsOf 62)) := by kernel_rfl
  have hp : Tryd.prog.stoodInHeld 62 = false := by kernel_rfl
  rw [run_equalIn_struct w (d + 1) _ _ _ hs hp]
  have hf : (Tryd.prog.fieldsOf 62).toList.map (fun f => (f.type, f.offset, f.name == "_")) = [(3, 0, false), (3, 1, false)] := by kernel_rfl
  generalize (Tryd.prog.fieldsOf 62).toList = fs at hf
  obtain ⟨f0, f1, rfl⟩ := list2sp fs (by have := congrArg List.length hf; simpa using this)
  · simp only [List.map_cons, List.map_nil, List.cons.injEq, Prod.mk.injEq, and_true] at hf
    obtain ⟨⟨t0, o0, n0⟩, ⟨t1, o1, n1⟩⟩ := hf
    have n0' : f0.name ≠ "_" := by simpa using n0
    have n1' : f1.name ≠ "_" := by simpa using n1
    have hi : ∀ (a b : Int) (w : World), (Op.equalIn (d + 1) 3 (.int .i64 a) (.int .i64 b)).run Tryd.prog w = .ok (a == b) w := fun a b w => run_equalIn_int w d 3 .i64 .i64 a b Tryd.underlying3
    have q0 : ∀ (x y : Int) (w : World), (part 3 #[.int .i64 x, .int .i64 y] 0).run Tryd.prog w = .ok (.int .i64 x) w := fun _ _ _ => by kernel_rfl
    have q1 : ∀ (x y : Int) (w : World), (part 3 #[.int .i64 x, .int .i64 y] 1).run Tryd.prog w = .ok (.int .i64 y) w := fun _ _ _ => by kernel_rfl
    simp only [Op.eqFields, t0, o0, t1, o1, ne_eq, n0', n1', not_false_eq_true, if_true, Sem.run_bind, q0, q1, Result.andThen_ok, hi, Sem.run_ite, Sem.run_pure]
    cases h1 : a == c <;> cases h2 : b == e <;> simp [q1, hi, h2]
theorem eqSp (a b c e : Int) (w : World) : (Op.equalIn 10000 62 (.agg #[.int .i64 a, .int .i64 b]) (.agg #[.int .i64 c, .int .i64 e])).run Tryd.prog w = .ok (a == c && b == e) w := eqSpd 9998 a b c e w
end Go.Proofs.YtciaagphclddjaaDoor
namespace Go.Proofs.YtciaagphclddjaaDoor
set_option linter.unusedSimpArgs false
set_option linter.unusedVariables false
set_option maxRecDepth 100000
open Go.RowKit
/-- Two hits are the same. -/
theorem eqHtd (d : Nat) (k a b k' c e : Int) (w : World) : (Op.equalIn (d + 1 + 1 + 1) 64 (.agg #[.int .i64 k, .int .i64 a, .int .i64 b]) (.agg #[.int .i64 k', .int .i64 c, .int .i64 e])).run Tryd.prog w = .ok (k == k' && (a == c && b == e)) w := by
  have hs : Tryd.prog.underlying 64 = some (.struct (Tryd.prog.fieldsOf 64)) := by kernel_rfl
  have hp : Tryd.prog.stoodInHeld 64 = false := by kernel_rfl
  rw [run_equalIn_struct w (d + 1 + 1) _ _ _ hs hp]
  have hf : (Tryd.prog.fieldsOf 64).toList.map (fun f => (f.type, f.offset, f.name == "_")) = [(3, 0, false), (62, 1, false)] := by kernel_rfl
  generalize (Tryd.prog.fieldsOf 64).toList = fs at hf
  obtain ⟨f0, f1, rfl⟩ := list2sp fs (by have := congrArg List.length hf; simpa using this)
  · simp only [List.map_cons, List.map_nil, List.cons.injEq, Prod.mk.injEq, and_true] at hf
    obtain ⟨⟨t0, o0, n0⟩, ⟨t1, o1, n1⟩⟩ := hf
    have n0' : f0.name ≠ "_" := by simpa using n0
    have n1' : f1.name ≠ "_" := by simpa using n1
    have hi : ∀ (a b : Int) (w : World), (Op.equalIn (d + 1 + 1) 3 (.int .i64 a) (.int .i64 b)).run Tryd.prog w = .ok (a == b) w := fun a b w => run_equalIn_int w (d + 1) 3 .i64 .i64 a b Tryd.underlying3
    have hc : ∀ (a b c e : Int) (w : World), (Op.equalIn (d + 1 + 1) 62 (.agg #[.int .i64 a, .int .i64 b]) (.agg #[.int .i64 c, .int .i64 e])).run Tryd.prog w = .ok (a == c && b == e) w := fun a b c e w => eqSpd d a b c e w
    have q0 : ∀ (x y z : Int) (w : World), (part 3 #[.int .i64 x, .int .i64 y, .int .i64 z] 0).run Tryd.prog w = .ok (.int .i64 x) w := fun _ _ _ _ => by kernel_rfl
    have q1 : ∀ (x y z : Int) (w : World), (part 62 #[.int .i64 x, .int .i64 y, .int .i64 z] 1).run Tryd.prog w = .ok (.agg #[.int .i64 y, .int .i64 z]) w := fun _ _ _ _ => by kernel_rfl
    simp only [Op.eqFields, t0, o0, t1, o1, ne_eq, n0', n1', not_false_eq_true, if_true, Sem.run_bind, q0, q1, Result.andThen_ok, hi, hc, Sem.run_ite, Sem.run_pure]
    cases h1 : k == k' <;> cases h2 : a == c <;> cases h3 : b == e <;> simp [q1, hc, h2, h3]
theorem eqHt (k a b k' c e : Int) (w : World) : (Op.equalIn 10000 64 (.agg #[.int .i64 k, .int .i64 a, .int .i64 b]) (.agg #[.int .i64 k', .int .i64 c, .int .i64 e])).run Tryd.prog w = .ok (k == k' && (a == c && b == e)) w := eqHtd 9997 k a b k' c e w
/-- Two lists of hits are the same. -/
def htEq : List (Nat × Nat × Nat) → List (Nat × Nat × Nat) → Bool
  | [], [] => true
  | x :: r, y :: q => ((x.1 : Int) == (y.1 : Int) && ((x.2.1 : Int) == (y.2.1 : Int) && (x.2.2 : Int) == (y.2.2 : Int))) && htEq r q
  | _, _ => false
theorem htEq_self : ∀ x, htEq x x = true
  | [] => rfl
  | x :: r => by simp [htEq, htEq_self r]
theorem htEq_iff : ∀ x y, htEq x y = true ↔ x = y
  | [], [] => by simp [htEq]
  | [], y :: q => by simp [htEq]
  | x :: r, [] => by simp [htEq]
  | x :: r, y :: q => by
    obtain ⟨a, b, b'⟩ := x
    obtain ⟨c, d, d'⟩ := y
    simp only [htEq, Bool.and_eq_true, htEq_iff r q, beq_iff_eq, List.cons.injEq, Prod.mk.injEq]
    constructor
    · rintro ⟨⟨h1, h2, h4⟩, h3⟩; exact ⟨⟨by omega, by omega, by omega⟩, h3⟩
    · rintro ⟨⟨h1, h2, h4⟩, h3⟩; exact ⟨⟨by omega, by omega, by omega⟩, h3⟩
theorem htEq_len : ∀ (x y : List (Nat × Nat × Nat)), x.length ≠ y.length → htEq x y = false := by
  intro x y h
  cases he : htEq x y with
  | false => rfl
  | true => exact absurd (congrArg List.length ((htEq_iff x y).1 he)) h
theorem htEq_drop : ∀ (x y : List (Nat × Nat × Nat)) (i : Nat) (n m : Nat × Nat × Nat), x[i]? = some n → y[i]? = some m → htEq (x.drop i) (y.drop i) = (((n.1 : Int) == (m.1 : Int) && ((n.2.1 : Int) == (m.2.1 : Int) && (n.2.2 : Int) == (m.2.2 : Int))) && htEq (x.drop (i + 1)) (y.drop (i + 1)))
  | [], y, i, n, m, h, h' => by simp at h
  | x :: r, [], i, n, m, h, h' => by simp at h'
  | x :: r, y :: q, 0, n, m, h, h' => by
    simp at h h'
    subst h h'
    rfl
  | x :: r, y :: q, i + 1, n, m, h, h' => by
    simp only [List.drop_succ_cons]
    exact htEq_drop r q i n m (by simpa using h) (by simpa using h')
set_option maxHeartbeats 1000000 in
theorem hits_s_len (x y : List (Nat × Nat × Nat)) (a1 a2 : Option Addr) (c1 c2 : Nat) (h1 : x.length ≤ maxLen) (h2 : y.length ≤ maxLen) (hne : x.length ≠ y.length) (w : World) :
    Calls Tryd.prog 19 #[.slice a1 x.length c1, .slice a2 y.length c2] w fun e w' => e = .returned (.bool (htEq x y)) ∧ Below w.heap.size w w' := by
  rw [htEq_len x y hne]
  have hb : ((x.length : Int) != (y.length : Int)) = true := by rw [bne_iff_ne]; omega
  clear hne
  go_enter Tryd.func19, Tryd.ntmps19
  go_wp2
  go_ret
  exact ⟨rfl, Below.refl _ _⟩
set_option maxHeartbeats 4000000 in
theorem hits_s_same (x y : List (Nat × Nat × Nat)) (b1 o1 b2 o2 : Nat) (c1 c2 : Nat) (h1 : x.length ≤ maxLen) (hlen : x.length = y.length) (w : World) (hl1 : b1 < w.heap.size) (hl2 : b2 < w.heap.size) (hx : HtAt w b1 o1 x) (hy : HtAt w b2 o2 y) :
    Calls Tryd.prog 19 #[.slice (some ⟨b1, o1, none⟩) x.length c1, .slice (some ⟨b2, o2, none⟩) x.length c2] w fun e w' => e = .returned (.bool (htEq x y)) ∧ Below w.heap.size w w' := by
  unfold maxLen at h1
  have he := eqHt
  have HL := (show Hid _ from hlen)
  clear hlen
  go_enter Tryd.func19, Tryd.ntmps19
  go_wp2
  go_loopw [5] (fun v wr => ∃ i : Nat, i ≤ x.length ∧ v = .int .i64 i ∧ Hid (htEq x y = htEq (x.drop i) (y.drop i)) ∧ Below w.heap.size w wr) (fun v _ => x.length - (intOf v).toNat)
  case atStart => exact ⟨0, by omega, rfl, Eq.refl _, Below.refl _ _⟩
  case round =>
    obtain ⟨i, hi, rfl, HS, hB⟩ := hrel
    by_cases hil : i < x.length
    · obtain ⟨n, hn⟩ : ∃ n, x[i]? = some n := ⟨x[i], List.getElem?_eq_getElem hil⟩
      obtain ⟨m, hm⟩ : ∃ m, y[i]? = some m := ⟨y[i]'(by rw [← HL.out]; exact hil), List.getElem?_eq_getElem (by rw [← HL.out]; exact hil)⟩
      obtain ⟨a0, a1, a2⟩ := (hx.below hB hl1) i n hn
      obtain ⟨d0, d1, d2⟩ := (hy.below hB hl2) i m hm
      have HD : Hid _ := hid (htEq_drop x y i n m hn hm)
      have i0 : (0 : Int) ≤ (i : Int) := by omega
      have i1 : (i : Int) < (x.length : Int) := by omega
      clear hn hm
      obtain ⟨p, hp⟩ : ∃ p, p = ((n.1 : Int) == (m.1 : Int) && ((n.2.1 : Int) == (m.2.1 : Int) && (n.2.2 : Int) == (m.2.2 : Int))) := ⟨_, rfl⟩
      have hq : ∀ w, (Op.equalIn 10000 64 (.agg #[.int .i64 (n.1 : Int), .int .i64 (n.2.1 : Int), .int .i64 (n.2.2 : Int)]) (.agg #[.int .i64 (m.1 : Int), .int .i64 (m.2.1 : Int), .int .i64 (m.2.2 : Int)])).run Tryd.prog w = .ok p w := fun w => by rw [hp]; exact he _ _ _ _ _ _ w
      rw [← hp] at HD
      clear he hp
      cases p
      · have HF : Hid (htEq x y = false) := by show _ = _; rw [HS.out, HD.out]; rfl
        go_wp2_with fail
        go_quiet (fail)
        go_wp2
        go_ret
        exact ⟨by rw [HF.out]; rfl, hB.trans ((below_drewN' wr nq).mono hB.size)⟩
      · have HF : Hid (htEq x y = htEq (x.drop (i + 1)) (y.drop (i + 1))) := by show _ = _; rw [HS.out, HD.out]; rfl
        go_wp2_with fail
        go_quiet (fail)
        go_wp2
        exact ⟨⟨i + 1, by omega, by go_num, HF, hB.trans ((below_drewN' wr nq).mono hB.size)⟩, by simp [intOf]; omega⟩
    · have HF : Hid (htEq x y = true) := by
        show _ = _
        have e1 : x.drop i = [] := List.drop_eq_nil_of_le (by omega)
        have e2 : y.drop i = [] := List.drop_eq_nil_of_le (by have := HL.out; omega)
        rw [HS.out, e1, e2]; rfl
      go_wp2
      go_ret
      exact ⟨by rw [HF.out]; rfl, hB⟩
set_option maxHeartbeats 1000000 in
theorem hits_s_nil (a1 a2 : Option Addr) (c1 c2 : Nat) (w : World) :
    Calls Tryd.prog 19 #[.slice a1 0 c1, .slice a2 0 c2] w fun e w' => e = .returned (.bool true) ∧ Below w.heap.size w w' := by
  go_enter Tryd.func19, Tryd.ntmps19
  go_wp2
  go_loop [5] (fun v => v = .int .i64 0) (fun _ => 0)
  case atStart => rfl
  case round =>
    subst hrel
    go_wp2
    go_ret
    exact ⟨rfl, Below.refl _ _⟩
theorem hits_s_any (x y : List (Nat × Nat × Nat)) (v u : Value) (w : World) (hx : HtIn w v x) (hy : HtIn w u y) :
    Calls Tryd.prog 19 #[v, u] w fun e w' => e = .returned (.bool (htEq x y)) ∧ Below w.heap.size w w' := by
  obtain ⟨a1, c1, rfl, h1, hx⟩ := hx
  obtain ⟨a2, c2, rfl, h2, hy⟩ := hy
  by_cases hlen : x.length = y.length
  · rcases hx with hx | ⟨b1, o1, rfl, hl1, hx⟩
    · subst hx
      have : y = [] := List.eq_nil_of_length_eq_zero (by simpa using hlen.symm)
      subst this
      exact hits_s_nil a1 a2 c1 c2 w
    · rcases hy with hy | ⟨b2, o2, rfl, hl2, hy⟩
      · subst hy
        have : x = [] := List.eq_nil_of_length_eq_zero (by simpa using hlen)
        subst this
        exact hits_s_nil _ a2 c1 c2 w
      · rw [← hlen]
        exact hits_s_same x y b1 o1 b2 o2 c1 c2 h1 hlen w hl1 hl2 hx hy
  · exact hits_s_len x y a1 a2 c1 c2 h1 h2 hlen w
end Go.Proofs.YtciaagphclddjaaDoor
namespace Go.Proofs.YtciaagphclddjaaDoor
set_option linter.unusedSimpArgs false
set_option linter.unusedVariables false
set_option maxRecDepth 100000
open Go.RowKit
theorem hits_all (l : List ByteArray) (hl : l.length ≤ 20) (s : List UInt8) (hs : s.length ≤ 400) : (hits (wdL l) s).length ≤ 8020 := by
  have h1 := hitsTo_len (wdL l) s (s.length + 1)
  rw [wdL_len] at h1
  exact Nat.le_trans h1 (Nat.le_trans (Nat.mul_le_mul (show s.length + 1 ≤ 401 by omega) hl) (by decide))
set_option maxHeartbeats 4000000 in
theorem wordsIs_bad {X : World → Prop} (hXb : ∀ w w', X w → Below w.heap.size w w' → X w') (K : WordsK X) (W : WordsL X) (l : List ByteArray) (v : Value) (s : ByteArray) (hs : s.size ≤ maxLen) (w : World) (hX : X w) (hN : TsIn w v l) (wN : ∀ x ∈ l, x.size ≤ maxLen) (hE : w.cell? ⟨0, 0, none⟩ = some (rty 27)) (h0 : 0 < w.heap.size) (hf : ¬ wF l = 0) :
    Calls Tryd.prog 4 #[v, .string s] w fun e w' => e = .returned (.bool true) ∧ Below w.heap.size w w' := by
  have hwE : wE l s.size = wF l := by unfold wE; rw [if_neg hf]
  have HFA : Hid (∀ w', Below w.heap.size w w' → _) := fun w' hb => wordsFault_any l wN v w' (hN.below hb)
  have HCK : Hid (∀ w', Below w.heap.size w w' → _) := fun w' hb => K.chk l v w' (hXb w w' hX hb) (hN.below hb) wN
  have HAL : Hid (∀ w', Below w.heap.size w w' → _) := fun w' hb => W.bad l v s w' (hN.below hb) wN hs (by rw [hwE]; exact hf)
  rw [hwE] at HAL
  have HE1 : Hid (∀ w', Below w.heap.size w w' → _) := fun w' hb => error_self (wF l) w' ((hb.cell (p := ⟨0, 0, none⟩) h0).trans hE)
  rw [show errV (wF l) = .iface 23 (.int .i64 (wF l)) by unfold errV; rw [if_neg hf]] at HCK HAL HE1
  have fz : (wF l == 0) = false := by rw [beq_eq_false_iff_ne]; exact hf
  have HH := hid (fun w' u (h : HtIn w' u []) => hits_s_any [] [] u (.slice none 0 0) w' h (htIn_nil w'))
  have B := hid (Below.refl w.heap.size w)
  obtain ⟨va, vc, rfl, vm, _⟩ := hN
  clear W K hX hXb hwE
  go_enter Tryd.func4, Tryd.ntmps4
  go_wp2_with fail
  refine Calls.mono (HFA.out _ B.out) ?_
  rintro e w1 ⟨rfl, hb⟩
  replace B := hid (B.out.trans (hb.mono B.out.size))
  clear hb
  go_wp2_with fail
  refine Calls.mono (HCK.out _ B.out) ?_
  rintro e w2 ⟨rfl, hb⟩
  replace B := hid (B.out.trans (hb.mono B.out.size))
  clear hb
  go_wp2_with fail
  refine Calls.mono (HE1.out _ B.out) ?_
  rintro e w3 ⟨rfl, hb⟩
  replace B := hid (B.out.trans (hb.mono B.out.size))
  clear hb
  go_wp2_with fail
  refine Calls.mono (HAL.out _ B.out) ?_
  rintro e w4 ⟨u, rfl, hb, hu⟩
  replace B := hid (B.out.trans (hb.mono B.out.size))
  clear hb
  obtain ⟨ua, uc, rfl, um⟩ := htIn_form hu
  go_wp2_with fail
  refine Calls.mono (HE1.out _ B.out) ?_
  rintro e w5 ⟨rfl, hb⟩
  replace B := hid (B.out.trans (hb.mono B.out.size))
  have hu5 := hu.below hb
  clear hb
  go_wp2_with fail
  refine Calls.mono (HH.out _ _ hu5) ?_
  rintro e w6 ⟨rfl, hb⟩
  replace B := hid (B.out.trans (hb.mono B.out.size))
  go_wp2
  go_ret
  exact ⟨rfl, B.out⟩
set_option maxHeartbeats 4000000 in
theorem wordsIs_full {X : World → Prop} (hXb : ∀ w w', X w → Below w.heap.size w w' → X w') (K : WordsK X) (W : WordsL X) (l : List ByteArray) (v : Value) (s : ByteArray) (hs : s.size ≤ maxLen) (w : World) (hX : X w) (hN : TsIn w v l) (wN : ∀ x ∈ l, x.size ≤ maxLen) (hE : w.cell? ⟨0, 0, none⟩ = some (rty 27)) (h0 : 0 < w.heap.size) (hf : wF l = 0) (h4 : 400 < s.size) :
    Calls Tryd.prog 4 #[v, .string s] w fun e w' => e = .returned (.bool true) ∧ Below w.heap.size w w' := by
  have hwE : wE l s.size = 3 := by unfold wE; rw [if_pos hf, if_pos h4]
  have HFA : Hid (∀ w', Below w.heap.size w w' → _) := fun w' hb => wordsFault_any l wN v w' (hN.below hb)
  have HCK : Hid (∀ w', Below w.heap.size w w' → _) := fun w' hb => K.chk l v w' (hXb w w' hX hb) (hN.below hb) wN
  have HAL : Hid (∀ w', Below w.heap.size w w' → _) := fun w' hb => W.bad l v s w' (hN.below hb) wN hs (by rw [hwE]; decide)
  rw [hwE] at HAL
  have HE1 : Hid (∀ w', Below w.heap.size w w' → _) := fun w' hb => error_self 0 w' ((hb.cell (p := ⟨0, 0, none⟩) h0).trans hE)
  have HE3 : Hid (∀ w', Below w.heap.size w w' → _) := fun w' hb => error_self 3 w' ((hb.cell (p := ⟨0, 0, none⟩) h0).trans hE)
  rw [hf] at HFA HCK
  rw [show errV 0 = .nilIface from rfl] at HCK HE1
  rw [show errV 3 = .iface 23 (.int .i64 3) from rfl] at HAL HE3
  have g4 : (400 : Int) < (s.size : Int) := by omega
  have HH := hid (fun w' u (h : HtIn w' u []) => hits_s_any [] [] u (.slice none 0 0) w' h (htIn_nil w'))
  have B := hid (Below.refl w.heap.size w)
  obtain ⟨va, vc, rfl, vm, _⟩ := hN
  unfold maxLen at hs
  clear W K hX hXb hwE
  go_enter Tryd.func4, Tryd.ntmps4
  go_wp2_with fail
  refine Calls.mono (HFA.out _ B.out) ?_
  rintro e w1 ⟨rfl, hb⟩
  replace B := hid (B.out.trans (hb.mono B.out.size))
  clear hb
  go_wp2_with fail
  refine Calls.mono (HCK.out _ B.out) ?_
  rintro e w2 ⟨rfl, hb⟩
  replace B := hid (B.out.trans (hb.mono B.out.size))
  clear hb
  go_wp2_with fail
  refine Calls.mono (HE1.out _ B.out) ?_
  rintro e w3 ⟨rfl, hb⟩
  replace B := hid (B.out.trans (hb.mono B.out.size))
  clear hb
  go_wp2_with fail
  refine Calls.mono (HAL.out _ B.out) ?_
  rintro e w4 ⟨u, rfl, hb, hu⟩
  replace B := hid (B.out.trans (hb.mono B.out.size))
  clear hb
  obtain ⟨ua, uc, rfl, um⟩ := htIn_form hu
  go_wp2_with fail
  refine Calls.mono (HE3.out _ B.out) ?_
  rintro e w5 ⟨rfl, hb⟩
  replace B := hid (B.out.trans (hb.mono B.out.size))
  have hu5 := hu.below hb
  clear hb
  go_wp2_with fail
  refine Calls.mono (HH.out _ _ hu5) ?_
  rintro e w6 ⟨rfl, hb⟩
  replace B := hid (B.out.trans (hb.mono B.out.size))
  go_wp2
  go_ret
  exact ⟨rfl, B.out⟩
set_option maxHeartbeats 4000000 in
theorem wordsIs_ok {X : World → Prop} (hXb : ∀ w w', X w → Below w.heap.size w w' → X w') (K : WordsK X) (W : WordsL X) (l : List ByteArray) (v : Value) (s : ByteArray) (w : World) (hX : X w) (hN : TsIn w v l) (wN : ∀ x ∈ l, x.size ≤ maxLen) (hE : w.cell? ⟨0, 0, none⟩ = some (rty 27)) (h0 : 0 < w.heap.size) (hf : wF l = 0) (h4 : s.size ≤ 400) :
    Calls Tryd.prog 4 #[v, .string s] w fun e w' => e = .returned (.bool true) ∧ Below w.heap.size w w' := by
  obtain ⟨h20, hsz⟩ := wF_zero hf
  have HFA : Hid (∀ w', Below w.heap.size w w' → _) := fun w' hb => wordsFault_any l wN v w' (hN.below hb)
  have HCK : Hid (∀ w', Below w.heap.size w w' → _) := fun w' hb => K.chk l v w' (hXb w w' hX hb) (hN.below hb) wN
  have HAL : Hid (∀ w', Below w.heap.size w w' → _) := fun w' hb => W.all l v s w' (hXb w w' hX hb) (hN.below hb) wN ((wE_zero l s.size).2 ⟨hf, h4⟩)
  have HWO : Hid (∀ w', Below w.heap.size w w' → _) := fun w' hb => wordsOf_any l h20 (fun x hx => (hsz x hx).2) s h4 v w' (hN.below hb)
  have HE1 : Hid (∀ w', Below w.heap.size w w' → _) := fun w' hb => error_self 0 w' ((hb.cell (p := ⟨0, 0, none⟩) h0).trans hE)
  rw [hf] at HFA HCK
  rw [show errV 0 = .nilIface from rfl] at HCK HE1
  have g4 : (s.size : Int) ≤ 400 := by omega
  have HH := hid (fun w' u u' (h : HtIn w' u (hits (wdL l) s.data.toList)) (h' : HtIn w' u' (hits (wdL l) s.data.toList)) => hits_s_any _ _ u u' w' h h')
  rw [htEq_self] at HH
  have B := hid (Below.refl w.heap.size w)
  obtain ⟨va, vc, rfl, vm, _⟩ := hN
  clear W K hX hXb
  go_enter Tryd.func4, Tryd.ntmps4
  go_wp2_with fail
  refine Calls.mono (HFA.out _ B.out) ?_
  rintro e w1 ⟨rfl, hb⟩
  replace B := hid (B.out.trans (hb.mono B.out.size))
  clear hb
  go_wp2_with fail
  refine Calls.mono (HCK.out _ B.out) ?_
  rintro e w2 ⟨rfl, hb⟩
  replace B := hid (B.out.trans (hb.mono B.out.size))
  clear hb
  go_wp2_with fail
  refine Calls.mono (HE1.out _ B.out) ?_
  rintro e w3 ⟨rfl, hb⟩
  replace B := hid (B.out.trans (hb.mono B.out.size))
  clear hb
  go_wp2_with fail
  refine Calls.mono (HWO.out _ B.out) ?_
  rintro e w3' ⟨u', rfl, hu', hb⟩
  replace B := hid (B.out.trans (hb.mono B.out.size))
  clear hb
  obtain ⟨ua', uc', rfl, um'⟩ := htIn_form hu'
  have HU' := hid hu'
  clear hu'
  go_wp2_with fail
  refine Calls.mono (HAL.out _ B.out) ?_
  rintro e w4 ⟨u, rfl, hb, hu⟩
  replace B := hid (B.out.trans (hb.mono B.out.size))
  replace HU' := hid (HU'.out.below hb)
  clear hb
  obtain ⟨ua, uc, rfl, um⟩ := htIn_form hu
  have HU := hid hu
  clear hu
  go_wp2_with fail
  refine Calls.mono (HE1.out _ B.out) ?_
  rintro e w5 ⟨rfl, hb⟩
  replace B := hid (B.out.trans (hb.mono B.out.size))
  replace HU' := hid (HU'.out.below hb)
  replace HU := hid (HU.out.below hb)
  clear hb
  go_wp2_with fail
  refine Calls.mono (HH.out _ _ _ HU.out HU'.out) ?_
  rintro e w6 ⟨rfl, hb⟩
  replace B := hid (B.out.trans (hb.mono B.out.size))
  go_wp2
  go_ret
  exact ⟨rfl, B.out⟩
theorem wordsIs_any {X : World → Prop} (hXb : ∀ w w', X w → Below w.heap.size w w' → X w') (K : WordsK X) (W : WordsL X) (l : List ByteArray) (v : Value) (s : ByteArray) (hs : s.size ≤ maxLen) (w : World) (hX : X w) (hN : TsIn w v l) (wN : ∀ x ∈ l, x.size ≤ maxLen) (hE : w.cell? ⟨0, 0, none⟩ = some (rty 27)) (h0 : 0 < w.heap.size) :
    Calls Tryd.prog 4 #[v, .string s] w fun e w' => e = .returned (.bool true) ∧ Below w.heap.size w w' := by
  by_cases hf : wF l = 0
  · by_cases h4 : 400 < s.size
    · exact wordsIs_full hXb K W l v s hs w hX hN wN hE h0 hf h4
    · exact wordsIs_ok hXb K W l v s w hX hN wN hE h0 hf (by omega)
  · exact wordsIs_bad hXb K W l v s hs w hX hN wN hE h0 hf
end Go.Proofs.YtciaagphclddjaaDoor
