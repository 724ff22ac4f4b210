/- Package words: netOf: the net of words that may be. Package words: slices.Index and slices.Contains of texts; Check: what the document asks of it. Package words: All: what the document asks of it. -/
import Derived.Test.YtciaagphclddjaaY09
import Derived.Test.YtciaagphclddjaaY04
import Derived.Lib.QuietBelow
import Derived.Deep.CutRange
import Derived.Test.YtciaagphclddjaaY08
namespace Go.Proofs.Ytciaagphclddjaa
set_option linter.unusedSimpArgs false
set_option linter.unusedVariables false
set_option maxRecDepth 100000
open Go.RowKit Go.Shelf
theorem NtI.below {L : List (List UInt8)} {w : World} {N root m j j' : Nat} {kb mb : List UInt8 → Nat} {ev : List UInt8 → Value} {wr w' : World} (h : NtI L w N root m j j' kb mb ev wr) (hb : Below wr.heap.size wr w') : NtI L w N root m j j' kb mb ev w' :=
  ⟨h.net.below hb, h.root, (hb.block _ (hpLt h.at_)).trans h.at_, h.b.trans (hb.mono h.b.size)⟩
theorem atA_start (L : List (List UInt8)) (r : Nat) : atA L (fun _ => r) 0 0 = repC L.length L.length r := by
  unfold atA repC
  rw [Nat.sub_self, List.replicate_zero, List.append_nil]
  congr 1
  simp [List.map_const']
/-- What a call of netOf leaves. -/
def NetP (L : List (List UInt8)) (w : World) (e : Ending) (w' : World) : Prop := ∃ kb mb ev, e = .returned (.pointer (some ⟨kb [], 0, none⟩)) ∧ Net (inN L 20 0) (enN L 20 0) kb mb ev w.heap.size w' ∧ Below w.heap.size w w'
set_option maxHeartbeats 16000000 in
theorem netOf_any (l : List ByteArray) (v : Value) (w : World) (h : TsIn w v l) (hsz : ∀ x ∈ l, x.size ≤ maxLen) (hL : WOk (wdL l)) :
    Calls Try.prog 16 #[v] w (NetP (wdL l) w) := by
  obtain ⟨a, cap, rfl, hm, ha⟩ := h
  have hl20 : l.length ≤ 20 := by have := hL.many; rwa [wdL_len] at this
  obtain ⟨L, hLL⟩ : ∃ L, wdL l = L := ⟨_, rfl⟩
  have hll : L.length = l.length := by rw [← hLL, wdL_len]
  obtain ⟨W1, hW1⟩ : ∃ W1, w.alloc (.map #[] 0) = W1 := ⟨_, rfl⟩
  obtain ⟨W2, hW2⟩ : ∃ W2, W1.alloc (.cells #[.map (some w.heap.size), .pointer none, .slice none 0 0] 59) = W2 := ⟨_, rfl⟩
  have hs1 : W1.heap.size = w.heap.size + 1 := by rw [← hW1]; simp
  have hs2 : W2.heap.size = w.heap.size + 2 := by rw [← hW2]; simp [hs1]
  obtain ⟨W3, hW3⟩ : ∃ W3, W2.alloc (.cells #[.pointer (some ⟨w.heap.size + 1, 0, none⟩)] 53) = W3 := ⟨_, rfl⟩
  have hs3 : W3.heap.size = w.heap.size + 3 := by rw [← hW3]; simp [hs2]
  have hn2 : Net (inN L 0 0) (enN L 0 0) (fun _ => w.heap.size + 1) (fun _ => w.heap.size) (fun _ => .slice none 0 0) w.heap.size W2 := by
    have h0 := Net.start w
    rw [hW1, show W1.alloc (knC w.heap.size none (.slice none 0 0)) = W2 from hW2] at h0
    rw [hLL] at hL
    exact h0.cast (funext fun q => inN_start L q) (fun q _ => enN_start hL q)
  have hb3 : Below W2.heap.size W2 W3 := by rw [← hW3]; exact (Below.refl _ _).alloc (Nat.le_refl _) _
  have hbw : Below w.heap.size w W3 := by
    rw [← hW3, ← hW2, ← hW1]
    exact (((Below.refl _ w).alloc (Nat.le_refl _) _).alloc (by simp) _).alloc (by simp; omega) _
  have hg3 : W3.cell? ⟨w.heap.size + 2, 0, none⟩ = some (.pointer (some ⟨w.heap.size + 1, 0, none⟩)) := by
    have := World.alloc_heap_new W2 (.cells #[.pointer (some ⟨w.heap.size + 1, 0, none⟩)] 53)
    rw [hW3, hs2] at this
    rw [Lib.cell_of_heap this]
    rfl
  have HREP := hid (krep_any l.length (w.heap.size + 2) (w.heap.size + 1) hl20 W3 hg3 (by omega))
  rw [hs3] at HREP
  have HN0 := hid (hn2.below hb3)
  have HBW := hid hbw
  have HA := hid ha
  have HSZ := hid hsz
  have HLL := hid hLL
  have HOK := hid hL
  have hmm := @run_makeMap Try.prog
  rw [hLL]
  clear ha hsz hn2 hb3 hbw hg3 hL hLL
  go_enter Try.func16, Try.ntmps16
  go_wp2_with fail
  refine Calls.mono HREP.out ?_
  rintro e w4 ⟨rfl, hr4, hb4⟩
  have HI0 : Hid (∃ kb mb ev, NtI L w (w.heap.size + 3) (w.heap.size + 1) 0 0 0 kb mb ev w4) := by
    rw [← hs3] at hb4
    refine ⟨_, _, _, HN0.out.below hb4, rfl, ?_, HBW.out.trans (hb4.mono (by omega))⟩
    rw [atA_start, hll]
    exact hr4
  obtain ⟨N, hNN⟩ : ∃ N, w.heap.size + 3 = N := ⟨_, rfl⟩
  obtain ⟨root, hroot⟩ : ∃ r, w.heap.size + 1 = r := ⟨_, rfl⟩
  rw [hNN, hroot] at HI0
  rw [hNN]
  rw [hroot]
  clear hr4 hb4 HREP HN0 hW1 hW2 hW3 hs1 hs2 hs3
  go_wp2_with fail
  go_loopw [16] (fun v wr => ∃ m : Nat, v = .int .i64 (m : Int) ∧ m ≤ 20 ∧ Hid (∃ kb mb ev, NtI L w N root m 0 0 kb mb ev wr)) (fun v _ => 20 - (intOf v).toNat)
  case atStart => exact ⟨0, rfl, by omega, HI0⟩
  case round =>
    clear HI0
    obtain ⟨m, rfl, hm20, HI⟩ := hrel
    by_cases hmm20 : m < 20
    · have gm : (m : Int) < 20 := by omega
      have wm : IntKind.i64.wrap ((m : Int) + 1) = (m : Int) + 1 := by rw [IntKind.wrap_i64]; omega
      have m0 : (0 : Int) ≤ (m : Int) := by omega
      go_wp2_with fail
      go_loopw [21] (fun v wz => ∃ j : Nat, v = .int .i64 (j : Int) ∧ j ≤ l.length ∧ Hid (∃ kb mb ev, NtI L w N root m j j kb mb ev wz)) (fun v _ => l.length - (intOf v).toNat)
      case atStart => exact ⟨0, rfl, by omega, HI⟩
      case round =>
        clear HI
        obtain ⟨j, rfl, hj, HI⟩ := hrel
        by_cases hjl : j < l.length
        · obtain ⟨kb, mb, ev, hI⟩ := HI.out
          obtain ⟨x, hx⟩ : ∃ x, l[j]? = some x := ⟨l[j], List.getElem?_eq_getElem hjl⟩
          obtain ⟨b, off, hab, hlt, hN⟩ : ∃ b off, a = some ⟨b, off, none⟩ ∧ b < w.heap.size ∧ ∀ i t, l[i]? = some t → w.cell? ⟨b, off + i, none⟩ = some (.string t) := by
            rcases HA.out with h | h
            · rw [h] at hjl; simp at hjl
            · exact h
          subst hab
          have hwx : wdAt L j = x.data.toList := by rw [← HLL.out]; exact wdAt_some (wdL_get hx)
          have hsx : x.data.toList.length = x.size := by simp
          have cx := (hI.b.cell (p := ⟨b, _, none⟩) hlt).trans (hN j x hx)
          have g1 : (j : Int) < (l.length : Int) := by omega
          have j0 : (0 : Int) ≤ (j : Int) := by omega
          have wj : IntKind.i64.wrap ((j : Int) + 1) = (j : Int) + 1 := by rw [IntKind.wrap_i64]; omega
          have HI1 := hid hI
          have HWX := hid hwx
          have HSX := hid hsx
          clear HI hI hx hN hwx hsx
          go_upto_if 29 with fail
          go_cut [] from 23 to 52 (fun wc => Hid (∃ kb' mb' ev', NtI L w N root m (j + 1) j kb' mb' ev' wc))
          case first =>
            by_cases hmx : m < x.size
            · obtain ⟨c, hc⟩ : ∃ c, x.data.toList[m]? = some c := ⟨_, List.getElem?_eq_getElem (by rw [HSX.out]; exact hmx)⟩
              have htk : (wdAt L j).take m ++ [c] = (wdAt L j).take (m + 1) := by
                rw [HWX.out, List.take_add_one, hc]
                rfl
              have HG : Hid (∀ w', Below wr.heap.size wr w' → Calls Try.prog 23 #[.pointer (some ⟨kb ((wdAt L j).take m), 0, none⟩), .int .u8 (c.toNat : Int)] w' fun e w1 => ∃ kb' mb' ev', e = .returned (.pointer (some ⟨kb' ((wdAt L j).take (m + 1)), 0, none⟩)) ∧ w1.heap[N]? = some (.cells (atA L kb m j) 53 (0, 0)) ∧ NtI L w N root m (j + 1) j kb' mb' ev' (w1.setCell ⟨N, j, none⟩ (.pointer (some ⟨kb' ((wdAt L j).take (m + 1)), 0, none⟩)))) := fun w' hb => by
                have hI' := HI1.out.below hb
                refine (kgrow_any hI'.net ((wdAt L j).take m) (inN_take L m j j (by omega)) c (fun s hs => ?_)).mono (fun e w1 g => ?_)
                · have := inN_len hs
                  rw [List.length_take, HWX.out, HSX.out]
                  omega
                · rw [htk] at g
                  exact hI'.grow (by omega) (by omega) (by rw [HWX.out, HSX.out]; exact hmx) g
              have ca : wr.cell? ⟨N, j, none⟩ = some (.pointer (some ⟨kb ((wdAt L j).take m), 0, none⟩)) := by
                rw [Lib.cell_of_heap HI1.out.at_, atA_get L kb m j j (by omega)]
                unfold tkW
                rw [if_neg (by omega)]
              have hsi := str_idx' x m c hc
              have hmi : (m : Int) < (x.size : Int) := by omega
              have hnn : ∀ w1 : World, w1.heap[N]? = some (.cells (atA L kb m j) 53 (0, 0)) → (∃ u, w1.cell? ⟨N, j, none⟩ = some u) ∧ w1.frozen? ⟨N, j, none⟩ = false := fun w1 h1 => ⟨⟨_, by rw [Lib.cell_of_heap h1]; exact atA_get L kb m j j (by omega)⟩, Lib.frozen_of_heap h1 j⟩
              have HNN := hid hnn
              clear hnn hc htk
              go_wp2_with fail
              go_region_with (first | (go_at_call 23; refine Calls.mono (HG.out _ ⟨rfl, rfl, rfl, Nat.le_refl _, fun _ _ => rfl⟩) ?_; rintro e w1 ⟨kb', mb', ev', rfl, hat1, hI1⟩; have HI2 := hid hI1; obtain ⟨⟨u1, hu1⟩, hf1⟩ := HNN.out w1 hat1; clear hI1 hat1))
              all_goals
                go_wp2_with fail
                go_meet
                case rel => exact ⟨_, _, _, HI2.out⟩
            · have HR : Hid (∃ kb' mb' ev', NtI L w N root m (j + 1) j kb' mb' ev' wr) := ⟨kb, mb, ev, HI1.out.stay (by rw [HWX.out, HSX.out]; omega)⟩
              go_wp2_with fail
              go_meet
              case rel => exact HR
          case rest =>
          clear HI1 cx
          obtain ⟨kb2, mb2, ev2, hI2⟩ := hcut.out
          by_cases hme : x.size = m + 1
          · have t1 : ((m : Int) + 1 == (x.size : Int)) = true := by rw [beq_iff_eq]; omega
            have hwl : (wdAt L j).length = m + 1 := by rw [HWX.out, HSX.out]; exact hme
            have ca : wc.cell? ⟨N, j, none⟩ = some (.pointer (some ⟨kb2 (wdAt L j), 0, none⟩)) := by
              rw [Lib.cell_of_heap hI2.at_, atA_get L kb2 m (j + 1) j (by omega)]
              unfold tkW
              rw [if_pos (by omega), List.take_of_length_le (by omega)]
            have hpe := enN_end (m := m) (n := j) (L := L) (by omega) hwl
            have hle := enN_len L m (j + 1) (wdAt L j)
            have hxin : inN L m (j + 1) (wdAt L j) = true := by
              have := inN_take1 L m (j + 1) j (by omega) (by omega)
              rwa [List.take_of_length_le (by omega)] at this
            have C := hid (kend_any hI2.net (wdAt L j) hxin j (enN L m (j + 1) (wdAt L j)) (by have := hpe.length_eq; simp at this; omega) hpe (enN_sorted L m (j + 1) _))
            have HI3 := hid hI2
            have HWL := hid hwl
            clear hcut hI2 hpe hle hxin hwl hme
            go_wp2_with fail
            refine Calls.mono C.out ?_
            rintro e w1 ⟨rfl, v, hn, hb, hk⟩
            have HR : Hid (∃ kb mb ev, NtI L w N root m (j + 1) (j + 1) kb mb ev w1) := ⟨_, _, _, HI3.out.end_ HWL.out hn hb hk⟩
            clear C HI3 HWL hn hb hk ca
            go_wp2
            exact ⟨⟨j + 1, by go_num, by omega, HR⟩, by simp [intOf]; omega⟩
          · have t1 : ((m : Int) + 1 == (x.size : Int)) = false := by rw [beq_eq_false_iff_ne]; omega
            have HR : Hid (∃ kb mb ev, NtI L w N root m (j + 1) (j + 1) kb mb ev wc) := ⟨_, _, _, hI2.noend (by rw [HWX.out, HSX.out]; exact hme)⟩
            clear hcut hI2 hme
            go_wp2
            exact ⟨⟨j + 1, by go_num, by omega, HR⟩, by simp [intOf]; omega⟩
        · obtain rfl : j = l.length := by omega
          have g1 : ¬ (l.length : Int) < (l.length : Int) := by omega
          have HR : Hid (∃ kb mb ev, NtI L w N root (m + 1) 0 0 kb mb ev wr) := by
            obtain ⟨kb, mb, ev, hI⟩ := HI.out
            rw [← hll] at hI
            exact ⟨kb, mb, ev, hI.next⟩
          clear HI
          go_wp2
          exact ⟨⟨m + 1, by go_num, by omega, HR⟩, by simp [intOf]; omega⟩
    · obtain rfl : m = 20 := by omega
      have gm : ¬ ((20 : Nat) : Int) < 20 := by omega
      obtain ⟨kb, mb, ev, hI⟩ := HI.out
      have hrt := hI.root
      have HR := hid (And.intro hrt hI)
      clear HI hI hrt
      go_wp2
      go_ret
      exact ⟨kb, mb, ev, by rw [HR.out.1]; rfl, HR.out.2.net, HR.out.2.b⟩
end Go.Proofs.Ytciaagphclddjaa
namespace Go.Proofs.Ytciaagphclddjaa
set_option linter.unusedSimpArgs false
set_option linter.unusedVariables false
set_option maxRecDepth 100000
open Go.RowKit
/-- A text is among the first n ones. -/
def IdxP (l : List ByteArray) (x : ByteArray) (n : Nat) (w : World) (e : Ending) (w' : World) : Prop := ∃ k : Int, e = .returned (.int .i64 k) ∧ w' = w ∧ (0 ≤ k ↔ wHas l x n) 
set_option maxHeartbeats 4000000 in
theorem tindex_any (l : List ByteArray) (x : ByteArray) (n : Nat) (hn : n ≤ l.length) (hn20 : n ≤ 20) (b off cap : Nat) (w : World) (hN : ∀ i t, l[i]? = some t → w.cell? ⟨b, off + i, none⟩ = some (.string t)) :
    Calls Try.prog 26 #[.slice (some ⟨b, off, none⟩) n cap, .string x] w (IdxP l x n w) := by
  have HN := hid hN
  clear hN
  go_enter Try.func26, Try.ntmps26
  go_wp2_with fail
  go_loopw [8] (fun v wr => ∃ i : Nat, i ≤ n ∧ v = .int .i64 (i : Int) ∧ Hid (¬ wHas l x i) ∧ wr = w) (fun v _ => n - (intOf v).toNat)
  case atStart => exact ⟨0, by omega, rfl, (fun ⟨m, h, _⟩ => by omega), rfl⟩
  case round =>
    obtain ⟨i, hi, rfl, HH, rfl⟩ := hrel
    by_cases hil : i < n
    · obtain ⟨y, hy⟩ : ∃ y, l[i]? = some y := ⟨l[i]'(by omega), List.getElem?_eq_getElem (by omega)⟩
      have cy := HN.out i y hy
      have g1 : (i : Int) < (n : Int) := by omega
      have i0 : (0 : Int) ≤ (i : Int) := by omega
      have HY := hid hy
      clear hy
      obtain ⟨q, hq⟩ : ∃ q, (x.toList == y.toList) = q := ⟨_, rfl⟩
      cases q with
      | true =>
        have HR : Hid (IdxP l x n wr (.returned (.int .i64 (i : Int))) wr) := by
          have hxy : x = y := (ba_beq x y).1 hq
          exact ⟨(i : Int), rfl, rfl, fun _ => ⟨i, hil, by rw [HY.out, hxy]⟩, fun _ => i0⟩
        go_wp2
        go_ret
        exact HR.out
      | false =>
        have HK : Hid (¬ wHas l x (i + 1)) := by
          rintro ⟨m, h1, h2⟩
          rcases Nat.lt_or_ge m i with h3 | h3
          · exact HH.out ⟨m, h3, h2⟩
          · obtain rfl : m = i := by omega
            rw [HY.out] at h2
            have := (ba_beq x y).2 (Option.some.inj h2).symm
            rw [hq] at this
            cases this
        clear HH
        go_wp2
        exact ⟨⟨i + 1, by omega, by go_num, HK, trivial⟩, by simp [intOf]; omega⟩
    · obtain rfl : i = n := by omega
      have g1 : ¬ (i : Int) < (i : Int) := by omega
      have HR : Hid (IdxP l x i wr (.returned (.int .i64 (-1))) wr) := ⟨-1, rfl, rfl, fun h => by omega, fun h => absurd h HH.out⟩
      clear HH
      go_wp2
      go_ret
      exact HR.out
set_option maxHeartbeats 1000000 in
theorem tcontains_any (l : List ByteArray) (x : ByteArray) (n : Nat) (hn : n ≤ l.length) (hn20 : n ≤ 20) (b off cap : Nat) (w : World) (hN : ∀ i t, l[i]? = some t → w.cell? ⟨b, off + i, none⟩ = some (.string t)) :
    Calls Try.prog 21 #[.slice (some ⟨b, off, none⟩) n cap, .string x] w fun e w' => ∃ t, e = .returned (.bool t) ∧ w' = w ∧ (t = true ↔ wHas l x n) := by
  have C := hid (tindex_any l x n hn hn20 b off cap w hN)
  clear hN
  go_enter Try.func21, Try.ntmps21
  go_wp2_with fail
  refine Calls.mono C.out ?_
  rintro e w' ⟨k, rfl, hw', hk⟩
  have HK := hid hk
  clear hk C
  go_wp2
  go_ret
  exact ⟨decide (0 ≤ k), rfl, rfl, by rw [decide_eq_true_iff]; exact HK.out⟩
set_option maxHeartbeats 8000000 in
theorem wcheck_at (l : List ByteArray) (hl : l.length ≤ 20) (hsz : ∀ x ∈ l, x.size ≤ maxLen) (a : Option Addr) (cap : Nat) (hcap : l.length ≤ cap) (w : World) (ha : l = [] ∨ ∃ b off, a = some ⟨b, off, none⟩ ∧ b < w.heap.size ∧ ∀ i t, l[i]? = some t → w.cell? ⟨b, off + i, none⟩ = some (.string t)) :
    Calls Try.prog 15 #[.slice a l.length cap] w fun e w' => e = .returned (errV (wF l)) ∧ w' = w := by
  have HZ : Hid (wF l = wFrom l l.length 0) := by show _ = _; unfold wF; rw [if_neg (by omega)]
  have g20 : ¬ (20 : Int) < (l.length : Int) := by omega
  have HA := hid ha
  have HS := hid hsz
  clear ha hsz
  go_enter Try.func15, Try.ntmps15
  go_wp2_with fail
  go_loopw [11] (fun v wr => ∃ i : Nat, i ≤ l.length ∧ v = .int .i64 (i : Int) ∧ Hid (wF l = wFrom l (l.length - i) i) ∧ wr = w) (fun v _ => l.length - (intOf v).toNat)
  case atStart => exact ⟨0, by omega, rfl, HZ, rfl⟩
  case round =>
    clear HZ
    obtain ⟨i, hi, rfl, HI, rfl⟩ := hrel
    by_cases hil : i < l.length
    · obtain ⟨x, hx⟩ : ∃ x, l[i]? = some x := ⟨l[i], List.getElem?_eq_getElem hil⟩
      obtain ⟨b, off, hab, hlt, hN⟩ : ∃ b off, a = some ⟨b, off, none⟩ ∧ b < wr.heap.size ∧ ∀ i t, l[i]? = some t → wr.cell? ⟨b, off + i, none⟩ = some (.string t) := by
        rcases HA.out with h | h
        · rw [h] at hil; simp at hil
        · exact h
      subst hab
      have hxm := HS.out x (List.mem_of_getElem? hx)
      unfold maxLen at hxm
      have cx := hN i x hx
      have g1 : (i : Int) < (l.length : Int) := by omega
      have g2 : (i : Int) ≤ (l.length : Int) := by omega
      have g3 : (i : Int) ≤ (cap : Int) := by omega
      have i0 : (0 : Int) ≤ (i : Int) := by omega
      have HW : Hid (wFrom l (l.length - i) i = if wBad l i = 0 then wFrom l (l.length - (i + 1)) (i + 1) else wBad l i) := by
        show _ = _
        rw [show l.length - i = (l.length - (i + 1)) + 1 by omega, wFrom]
      have HXG := hid hx
      have C := hid (tcontains_any l x i (by omega) (by omega) b off cap wr hN)
      clear hx hN
      by_cases h1 : x.size < 1
      · have h1i : (x.size : Int) < 1 := by omega
        have HR : Hid (wF l = 5) := by
          show _ = _
          have hb := wBad_size HXG.out (Or.inl h1)
          rw [HI.out, HW.out, hb]
          rfl
        clear h1
        go_wp2
        go_ret
        exact ⟨by rw [HR.out]; rfl, rfl⟩
      · by_cases h2 : 20 < x.size
        · have h1i : ¬ (x.size : Int) < 1 := by omega
          have h2i : (20 : Int) < (x.size : Int) := by omega
          have HR : Hid (wF l = 5) := by
            show _ = _
            have hb := wBad_size HXG.out (Or.inr h2)
            rw [HI.out, HW.out, hb]
            rfl
          clear h1 h2
          go_wp2
          go_ret
          exact ⟨by rw [HR.out]; rfl, rfl⟩
        · have h1i : ¬ (x.size : Int) < 1 := by omega
          have h2i : ¬ (20 : Int) < (x.size : Int) := by omega
          have HSZ : Hid (¬ (x.size < 1 ∨ 20 < x.size)) := by show ¬ _; omega
          clear h1 h2
          go_wp2_with fail
          refine Calls.mono C.out ?_
          rintro e w' ⟨t, rfl, hw', ht⟩
          replace hw' := hw'.symm
          subst hw'
          have HT := hid ht
          clear C ht
          cases t with
          | true =>
            have HR : Hid (wF l = 6) := by
              show _ = _
              have hb := wBad_has HXG.out HSZ.out (HT.out.1 rfl)
              rw [HI.out, HW.out, hb]
              rfl
            go_wp2
            go_ret
            exact ⟨by rw [HR.out]; rfl, rfl⟩
          | false =>
            have HR : Hid (wF l = wFrom l (l.length - (i + 1)) (i + 1)) := by
              show _ = _
              rw [HI.out, HW.out, wBad_ok HXG.out HSZ.out (fun h => by cases HT.out.2 h), if_pos rfl]
            clear HI HW HT
            go_wp2
            exact ⟨⟨i + 1, by omega, by go_num, HR, trivial⟩, by simp [intOf]; omega⟩
    · have g1 : ¬ (i : Int) < (l.length : Int) := by omega
      have HR : Hid (wF l = 0) := by
        show _ = _
        rw [HI.out, show l.length - i = 0 by omega, wFrom]
      clear HI
      go_wp2
      go_ret
      exact ⟨by rw [HR.out]; rfl, rfl⟩
/-- CHECK, as the document asks it. -/
theorem wordsK {X : World → Prop} : WordsK X where
  chk := fun l v w _ hN wN => by
    obtain ⟨a, cap, rfl, hm, h⟩ := hN
    by_cases h20 : 20 < l.length
    · have g20 : (20 : Int) < (l.length : Int) := by omega
      have HR : Hid (wF l = 3) := by show _ = _; unfold wF; rw [if_pos h20]
      unfold maxLen at hm
      obtain ⟨hm1, hm2⟩ := hm
      clear h
      go_enter Try.func15, Try.ntmps15
      go_wp2
      go_ret
      exact ⟨by rw [HR.out]; rfl, Below.refl _ _⟩
    · exact (wcheck_at l (by omega) wN a cap hm.1 w h).mono fun e w' ⟨h1, h2⟩ => ⟨h1, by rw [h2]; exact Below.refl _ _⟩
end Go.Proofs.Ytciaagphclddjaa
namespace Go.Proofs.Ytciaagphclddjaa
set_option linter.unusedSimpArgs false
set_option linter.unusedVariables false
set_option maxRecDepth 100000
open Go.RowKit Go.Shelf
theorem wok_of {l : List ByteArray} (h : wF l = 0) : WOk (wdL l) := by
  obtain ⟨h1, h2⟩ := wF_zero h
  have hz : ∀ k, k < l.length → wBad l k = 0 := fun k hk => by
    unfold wF at h
    rw [if_neg (by omega)] at h
    exact wFrom_zero _ _ 0 h k (by omega) (by omega)
  have hg : ∀ i, i < (wdL l).length → ∃ x, l[i]? = some x ∧ wdAt (wdL l) i = x.data.toList := fun i hi => by
    rw [wdL_len] at hi
    exact ⟨l[i], List.getElem?_eq_getElem hi, wdAt_some (wdL_get (List.getElem?_eq_getElem hi))⟩
  have key : ∀ i j, i < j → j < (wdL l).length → wdAt (wdL l) i ≠ wdAt (wdL l) j := fun i j hij hj e => by
    obtain ⟨x, hx, ex⟩ := hg i (by omega)
    obtain ⟨y, hy, ey⟩ := hg j hj
    rw [wdL_len] at hj
    have hxy : x = y := ba_ext (by rw [← ex, ← ey, e])
    exact (wBad_zero hy (hz j hj)).2 ⟨i, hij, by rw [hx, hxy]⟩
  refine ⟨by rw [wdL_len]; exact h1, fun i hi => ?_, fun i j hi hj e => ?_⟩
  · obtain ⟨x, hx, ex⟩ := hg i hi
    have := h2 x (List.mem_of_getElem? hx)
    rw [ex]
    simpa using this
  · rcases Nat.lt_trichotomy i j with h' | h' | h'
    · exact absurd e (key i j h' hj)
    · exact h'
    · exact absurd e.symm (key j i h' hi)
theorem Net.row {D : List UInt8 → Bool} {E : List UInt8 → List Nat} {kb mb : List UInt8 → Nat} {ev : List UInt8 → Value} {B B' : Nat} {w w' : World} {v : Value} {l : List Ht} (h : Net D E kb mb ev B w) (hO : HtOwn w B' v l) (hg : w.grownBy w' v.ownBlock) : Net D E kb mb ev B w' := by
  rcases hO.2 with ⟨hv, _⟩ | ⟨g, cap, cur, hv, hb, hh, _⟩
  · exact h.same fun k _ hk => hg.block k hk (by rw [hv]; intro e; cases e)
  · exact h.other hh (by decide) (by decide) fun k hk hlt => hg.block k hlt (by rw [hv]; intro e; injection e with e; exact hk e)
/-- A hit of word n at place e. -/
def htW (L : List (List UInt8)) (e n : Nat) : Ht := (n, e - (wdAt L n).length, e)
theorem hitsTo_step {L : List (List UInt8)} (hL : WOk L) (s : List UInt8) (i : Nat) (hi : i < s.length) : hitsTo L s (i + 2) = hitsTo L s (i + 1) ++ (enN L 20 0 (s.take (i + 1))).map (htW L (i + 1)) := by
  rw [hitsTo, hitsAt_all hL s (i + 1) (by omega)]
  rfl
theorem hitsTo_one {L : List (List UInt8)} (hL : WOk L) (s : List UInt8) : hitsTo L s 1 = [] := by
  rw [hitsTo, hitsTo, hitsAt_all hL s 0 (by omega), List.nil_append]
  have : enN L 20 0 (s.take 0) = [] := by
    refine List.eq_nil_iff_forall_not_mem.2 fun i hi => ?_
    obtain ⟨h1, h2, _⟩ := (enN_mem _ _ _ _ _).1 hi
    have h3 := h2.length_le
    have h4 := (hL.len i h1).1
    rw [List.take_zero, List.length_nil] at h3
    omega
  rw [this]
  rfl
theorem en_from {L : List (List UInt8)} {q : List UInt8} {n e : Nat} {s : List UInt8} (hq : q <:+ s.take e) (h : n ∈ enN L 20 0 q) : n < L.length ∧ (wdAt L n).length ≤ e := by
  obtain ⟨h1, h2, _⟩ := (enN_mem _ _ _ _ _).1 h
  have h3 := (h2.trans hq).length_le
  rw [List.length_take] at h3
  exact ⟨h1, by omega⟩
set_option maxHeartbeats 2000000 in
theorem wordsAll_bad {X : World → Prop} (l : List ByteArray) (v : Value) (s : ByteArray) (w : World) (hN : TsIn w v l) (wN : ∀ x ∈ l, x.size ≤ maxLen) (hs : s.size ≤ maxLen) (hE : ¬ wE l s.size = 0) :
    Calls Try.prog 9 #[v, .string s] w fun e w' => ∃ u, e = .returned (.tuple #[u, errV (wE l s.size)]) ∧ Below w.heap.size w w' ∧ HtIn w' u [] := by
  have C := hid ((wordsK (X := fun _ => True)).chk l v w trivial hN wN)
  obtain ⟨a, cap, rfl, hm, ha⟩ := hN
  unfold maxLen at hs
  by_cases hf : wF l = 0
  · have h4 : 400 < s.size := by
      refine Classical.byContradiction fun h => hE ((wE_zero l s.size).2 ⟨hf, by omega⟩)
    have h4i : (400 : Int) < (s.size : Int) := by omega
    have hwE : wE l s.size = 3 := by unfold wE; rw [if_pos hf, if_pos h4]
    rw [hwE, show errV 3 = .iface 52 (.int .i64 3) from rfl]
    rw [hf, show errV 0 = .nilIface from rfl] at C
    clear hE hwE hf h4 ha hm wN
    go_enter Try.func9, Try.ntmps9
    go_wp2_with fail
    refine Calls.mono C.out ?_
    rintro e w1 ⟨rfl, hb⟩
    have HB := hid hb
    clear hb C
    go_wp2
    go_ret2
    exact ⟨_, rfl, HB.out, htIn_nil _⟩
  · have hwE : wE l s.size = wF l := by unfold wE; rw [if_neg hf]
    have hv : errV (wF l) = .iface 52 (.int .i64 (wF l)) := by unfold errV; rw [if_neg hf]
    rw [hwE, hv]
    rw [hv] at C
    clear hE hwE hf ha hm wN hv
    go_enter Try.func9, Try.ntmps9
    go_wp2_with fail
    refine Calls.mono C.out ?_
    rintro e w1 ⟨rfl, hb⟩
    have HB := hid hb
    clear hb C
    go_wp2
    go_ret2
    exact ⟨_, rfl, HB.out, htIn_nil _⟩
/-- Between two rounds: the net, and the hits H that are told. -/
structure NaI (L : List (List UInt8)) (w : World) (Bn : Nat) (kb mb : List UInt8 → Nat) (ev : List UInt8 → Value) (H : List Ht) (u : Value) (wr : World) : Prop where
  net : Net (inN L 20 0) (enN L 20 0) kb mb ev Bn wr
  own : HtOwn wr w.heap.size u H
  b : Below w.heap.size w wr
theorem hits_big (l : List ByteArray) (hl : l.length ≤ 20) (s : List UInt8) (hs : s.length ≤ 400) (i : Nat) (hi : i ≤ 401) : (hitsTo (wdL l) s i).length ≤ 8020 := by
  have h1 := hitsTo_len (wdL l) s i
  rw [wdL_len] at h1
  exact Nat.le_trans h1 (Nat.mul_le_mul hi hl)
set_option maxHeartbeats 16000000 in
theorem wordsAll_ok (l : List ByteArray) (v : Value) (s : ByteArray) (w : World) (hN : TsIn w v l) (wN : ∀ x ∈ l, x.size ≤ maxLen) (hE : wE l s.size = 0) :
    Calls Try.prog 9 #[v, .string s] w fun e w' => ∃ u, e = .returned (.tuple #[u, .nilIface]) ∧ Below w.heap.size w w' ∧ HtIn w' u (hits (wdL l) s.data.toList) := by
  obtain ⟨hf, h4⟩ := (wE_zero l s.size).1 hE
  obtain ⟨hl20, hx20⟩ := wF_zero hf
  have hL := wok_of hf
  have C := hid ((wordsK (X := fun _ => True)).chk l v w trivial hN wN)
  rw [hf, show errV 0 = .nilIface from rfl] at C
  have HTS := hid hN
  have HNE := hid (fun w' (hb : Below w.heap.size w w') => netOf_any l v w' (hN.below hb) wN hL)
  obtain ⟨a, cap, rfl, hm, ha⟩ := hN
  have hsl : s.data.toList.length = s.size := by simp
  have g4 : ¬ (400 : Int) < (s.size : Int) := by omega
  have HL := hid hL
  have HA := hid ha
  have HX := hid hx20
  have HWN := hid wN
  clear hE hf hL ha hx20 wN
  have hwL : (wdL l).length = l.length := wdL_len l
  obtain ⟨L, hLL⟩ : ∃ L, wdL l = L := ⟨_, rfl⟩
  have HWD := hid (fun (i : Nat) (x : ByteArray) (h : l[i]? = some x) => (wdAt_some (wdL_get h) : wdAt (wdL l) i = x.data.toList))
  have HBIG := hid (hits_big l hl20 s.data.toList (by omega))
  rw [hLL] at HL hwL HWD HBIG HNE
  rw [hLL]
  clear hLL
  go_enter Try.func9, Try.ntmps9
  go_wp2_with fail
  refine Calls.mono C.out ?_
  rintro e w1 ⟨rfl, hb1⟩
  have HB1 := hid hb1
  clear hb1 C
  go_wp2_with fail
  refine Calls.mono (HNE.out _ HB1.out) ?_
  rintro e w2 ⟨kb, mb, ev, rfl, hn, hb2⟩
  have hbw2 := HB1.out.trans (hb2.mono HB1.out.size)
  obtain ⟨Bn, hBn⟩ : ∃ Bn, w1.heap.size = Bn := ⟨_, rfl⟩
  rw [hBn] at hn
  have H0 : Hid (NaI L w Bn kb mb ev (hitsTo L s.data.toList (0 + 1)) (.slice none 0 0) w2) := ⟨hn, by rw [hitsTo_one HL.out]; exact HtOwn.nil _ _, hbw2⟩
  clear hn hb2 hbw2 HB1 HNE HTS hBn
  go_wp2_with fail
  go_loopw [7, 8, 25] (fun u p v wr => ∃ i : Nat, i ≤ s.size ∧ v = .int .i64 (i : Int) ∧ p = .pointer (some ⟨kb (lsf (inN L 20 0) (s.data.toList.take i)), 0, none⟩) ∧ Hid (NaI L w Bn kb mb ev (hitsTo L s.data.toList (i + 1)) u wr)) (fun _ _ v _ => s.size - (intOf v).toNat)
  case atStart => exact ⟨0, by omega, rfl, rfl, H0⟩
  case round =>
    clear H0
    obtain ⟨i, hi, rfl, rfl, HI⟩ := hrel
    obtain ⟨ua, uc, rfl⟩ := HI.out.own.form
    by_cases his : i < s.size
    · have g1 : (i : Int) < (s.size : Int) := by omega
      have i0 : (0 : Int) ≤ (i : Int) := by omega
      obtain ⟨c, hc⟩ : ∃ c, s.data.toList[i]? = some c := ⟨_, List.getElem?_eq_getElem (by omega)⟩
      have hsi := str_idx' s i c hc
      have htk : s.data.toList.take (i + 1) = s.data.toList.take i ++ [c] := by rw [List.take_add_one, hc]; rfl
      have C := hid (kstep_any HI.out.net (lsf (inN L 20 0) (s.data.toList.take i)) (lsf_in (inN_nil L 20 0) _) c)
      rw [← lsf_step (inN_pcl L 20 0), ← htk] at C
      have HTK := hid htk
      clear hc htk
      obtain ⟨q, hq⟩ : ∃ q, lsf (inN L 20 0) (s.data.toList.take (i + 1)) = q := ⟨_, rfl⟩
      rw [hq] at C
      have hDq : inN L 20 0 q = true := by rw [← hq]; exact lsf_in (inN_nil L 20 0) _
      have hqs : q <:+ s.data.toList.take (i + 1) := by rw [← hq]; exact lsf_suf _ _
      have hk := HI.out.net.kn q hDq
      have a2 := Lib.cell_of_heap hk 2
      simp only [List.getElem?_toArray, List.getElem?_cons_zero, List.getElem?_cons_succ] at a2
      obtain ⟨ea, ec, hev⟩ := (HI.out.net.en q hDq).form
      rw [hev] at a2
      have hel : (enN L 20 0 q).length ≤ 20 := HI.out.net.short q hDq
      have HQ := hid (And.intro hq (And.intro hDq (And.intro hqs hev)))
      have HEN : Hid (enN L 20 0 q = enN L 20 0 (s.data.toList.take (i + 1))) := by show _ = _; rw [← hq]; exact enN_lsf HL.out _
      clear hk hDq hqs hev
      obtain ⟨E, hEE⟩ : ∃ E, enN L 20 0 q = E := ⟨_, rfl⟩
      rw [hEE] at a2 hel HEN
      have HEE := hid hEE
      clear hEE hq
      go_wp2_with fail
      refine Calls.mono C.out ?_
      rintro e w3 ⟨rfl, hw3⟩
      replace hw3 := hw3.symm
      subst hw3
      clear C
      go_wp2_with fail
      have HI1 : Hid (NaI L w Bn kb mb ev (hitsTo L s.data.toList (i + 1) ++ (E.take 0).map (htW L (i + 1))) (.slice ua (hitsTo L s.data.toList (i + 1)).length uc) wr) := by
        rw [List.take_zero, List.map_nil, List.append_nil]
        exact HI.out
      have HH0 : Hid (∀ k, (hitsTo L s.data.toList (i + 1) ++ (E.take k).map (htW L (i + 1))).length ≤ 8040) := fun k => by
        have h1 := HBIG.out (i + 1) (by omega)
        rw [List.length_append, List.length_map, List.length_take]
        omega
      obtain ⟨e1, he1⟩ : ∃ e1, i + 1 = e1 := ⟨_, rfl⟩
      have hw1 : IntKind.i64.wrap ((i : Int) + 1) = (e1 : Int) := by rw [IntKind.wrap_i64]; omega
      clear HI hsi a2
      go_loopw [7, 38] (fun u v wz => ∃ k : Nat, k ≤ E.length ∧ v = .int .i64 (k : Int) ∧ Hid (NaI L w Bn kb mb ev (hitsTo L s.data.toList (i + 1) ++ (E.take k).map (htW L (i + 1))) u wz)) (fun _ v _ => E.length - (intOf v).toNat)
      case atStart => exact ⟨0, by omega, rfl, HI1⟩
      case round =>
        clear HI1
        obtain ⟨k, hk, rfl, HJ⟩ := hrel
        obtain ⟨va, vc, rfl⟩ := HJ.out.own.form
        obtain ⟨H, hH⟩ : ∃ H, hitsTo L s.data.toList (i + 1) ++ (E.take k).map (htW L (i + 1)) = H := ⟨_, rfl⟩
        have hHl : H.length ≤ 8040 := by rw [← hH]; exact HH0.out k
        rw [hH] at HJ
        rw [hH]
        by_cases hkl : k < E.length
        · obtain ⟨n, hn⟩ : ∃ n, E[k]? = some n := ⟨E[k], List.getElem?_eq_getElem hkl⟩
          have hnE : n ∈ enN L 20 0 q := by rw [HEE.out]; exact List.mem_of_getElem? hn
          obtain ⟨hnL, hne⟩ := en_from HQ.out.2.2.1 hnE
          rw [he1] at hne
          obtain ⟨x, hx⟩ : ∃ x, l[n]? = some x := ⟨l[n]'(by omega), List.getElem?_eq_getElem (by omega)⟩
          have hwx := HWD.out n x hx
          have hxs : (wdAt L n).length = x.size := by rw [hwx]; simp
          rw [hxs] at hne
          obtain ⟨b, off, hab, hlt, hN⟩ : ∃ b off, a = some ⟨b, off, none⟩ ∧ b < w.heap.size ∧ ∀ i t, l[i]? = some t → w.cell? ⟨b, off + i, none⟩ = some (.string t) := by
            rcases HA.out with h | h
            · rw [h] at hx; simp at hx
            · exact h
          subst hab
          have cx := (HJ.out.b.cell (p := ⟨b, _, none⟩) hlt).trans (hN n x hx)
          obtain ⟨eb, eo, hea, cn⟩ : ∃ eb eo, ea = some ⟨eb, eo, none⟩ ∧ wr.cell? ⟨eb, eo + k, none⟩ = some (.int .i64 (n : Int)) := by
            have h1 := HJ.out.net.en q HQ.out.2.1
            rw [HQ.out.2.2.2, HEE.out] at h1
            obtain ⟨a', c', hv, _, h2 | ⟨b', o', ha', _, h3⟩⟩ := h1.isIn (by unfold maxLen; omega)
            · rw [h2] at hkl; simp at hkl
            · injection hv with q1 q2 q3
              exact ⟨b', o', by rw [q1, ha'], h3 k n hn⟩
          subst hea
          have g2 : (k : Int) < (E.length : Int) := by omega
          have k0 : (0 : Int) ≤ (k : Int) := by omega
          have g3 : (n : Int) < (l.length : Int) := by omega
          have n0 : (0 : Int) ≤ (n : Int) := by omega
          obtain ⟨f1, hf1⟩ : ∃ f1, e1 - x.size = f1 := ⟨_, rfl⟩
          have hw2 : IntKind.i64.wrap ((e1 : Int) - (x.size : Int)) = (f1 : Int) := by rw [IntKind.wrap_i64]; omega
          have HAP : Hid (hitsTo L s.data.toList (i + 1) ++ (E.take (k + 1)).map (htW L (i + 1)) = H ++ [(n, f1, e1)]) := by
            show _ = _
            rw [List.take_add_one, hn, List.map_append, ← List.append_assoc, hH]
            show H ++ [htW L (i + 1) n] = _
            unfold htW
            rw [hxs, he1, hf1]
          have hO := HJ.out.own
          have hB := HJ.out.b
          have hb0 : Below wr.heap.size wr (wr.alloc (.cells #[.int .i64 (n : Int), .int .i64 (f1 : Int), .int .i64 (e1 : Int)] 43)) := (Below.refl _ _).alloc (Nat.le_refl _) _
          have HO2 := hid (hO.kept hb0)
          have HB2 := hid (hB.alloc hB.size (.cells #[.int .i64 (n : Int), .int .i64 (f1 : Int), .int .i64 (e1 : Int)] 43))
          have HN2 := hid (HJ.out.net.below hb0)
          clear hO hB hb0 HJ hx hN hn hwx hxs hnE hne hH
          go_wp2_with (at_builtin; refine wpList_append_ht rfl _ _ rfl w.heap.size _ rfl H HO2.out wr.heap.size 1 (n, f1, e1) rfl (by rw [World.cell?_alloc_at (w := wr) _ _ wr.heap.size 0 rfl]; rfl) (by rw [World.cell?_alloc_at (w := wr) _ _ wr.heap.size 1 rfl]; rfl) (by rw [World.cell?_alloc_at (w := wr) _ _ wr.heap.size 2 rfl]; rfl) (by omega) HB2.out.size ?_; intro g cap' w4 hown hgr _ _)
          have HI2 : Hid (NaI L w Bn kb mb ev (hitsTo L s.data.toList (i + 1) ++ (E.take (k + 1)).map (htW L (i + 1))) (.slice (some ⟨g, 0, none⟩) (H.length + 1) cap') w4) := by
            refine ⟨HN2.out.row HO2.out hgr, ?_, HB2.out.trans (HO2.out.grown HB2.out.size hgr)⟩
            rw [HAP.out]
            exact hown
          clear hown hgr HO2 HB2 HN2 HAP
          exact ⟨⟨k + 1, by omega, by go_num, HI2⟩, by simp [intOf]; omega⟩
        · obtain rfl : k = E.length := by omega
          have g2 : ¬ (E.length : Int) < (E.length : Int) := by omega
          have HI3 : Hid (NaI L w Bn kb mb ev (hitsTo L s.data.toList (i + 1 + 1)) (.slice va H.length vc) wr) := by
            rw [hitsTo_step HL.out s.data.toList i (by omega), ← HEN.out]
            have h := HJ.out
            rw [← hH, List.take_length] at h
            rw [← hH, List.take_length]
            exact h
          clear HJ hH
          go_wp2
          exact ⟨⟨i + 1, by omega, by go_num, by rw [HQ.out.1], HI3⟩, by simp [intOf]; omega⟩
    · obtain rfl : i = s.size := by omega
      have g1 : ¬ (s.size : Int) < (s.size : Int) := by omega
      have HR : Hid (Below w.heap.size w wr ∧ HtIn wr (.slice ua (hitsTo L s.data.toList (s.size + 1)).length uc) (hits L s.data.toList)) := by
        refine ⟨HI.out.b, ?_⟩
        have e : hitsTo L s.data.toList (s.size + 1) = hits L s.data.toList := by unfold hits; rw [hsl]
        rw [← e]
        exact HI.out.own.isIn (by have := HBIG.out (s.size + 1) (by omega); unfold maxLen; omega)
      clear HI
      go_wp2
      go_ret2
      exact ⟨_, rfl, HR.out⟩
/-- ALL, as the document asks it. -/
theorem wordsL {X : World → Prop} : WordsL X where
  bad := fun l v s w hN wN hs hE => wordsAll_bad (X := X) l v s w hN wN hs hE
  all := fun l v s w _ hN wN hE => wordsAll_ok l v s w hN wN hE
end Go.Proofs.Ytciaagphclddjaa
