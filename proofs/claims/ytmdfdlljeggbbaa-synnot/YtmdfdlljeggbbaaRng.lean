/- What class.Range answers. -/
import Derived.Test.YtmdfdlljeggbbaaWk1
import Derived.Test.YtmdfdlljeggbbaaMt3
import Derived.Test.YtmdfdlljeggbbaaErr
set_option linter.unusedSimpArgs false
set_option linter.unusedVariables false
namespace Go.Proofs.Ytmdfdlljeggbbaa
open Go.RowKit

/-- The class of n bytes from lo on. -/
def rng (lo : Nat) : Nat → C4
  | 0 => z4
  | n + 1 => (rng lo n).add ((lo + n : Nat) : Int)
theorem rng_ok (lo : Nat) : ∀ n, (rng lo n).ok
  | 0 => z4_ok
  | n + 1 => C4.add_ok (rng_ok lo n) _
def rngOf (lo hi : Nat) : C4 := if hi < lo then z4 else rng lo (hi + 1 - lo)
def rngErr (lo hi : Nat) : Int := if hi < lo then 1 else 0
set_option maxHeartbeats 1000000 in
theorem range_bad (lo hi : Nat) (hl : lo < 256) (hh : hi < 256) (h : hi < lo) (w : World) :
    Calls Try.prog 67 #[.int .u8 lo, .int .u8 hi] w fun e w' => e = .returned (.tuple #[z4.v, .iface 52 (.int .i64 1)]) ∧ Below w.heap.size w w' := by
  have h2 : (hi : Int) < (lo : Int) := by omega
  go_enter Try.func67, Try.ntmps67
  go_wp2
  refine bodyPost_ret (v := .tuple #[z4.v, .iface 52 (.int .i64 1)]) (by simp [results, Try.results67, go_sem, z4]) rfl ⟨rfl, ?_⟩
  exact (Below.refl _ _).alloc (Nat.le_refl _) _
set_option maxHeartbeats 1000000 in
theorem range_good (lo hi : Nat) (hl : lo < 256) (hh : hi < 256) (h : lo ≤ hi) (w : World) :
    Calls Try.prog 67 #[.int .u8 lo, .int .u8 hi] w fun e w' => e = .returned (.tuple #[(rng lo (hi + 1 - lo)).v, .nilIface]) ∧ Below w.heap.size w w' := by
  have h2 : ¬ (hi : Int) < (lo : Int) := by omega
  go_enter Try.func67, Try.ntmps67
  go_wp2
  go_loopw [7] (fun v wr => ∃ n : Nat, n ≤ hi + 1 - lo ∧ v = .int .i64 ((lo : Int) + (n : Int)) ∧ Below w.heap.size w wr ∧ Hb wr w.heap.size z4 ∧ Hb wr (w.heap.size + 1) (rng lo n)) (fun v _ => hi + 1 - (intOf v).toNat)
  case atStart =>
    refine ⟨0, by omega, by go_num, ?_, ?_, ?_⟩
    · exact ((Below.refl _ _).alloc (Nat.le_refl _) _).alloc (by simp) _
    · exact (Hb.new _ z4 _ rfl).alloc _
    · exact Hb.new _ z4 _ (by simp)
  case round =>
    obtain ⟨n, hn, rfl, hB, hZ, hC⟩ := hrel
    obtain ⟨c0, c1, c2, c3, e0, e1, e2, e3⟩ := hC.all
    by_cases hlt : n < hi + 1 - lo
    · have i1 : (lo : Int) + (n : Int) ≤ (hi : Int) := by omega
      have HR : Hid (rng lo (n + 1) = (rng lo n).add ((lo : Int) + (n : Int))) := by show _ = _; rw [rng, Int.natCast_add]
      go_wp2_with fail
      refine (with_any (rng lo n) _ _ (by omega) (by omega)).mono ?_
      rintro e w1 ⟨rfl, hb1⟩
      have hC1 := hC.below hb1 hC.lt
      obtain ⟨g0, g1, g2, g3, q0, q1, q2, q3⟩ := hC1.all
      go_wp2
      refine ⟨⟨n + 1, by omega, by go_num, ?_, ?_, ?_⟩, by simp [intOf]; omega⟩
      · exact below_put4 (hB.trans (hb1.mono hB.size)) (by omega) _
      · exact Hb.other4 (hZ.below hb1 hZ.lt) _ (by omega)
      · rw [HR.out]; exact hC1.put4 _
    · have i1 : ¬ (lo : Int) + (n : Int) ≤ (hi : Int) := by omega
      have hn2 : n = hi + 1 - lo := by omega
      have HN := (show Hid _ from hn2)
      clear hn2
      obtain ⟨d0, d1, d2, d3, f0, f1, f2, f3⟩ := hZ.all
      go_wp2
      have hq := hZ.put4 (rng lo n)
      rw [← HN.out]
      refine bodyPost_ret (v := .tuple #[(rng lo n).v, .nilIface]) (by simp [results, Try.results67, go_sem, hq.c0, hq.c1, hq.c2, hq.c3]) rfl ⟨rfl, ?_⟩
      exact below_put4 hB (by omega) _
theorem range_any (lo hi : Nat) (hl : lo < 256) (hh : hi < 256) (w : World) :
    Calls Try.prog 67 #[.int .u8 lo, .int .u8 hi] w fun e w' => e = .returned (.tuple #[(rngOf lo hi).v, errV (rngErr lo hi)]) ∧ Below w.heap.size w w' := by
  by_cases h : hi < lo
  · have e1 : rngOf lo hi = z4 := by rw [rngOf, if_pos h]
    have e2 : errV (rngErr lo hi) = .iface 52 (.int .i64 1) := by rw [rngErr, if_pos h]; rfl
    rw [e1, e2]
    exact range_bad lo hi hl hh h w
  · have e1 : rngOf lo hi = rng lo (hi + 1 - lo) := by rw [rngOf, if_neg h]
    have e2 : errV (rngErr lo hi) = .nilIface := by rw [rngErr, if_neg h]; rfl
    rw [e1, e2]
    exact range_good lo hi hl hh (by omega) w
end Go.Proofs.Ytmdfdlljeggbbaa
