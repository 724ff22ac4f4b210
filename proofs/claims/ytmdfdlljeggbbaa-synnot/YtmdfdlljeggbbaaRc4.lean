/- The landed package syn: Parse. -/
import Derived.Test.YtmdfdlljeggbbaaRc3
set_option linter.unusedSimpArgs false
set_option linter.unusedVariables false
set_option maxRecDepth 100000
namespace Go.Proofs.Ytmdfdlljeggbbaa
open Go.RowKit
set_option maxHeartbeats 1000000 in
theorem parse_full (s : ByteArray) (hs : 200 < s.size) (hm : s.size ≤ maxLen) (w : World) :
    Calls Try.prog 15 #[.string s] w fun e w' => e = .returned (.tuple #[.slice none 0 0, .int .i64 0, .iface 52 (.int .i64 3)]) ∧ Below w.heap.size w w' := by
  have h1 : (200 : Int) < (s.size : Int) := by omega
  go_enter Try.func15, Try.ntmps15
  go_wp2
  go_ret3
  exact ⟨rfl, Below.refl _ _⟩
set_option maxHeartbeats 1000000 in
theorem parse_bad (s : ByteArray) (hs : s.size ≤ 200) (z : Int) (w : World) (h : Calls Try.prog 26 #[.string s] w fun e w' => e = .returned (.tuple #[.slice none 0 0, .int .i64 z, .iface 52 (.int .i64 5)]) ∧ Below w.heap.size w w') :
    Calls Try.prog 15 #[.string s] w fun e w' => e = .returned (.tuple #[.slice none 0 0, .int .i64 z, .iface 52 (.int .i64 5)]) ∧ Below w.heap.size w w' := by
  have h1 : ¬ (200 : Int) < (s.size : Int) := by omega
  have HC := hid h
  clear h
  go_enter Try.func15, Try.ntmps15
  go_wp2_with fail
  refine Calls.mono HC.out ?_
  rintro e w1 ⟨rfl, hb⟩
  go_wp2
  go_ret3
  exact ⟨rfl, hb⟩
set_option maxHeartbeats 1000000 in
theorem parse_ok (s : ByteArray) (hs : s.size ≤ 200) (ms : List Nd) (w : World) (h : Calls Try.prog 26 #[.string s] w fun e w' => ∃ v, e = .returned (.tuple #[v, .int .i64 0, .nilIface]) ∧ Below w.heap.size w w' ∧ NsIn w' v ms) (hk : ¬ 60 < ms.length) :
    Calls Try.prog 15 #[.string s] w fun e w' => ∃ v, e = .returned (.tuple #[v, .int .i64 0, .nilIface]) ∧ Below w.heap.size w w' ∧ NsIn w' v ms := by
  have h1 : ¬ (200 : Int) < (s.size : Int) := by omega
  have h2 : ¬ (60 : Int) < (ms.length : Int) := by omega
  have HC := hid h
  clear h
  go_enter Try.func15, Try.ntmps15
  go_wp2_with fail
  refine Calls.mono HC.out ?_
  rintro e w1 ⟨v, rfl, hb, hN⟩
  obtain ⟨a0, c0, rfl, hN1⟩ := hN
  have HN := hid hN1
  clear hN1
  go_wp2
  go_ret3
  exact ⟨_, rfl, hb, ⟨a0, c0, rfl, HN.out⟩⟩
set_option maxHeartbeats 1000000 in
theorem parse_many (s : ByteArray) (hs : s.size ≤ 200) (ms : List Nd) (w : World) (h : Calls Try.prog 26 #[.string s] w fun e w' => ∃ v, e = .returned (.tuple #[v, .int .i64 0, .nilIface]) ∧ Below w.heap.size w w' ∧ NsIn w' v ms) (hk : 60 < ms.length) :
    Calls Try.prog 15 #[.string s] w fun e w' => e = .returned (.tuple #[.slice none 0 0, .int .i64 0, .iface 52 (.int .i64 3)]) ∧ Below w.heap.size w w' := by
  have h1 : ¬ (200 : Int) < (s.size : Int) := by omega
  have h2 : (60 : Int) < (ms.length : Int) := by omega
  have HC := hid h
  clear h
  go_enter Try.func15, Try.ntmps15
  go_wp2_with fail
  refine Calls.mono HC.out ?_
  rintro e w1 ⟨v, rfl, hb, hN⟩
  obtain ⟨a0, c0, rfl, hN1⟩ := hN
  clear hN1
  go_wp2
  go_ret3
  exact ⟨rfl, hb⟩
theorem nsNil (w : World) : NsIn w (.slice none 0 0) [] := ⟨none, 0, rfl, by unfold maxLen; simp, Or.inl rfl⟩
theorem whole_bad {l : List UInt8} {k : Nat} (h : Whole l (.error k)) : Alt l (.error k) ∨ ∃ ss l1, Alt l (.ok (ss, l1)) ∧ l1 ≠ [] ∧ k = l1.length := by
  cases h with
  | bad _ h => exact Or.inl h
  | more ss l1 h hn => exact Or.inr ⟨ss, l1, h, hn, rfl⟩
theorem whole_ok {l : List UInt8} {t : Rx} (h : Whole l (.ok t)) : ∃ ss, Alt l (.ok (ss, [])) ∧ t = ors ss := by
  cases h with
  | ok ss h => exact ⟨ss, h, rfl⟩
/-- Package syn reads as the document asks. -/
theorem synR : SynR where
  parse := by
    intro s w ms k e hm hR
    cases hR with
    | full h => exact (parse_full s h hm w).mono fun _ w' x => ⟨_, x.1, x.2, nsNil w'⟩
    | bad k h hW =>
      have hread : Calls Try.prog 26 #[.string s] w fun e w' => e = .returned (.tuple #[.slice none 0 0, .int .i64 ((s.size : Int) - (k : Int)), .iface 52 (.int .i64 5)]) ∧ Below w.heap.size w w' := by
        rcases whole_bad hW with ha | ⟨ss, l1, ha, hn, rfl⟩
        · exact read_bad1 s h k ha w
        · exact read_bad2 s h ss l1 hn ha w
      exact (parse_bad s h _ w hread).mono fun _ w' x => ⟨_, x.1, x.2, nsNil w'⟩
    | many t h hW h6 =>
      obtain ⟨ss, ha, rfl⟩ := whole_ok hW
      exact (parse_many s h _ w (read_ok s h ss ha w) h6).mono fun _ w' x => ⟨_, x.1, x.2, nsNil w'⟩
    | ok t h hW h6 =>
      obtain ⟨ss, ha, rfl⟩ := whole_ok hW
      exact (parse_ok s h _ w (read_ok s h ss ha w) h6).mono fun _ w' x => by
        obtain ⟨v, h1, h2, h3⟩ := x
        exact ⟨v, h1, h2, h3⟩
end Go.Proofs.Ytmdfdlljeggbbaa
