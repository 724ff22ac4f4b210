/- A pattern's text. -/
import Derived.Test.YtmdfdlljeggbbaaNdR
set_option linter.unusedSimpArgs false
set_option linter.unusedVariables false
set_option maxRecDepth 100000
namespace Go.Proofs.Ytmdfdlljeggbbaa
open Go.RowKit

/-- The node at a tree's top. -/
def Rx.top : Rx → Nd
  | .leaf n => n
  | .one n _ => n
  | .two n _ _ => n
/-- Does a part want brackets? -/
def brk (parent op : Int) (second : Bool) : Bool :=
  if op = 2 then !decide (parent = 4) else if op = 4 then !second || !decide (parent = 4) else if op = 3 then (decide (parent = 3) && !second) || decide (parent = 5) || decide (parent = 6) || decide (parent = 7) else false
def brT (x : Bool) (s : List UInt8) : List UInt8 := if x then 40 :: (s ++ [41]) else s
def signT (op : Int) : UInt8 := if op = 5 then 42 else if op = 6 then 43 else 63
/-- The text. -/
def Rx.txt : Rx → List UInt8
  | .leaf n => if n.op = 1 then textL n.c else if n.op = 8 then [94] else if n.op = 9 then [36] else []
  | .one n a => brT (brk n.op a.top.op false) a.txt ++ [signT n.op]
  | .two n a b => brT (brk n.op a.top.op false) a.txt ++ ((if n.op = 4 then [124] else []) ++ brT (brk n.op b.top.op true) b.txt)
theorem Rx.flat_top (t : Rx) : ∃ r, t.flat = t.top :: r := by cases t <;> exact ⟨_, rfl⟩
theorem brT_len (x : Bool) (s : List UInt8) : (brT x s).length ≤ s.length + 2 := by
  cases x <;> simp [brT]
theorem textL_len (k : C4) : (textL k).length ≤ 2306 := by
  have := runs256_len k
  unfold textL
  split
  · simp
  · split
    · omega
    · simp; omega
theorem Rx.txt_len : ∀ t : Rx, t.txt.length ≤ 2400 * t.flat.length
  | .leaf n => by
    have := textL_len n.c
    unfold Rx.txt
    split
    · simp [Rx.flat]; omega
    · split
      · simp [Rx.flat]
      · split <;> simp [Rx.flat]
  | .one n a => by
    have := txt_len a
    have := brT_len (brk n.op a.top.op false) a.txt
    simp [Rx.txt, Rx.flat]; omega
  | .two n a b => by
    have := txt_len a
    have := txt_len b
    have := brT_len (brk n.op a.top.op false) a.txt
    have := brT_len (brk n.op b.top.op true) b.txt
    have : (if n.op = 4 then [(124 : UInt8)] else []).length ≤ 1 := by split <;> simp
    simp [Rx.txt, Rx.flat]; omega
end Go.Proofs.Ytmdfdlljeggbbaa
