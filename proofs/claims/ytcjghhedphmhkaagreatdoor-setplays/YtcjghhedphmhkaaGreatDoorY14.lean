/- Own texts. -/
import Derived.Test.YtcjghhedphmhkaaGreatDoorY13
set_option linter.unusedSimpArgs false
set_option linter.unusedVariables false
set_option maxRecDepth 100000
set_option maxHeartbeats 8000000
namespace Go.Proofs.YtcjghhedphmhkaaGreatDoor
open Go.RowKit
def At (w : World) (g : Nat) (s : ByteArray) (l : List UInt8) : Prop:=∃ a : Nat,a + l.length = s.size ∧ s.data.toList.drop a = l ∧ RdB w g s a (-1)
def Bad (w : World) (g : Nat) (s : ByteArray) (k m : Nat) : Prop:=∃ a bd : Nat,a ≤ s.size + m ∧ bd + k = s.size ∧ RdB w g s a bd
theorem At.below {w w' : World} {g : Nat} {s : ByteArray} {l : List UInt8} (h : At w g s l) (hb : Below w.heap.size w w') : At w' g s l:=by
  obtain ⟨a,h1,h2,h3⟩:=h
  exact ⟨a,h1,h2,h3.below hb⟩
theorem Bad.below {w w' : World} {g : Nat} {s : ByteArray} {k m : Nat} (h : Bad w g s k m) (hb : Below w.heap.size w w') : Bad w' g s k m:=by
  obtain ⟨a,bd,h1,h2,h3⟩:=h
  exact ⟨a,bd,h1,h2,h3.below hb⟩
theorem Bad.more {w : World} {g : Nat} {s : ByteArray} {k m m' : Nat} (h : Bad w g s k m) (hm : m ≤ m') : Bad w g s k m':=by
  obtain ⟨a,bd,h1,h2,h3⟩:=h
  exact ⟨a,bd,by omega,h2,h3⟩
theorem At.lt {w : World} {g : Nat} {s : ByteArray} {l : List UInt8} (h : At w g s l) : g < w.heap.size:=by
  obtain ⟨a,_,_,h3⟩:=h
  exact h3.lt
theorem signedB_iff (c : UInt8) : signedB (c.toNat : Int) = decide (c ∈ signL):=by
  have key : ∀ c : Fin 256,signedB (c.val : Int) = decide (UInt8.ofNat c.val ∈ signL):=by decide +kernel
  have:=key ⟨c.toNat,c.toNat_lt⟩
  simpa using this
theorem signed_u (c : UInt8) (w : World) :
    Calls Tryz.prog 107 #[.int .u8 (c.toNat : Int)] w fun e w' => e = .returned (.bool (decide (c ∈ signL))) ∧ w' = w:=by
  have:=signed_any (c.toNat : Int) w
  rw [signedB_iff] at this
  exact this
theorem u8_i64 (c : UInt8) : IntKind.i64.wrap (c.toNat : Int) = (c.toNat : Int):=by
  have:=c.toNat_lt
  rw [IntKind.wrap_i64]; omega
theorem RdB.dr {w : World} {g : Nat} {s : ByteArray} {a bd : Int} (h : RdB w g s a bd) (n : Nat) : RdB (w.drewN n) g s a bd:=h
theorem gr_dr (w : World) (n : Nat) (row : Option Nat) : w.grownBy (w.drewN n) row:=below_grown (below_drewN' w n) row
theorem gr_dr' {w w' : World} {n : Nat} {row : Option Nat} (h : (w.drewN n).grownBy w' row) : w.grownBy w' row:=(gr_dr w n row).trans h
theorem one_nil (g : Nat) (s : ByteArray) (w : World) (h : At w g s []) (hs : s.size ≤ 1000) :
    Calls Tryz.prog 80 #[.pointer (some ⟨g,0,none⟩)] w fun e w' => e = .returned (.int .i64 0) ∧ Bad w' g s 0 0 ∧ w.grownBy w' (some g):=by
  obtain ⟨a,ha,hd,hR⟩:=h
  simp at ha
  subst ha
  obtain ⟨c0,c1,c2,f1,f2⟩:=hR.all
  have HF : Hid (∀ n,_):=fun n => fail_first g s (s.size : Int) (-1) (s.size : Int) (w.drewN n) (hR.dr n) (by omega)
  clear hd hR
  go_enter Tryz.func80,Tryz.ntmps80
  go_wp2_with fail
  go_quiet (fail)
  go_wp2_with fail
  refine Calls.mono (HF.out _) ?_
  rintro e w1 ⟨rfl,hR1,hg1⟩
  obtain ⟨d0,d1,d2,e1,e2⟩:=hR1.all
  have R1 : Hid _:=hR1
  clear hR1
  go_wp2
  go_ret
  exact ⟨rfl,⟨s.size,s.size,by omega,by omega,R1.out⟩,gr_dr' hg1⟩
theorem one_plain (g : Nat) (s : ByteArray) (c : UInt8) (r : List UInt8) (w : World) (h : At w g s (c :: r)) (hs : s.size ≤ 1000) (hc : c ≠ 92) (h1 : 32 ≤ c.toNat) (h2 : c.toNat ≤ 126) (h3 : c ∉ signL) :
    Calls Tryz.prog 80 #[.pointer (some ⟨g,0,none⟩)] w fun e w' => e = .returned (.int .i64 (c.toNat : Int)) ∧ At w' g s r ∧ w.grownBy w' (some g):=by
  obtain ⟨a,ha,hd,hR⟩:=h
  obtain ⟨x1,x2,x3⟩:=drop_cons _ _ _ _ hd
  simp at ha
  obtain ⟨c0,c1,c2,f1,f2⟩:=hR.all
  have hi:=idx_at s a c x1
  have ia : (a : Int) < (s.size : Int):=by omega
  have ib : decide (s.size ≤ a) = false:=by simp; omega
  have hn : ((c.toNat : Int) != 92) = true:=by
    rw [bne_iff_ne]
    intro e
    exact hc (UInt8.toNat_inj.1 (by show c.toNat = 92; omega))
  have hw:=u8_i64 c
  have HS : Hid _:=signed_u c
  rw [decide_eq_false h3] at HS
  have q1 : ¬ (c.toNat : Int) < 32:=by omega
  have q2 : ¬ 126 < (c.toNat : Int):=by omega
  have HX : Hid _:=And.intro x2 hR
  clear hd hR x1 x2 x3 hc h3
  go_enter Tryz.func80,Tryz.ntmps80
  go_wp2_with fail
  go_quiet (fail)
  go_wp2_with fail
  go_quiet (fail)
  go_wp2_with fail
  refine Calls.mono (HS.out _) ?_
  rintro e w1 ⟨rfl,rfl⟩
  go_wp2
  go_ret
  exact ⟨rfl,⟨a + 1,by omega,HX.out.1,RdB.setAt (HX.out.2.dr _) _⟩,gr_dr' (grown_at _ _ _ _)⟩
theorem one_not (g : Nat) (s : ByteArray) (c : UInt8) (r : List UInt8) (w : World) (h : At w g s (c :: r)) (hs : s.size ≤ 1000) (hc : c ≠ 92) (h3 : c.toNat < 32 ∨ 126 < c.toNat ∨ c ∈ signL) :
    Calls Tryz.prog 80 #[.pointer (some ⟨g,0,none⟩)] w fun e w' => e = .returned (.int .i64 (c.toNat : Int)) ∧ Bad w' g s (r.length + 1) 0 ∧ w.grownBy w' (some g):=by
  obtain ⟨a,ha,hd,hR⟩:=h
  obtain ⟨x1,x2,x3⟩:=drop_cons _ _ _ _ hd
  simp at ha
  obtain ⟨c0,c1,c2,f1,f2⟩:=hR.all
  have hi:=idx_at s a c x1
  have ia : (a : Int) < (s.size : Int):=by omega
  have ib : decide (s.size ≤ a) = false:=by simp; omega
  have hn : ((c.toNat : Int) != 92) = true:=by
    rw [bne_iff_ne]
    intro e
    exact hc (UInt8.toNat_inj.1 (by show c.toNat = 92; omega))
  have hw:=u8_i64 c
  have HS : Hid _:=signed_u c
  have HF : Hid (∀ n,_):=fun n => fail_first g s (a : Int) (-1) (a : Int) (w.drewN n) (hR.dr n) (by omega)
  have hl : c.toNat < 256:=c.toNat_lt
  clear hd hR x1 x2 x3 hc
  by_cases h4 : c.toNat < 32
  · have q1 : (c.toNat : Int) < 32:=by omega
    clear h3
    go_enter Tryz.func80,Tryz.ntmps80
    go_wp2_with fail
    go_quiet (fail)
    go_wp2_with fail
    go_quiet (fail)
    go_wp2_with fail
    refine Calls.mono (HS.out _) ?_
    rintro e w1 ⟨rfl,rfl⟩
    go_wp2_with fail
    refine Calls.mono (HF.out _) ?_
    rintro e w1 ⟨rfl,hR1,hg1⟩
    obtain ⟨d0,d1,d2,e1,e2⟩:=hR1.all
    have R1 : Hid _:=hR1
    clear hR1
    go_wp2
    go_ret
    exact ⟨rfl,⟨a + 1,a,by omega,by omega,RdB.setAt R1.out _⟩,(gr_dr' hg1).trans (grown_at _ _ _ _)⟩
  by_cases h5 : 126 < c.toNat
  · have q1 : ¬ (c.toNat : Int) < 32:=by omega
    have q2 : 126 < (c.toNat : Int):=by omega
    clear h3
    go_enter Tryz.func80,Tryz.ntmps80
    go_wp2_with fail
    go_quiet (fail)
    go_wp2_with fail
    go_quiet (fail)
    go_wp2_with fail
    refine Calls.mono (HS.out _) ?_
    rintro e w1 ⟨rfl,rfl⟩
    go_wp2_with fail
    refine Calls.mono (HF.out _) ?_
    rintro e w1 ⟨rfl,hR1,hg1⟩
    obtain ⟨d0,d1,d2,e1,e2⟩:=hR1.all
    have R1 : Hid _:=hR1
    clear hR1
    go_wp2
    go_ret
    exact ⟨rfl,⟨a + 1,a,by omega,by omega,RdB.setAt R1.out _⟩,(gr_dr' hg1).trans (grown_at _ _ _ _)⟩
  have h6 : c ∈ signL:=by rcases h3 with h | h | h <;> first | omega | exact h
  rw [decide_eq_true h6] at HS
  have q1 : ¬ (c.toNat : Int) < 32:=by omega
  have q2 : ¬ 126 < (c.toNat : Int):=by omega
  clear h3 h6
  go_enter Tryz.func80,Tryz.ntmps80
  go_wp2_with fail
  go_quiet (fail)
  go_wp2_with fail
  go_quiet (fail)
  go_wp2_with fail
  refine Calls.mono (HS.out _) ?_
  rintro e w1 ⟨rfl,rfl⟩
  go_wp2_with fail
  refine Calls.mono (HF.out _) ?_
  rintro e w1 ⟨rfl,hR1,hg1⟩
  obtain ⟨d0,d1,d2,e1,e2⟩:=hR1.all
  have R1 : Hid _:=hR1
  clear hR1
  go_wp2
  go_ret
  exact ⟨rfl,⟨a + 1,a,by omega,by omega,RdB.setAt R1.out _⟩,(gr_dr' hg1).trans (grown_at _ _ _ _)⟩
theorem one_esc0 (g : Nat) (s : ByteArray)  (w : World) (h : At w g s ([92])) (hs : s.size ≤ 1000)  :
    Calls Tryz.prog 80 #[.pointer (some ⟨g,0,none⟩)] w fun e w' => e = .returned (.int .i64 (0)) ∧ Bad w' g s 0 0 ∧ w.grownBy w' (some g):=by
  obtain ⟨a,ha,hd,hR⟩:=h
  obtain ⟨x1,x2,x3⟩:=drop_cons _ _ _ _ hd
  simp at ha
  obtain ⟨c0,c1,c2,f1,f2⟩:=hR.all
  have hi : ∀ w,(Instr.index 9 (.string s) (.int .i64 (a : Int))).run Tryz.prog w = .ok (.int .u8 92) w:=idx_at s a 92 x1
  have ia : (a : Int) < (s.size : Int):=by omega
  have ib : decide (s.size ≤ a) = false:=by simp; omega
  have HS : Hid (∀ w,Calls Tryz.prog 107 #[.int .u8 92] w fun e w' => e = .returned (.bool true) ∧ w' = w):=fun w => signed_u 92 w
  have ic : ¬ (a : Int) + 1 < (s.size : Int):=by omega
  have HF : Hid (∀ n,_):=fun n => fail_first g s (a : Int) (-1) (s.size : Int) (w.drewN n) (hR.dr n) (by omega)
  clear hd hR x1 x2 x3
  go_enter Tryz.func80,Tryz.ntmps80
  go_wp2_with fail
  go_quiet (fail)
  go_wp2_with fail
  go_quiet (fail)
  go_wp2_with fail
  refine Calls.mono (HS.out _) ?_
  rintro e w1 ⟨rfl,rfl⟩
  go_wp2_with fail
  go_quiet (fail)
  go_wp2_with fail
  refine Calls.mono (HF.out _) ?_
  rintro e w1 ⟨rfl,hR1,hg1⟩
  have R1 : Hid _:=hR1
  clear hR1
  go_wp2
  go_ret
  exact ⟨rfl,⟨a,s.size,by omega,by omega,R1.out⟩,gr_dr' hg1⟩
theorem one_escS (g : Nat) (s : ByteArray) (d : UInt8) (r : List UInt8) (w : World) (h : At w g s (92 :: d :: r)) (hs : s.size ≤ 1000) (h3 : d ∈ signL) :
    Calls Tryz.prog 80 #[.pointer (some ⟨g,0,none⟩)] w fun e w' => e = .returned (.int .i64 (d.toNat : Int)) ∧ At w' g s r ∧ w.grownBy w' (some g):=by
  obtain ⟨a,ha,hd,hR⟩:=h
  obtain ⟨x1,x2,x3⟩:=drop_cons _ _ _ _ hd
  simp at ha
  obtain ⟨c0,c1,c2,f1,f2⟩:=hR.all
  have hi : ∀ w,(Instr.index 9 (.string s) (.int .i64 (a : Int))).run Tryz.prog w = .ok (.int .u8 92) w:=idx_at s a 92 x1
  have ia : (a : Int) < (s.size : Int):=by omega
  have ib : decide (s.size ≤ a) = false:=by simp; omega
  have HS : Hid (∀ w,Calls Tryz.prog 107 #[.int .u8 92] w fun e w' => e = .returned (.bool true) ∧ w' = w):=fun w => signed_u 92 w
  obtain ⟨y1,y2,y3⟩:=drop_cons _ _ _ _ x2
  have hi2 : ∀ w,(Instr.index 9 (.string s) (.int .i64 ((a : Int) + 1))).run Tryz.prog w = .ok (.int .u8 (d.toNat : Int)) w:=idx_at s (a + 1) d y1
  have ic : (a : Int) + 1 < (s.size : Int):=by omega
  have hw:=u8_i64 d
  have HS2 : Hid _:=signed_u d
  rw [decide_eq_true h3] at HS2
  have HX : Hid _:=And.intro y2 hR
  clear hd hR x1 x2 x3 y1 y2 y3 h3
  go_enter Tryz.func80,Tryz.ntmps80
  go_wp2_with fail
  go_quiet (fail)
  go_wp2_with fail
  go_quiet (fail)
  go_wp2_with fail
  refine Calls.mono (HS.out _) ?_
  rintro e w1 ⟨rfl,rfl⟩
  go_wp2_with fail
  go_quiet (fail)
  go_wp2_with fail
  go_quiet (fail)
  go_wp2_with fail
  refine Calls.mono (HS2.out _) ?_
  rintro e w1 ⟨rfl,rfl⟩
  go_wp2
  go_ret
  exact ⟨rfl,⟨a + 1 + 1,by omega,HX.out.1,RdB.setAt (HX.out.2.dr _) _⟩,gr_dr' (grown_at _ _ _ _)⟩
theorem one_escN (g : Nat) (s : ByteArray) (d : UInt8) (r : List UInt8) (w : World) (h : At w g s (92 :: d :: r)) (hs : s.size ≤ 1000) (h3 : d ∉ signL) (h4 : d ≠ 120) :
    Calls Tryz.prog 80 #[.pointer (some ⟨g,0,none⟩)] w fun e w' => e = .returned (.int .i64 (0)) ∧ Bad w' g s (r.length + 2) 0 ∧ w.grownBy w' (some g):=by
  obtain ⟨a,ha,hd,hR⟩:=h
  obtain ⟨x1,x2,x3⟩:=drop_cons _ _ _ _ hd
  simp at ha
  obtain ⟨c0,c1,c2,f1,f2⟩:=hR.all
  have hi : ∀ w,(Instr.index 9 (.string s) (.int .i64 (a : Int))).run Tryz.prog w = .ok (.int .u8 92) w:=idx_at s a 92 x1
  have ia : (a : Int) < (s.size : Int):=by omega
  have ib : decide (s.size ≤ a) = false:=by simp; omega
  have HS : Hid (∀ w,Calls Tryz.prog 107 #[.int .u8 92] w fun e w' => e = .returned (.bool true) ∧ w' = w):=fun w => signed_u 92 w
  obtain ⟨y1,y2,y3⟩:=drop_cons _ _ _ _ x2
  have hi2 : ∀ w,(Instr.index 9 (.string s) (.int .i64 ((a : Int) + 1))).run Tryz.prog w = .ok (.int .u8 (d.toNat : Int)) w:=idx_at s (a + 1) d y1
  have ic : (a : Int) + 1 < (s.size : Int):=by omega
  have hw:=u8_i64 d
  have HS2 : Hid _:=signed_u d
  rw [decide_eq_false h3] at HS2
  have hn : ((d.toNat : Int) != 120) = true:=by
    rw [bne_iff_ne]
    intro e
    exact h4 (UInt8.toNat_inj.1 (by show d.toNat = 120; omega))
  have HF : Hid (∀ n,_):=fun n => fail_first g s (a : Int) (-1) (a : Int) (w.drewN n) (hR.dr n) (by omega)
  clear hd hR x1 x2 x3 y1 y2 y3 h3 h4
  go_enter Tryz.func80,Tryz.ntmps80
  go_wp2_with fail
  go_quiet (fail)
  go_wp2_with fail
  go_quiet (fail)
  go_wp2_with fail
  refine Calls.mono (HS.out _) ?_
  rintro e w1 ⟨rfl,rfl⟩
  go_wp2_with fail
  go_quiet (fail)
  go_wp2_with fail
  go_quiet (fail)
  go_wp2_with fail
  refine Calls.mono (HS2.out _) ?_
  rintro e w1 ⟨rfl,rfl⟩
  go_wp2_with fail
  refine Calls.mono (HF.out _) ?_
  rintro e w1 ⟨rfl,hR1,hg1⟩
  have R1 : Hid _:=hR1
  clear hR1
  go_wp2
  go_ret
  exact ⟨rfl,⟨a,a,by omega,by omega,R1.out⟩,gr_dr' hg1⟩
theorem hexI_some {c : UInt8} {a : Nat} (h : hx c = some a) : hexI c = (a : Int):=by unfold hexI; rw [h]
theorem hexI_none {c : UInt8} (h : hx c = none) : hexI c = -1:=by unfold hexI; rw [h]
def HexPre (r : List UInt8) (j n : Nat) : Prop:=(j = 0 ∧ n = 0) ∨ (j = 1 ∧ ∃ x r3,r = x :: r3 ∧ hx x = some n) ∨ (j = 2 ∧ ∃ x y r4 p q,r = x :: y :: r4 ∧ hx x = some p ∧ hx y = some q ∧ n = p * 16 + q)
theorem HexPre.two {r : List UInt8} {n : Nat} (h : HexPre r 2 n) : ∃ x y r4 p q,r = x :: y :: r4 ∧ hx x = some p ∧ hx y = some q ∧ n = p * 16 + q:=by
  rcases h with h | h | h
  · omega
  · omega
  · exact h.2
theorem HexPre.le {r : List UInt8} {j n : Nat} (h : HexPre r j n) : j ≤ 2:=by
  rcases h with h | h | h <;> omega
theorem HexPre.next {r : List UInt8} {j n : Nat} (h : HexPre r j n) (hj : j ≠ 2) : ∃ t,r.drop j = t ∧ ((t = [] ∧ rdHex (r.length + 2) r = .error 0) ∨ (∃ x u,t = x :: u ∧ ((hx x = none ∧ rdHex (r.length + 2) r = .error (r.length + 2)) ∨ (∃ p,hx x = some p ∧ HexPre r (j + 1) (n * 16 + p) ∧ n * 16 + p < 256)))):=by
  refine ⟨_,rfl,?_⟩
  rcases h with ⟨rfl,rfl⟩ | ⟨rfl,x,r3,rfl,hx1⟩ | ⟨rfl,_⟩
  · cases r with
    | nil => exact Or.inl ⟨rfl,rfl⟩
    | cons x r3 =>
      refine Or.inr ⟨x,r3,rfl,?_⟩
      cases hx1 : hx x with
      | none =>
        refine Or.inl ⟨rfl,?_⟩
        cases r3 with
        | nil => simp [rdHex,hx1]
        | cons y r4 => simp only [rdHex,hx1]
      | some p =>
        have:=hx_lt _ _ hx1
        exact Or.inr ⟨p,rfl,Or.inr (Or.inl ⟨rfl,x,r3,rfl,by rw [hx1]; simp⟩),by omega⟩
  · have h16:=hx_lt _ _ hx1
    cases r3 with
    | nil => exact Or.inl ⟨rfl,by simp [rdHex,hx1]⟩
    | cons y r4 =>
      refine Or.inr ⟨y,r4,rfl,?_⟩
      cases hx2 : hx y with
      | none => exact Or.inl ⟨rfl,by simp only [rdHex,hx1,hx2]⟩
      | some p =>
        have:=hx_lt _ _ hx2
        exact Or.inr ⟨p,rfl,Or.inr (Or.inr ⟨rfl,x,y,r4,n,p,rfl,hx1,hx2,rfl⟩),by omega⟩
  · exact absurd rfl hj
theorem one_hex (g : Nat) (s : ByteArray) (r : List UInt8) (w : World) (h : At w g s (92 :: 120 :: r)) (hs : s.size ≤ 1000) :
    Calls Tryz.prog 80 #[.pointer (some ⟨g,0,none⟩)] w fun e w' => w.grownBy w' (some g) ∧ ((∃ v r',rdHex (r.length + 2) r = .ok (v,r') ∧ e = .returned (.int .i64 ((v : Nat) : Int)) ∧ At w' g s r') ∨ (∃ k,rdHex (r.length + 2) r = .error k ∧ e = .returned (.int .i64 0) ∧ Bad w' g s k 0)):=by
  obtain ⟨a,ha,hd,hR⟩:=h
  obtain ⟨x1,x2,x3⟩:=drop_cons _ _ _ _ hd
  simp at ha
  obtain ⟨c0,c1,c2,f1,f2⟩:=hR.all
  have hi : ∀ w,(Instr.index 9 (.string s) (.int .i64 (a : Int))).run Tryz.prog w = .ok (.int .u8 92) w:=idx_at s a 92 x1
  have ia : (a : Int) < (s.size : Int):=by omega
  have ib : decide (s.size ≤ a) = false:=by simp; omega
  have HS : Hid (∀ w,Calls Tryz.prog 107 #[.int .u8 92] w fun e w' => e = .returned (.bool true) ∧ w' = w):=fun w => signed_u 92 w
  obtain ⟨y1,y2,y3⟩:=drop_cons _ _ _ _ x2
  have hi2 : ∀ w,(Instr.index 9 (.string s) (.int .i64 ((a : Int) + 1))).run Tryz.prog w = .ok (.int .u8 120) w:=idx_at s (a + 1) 120 y1
  have ic : (a : Int) + 1 < (s.size : Int):=by omega
  have HS2 : Hid (∀ w,Calls Tryz.prog 107 #[.int .u8 120] w fun e w' => e = .returned (.bool false) ∧ w' = w):=fun w => signed_u 120 w
  have HF : Hid (∀ n z,_):=fun n z => fail_first g s (a : Int) (-1) z (w.drewN n) (hR.dr n) (by omega)
  have HR : Hid _:=hR
  have HD : Hid _:=y2
  clear hd x1 x2 x3 y1 y3 y2 hR
  go_enter Tryz.func80,Tryz.ntmps80
  go_wp2_with fail
  go_quiet (fail)
  go_wp2_with fail
  go_quiet (fail)
  go_wp2_with fail
  refine Calls.mono (HS.out _) ?_
  rintro e w1 ⟨rfl,rfl⟩
  go_wp2_with fail
  go_quiet (fail)
  go_wp2_with fail
  go_quiet (fail)
  go_wp2_with fail
  refine Calls.mono (HS2.out _) ?_
  rintro e w1 ⟨rfl,rfl⟩
  go_wp2_with fail
  go_loopw [7,8] (fun u v wr => ∃ (j n q : Nat),u = .int .i64 n ∧ v = .int .i64 ((j : Int) + 2) ∧ wr = w.drewN q ∧ n < 256 ∧ Hid (HexPre r j n)) (fun _ v _ => 4 - (intOf v).toNat)
  case atStart => exact ⟨0,0,_,rfl,rfl,rfl,by omega,Or.inl ⟨rfl,rfl⟩⟩
  case round =>
    obtain ⟨j,n,q,rfl,rfl,rfl,hn,HP⟩:=hrel
    by_cases h2 : j = 2
    · subst h2
      obtain ⟨x,y,r4,p,p',rfl,hx1,hx2,rfl⟩:=HexPre.two HP.out
      have HE : Hid (rdHex ((x :: y :: r4).length + 2) (x :: y :: r4) = .ok (p * 16 + p',r4)):=by show _ = _; simp only [rdHex,hx1,hx2]
      have HD2 : Hid (s.data.toList.drop (a + 1 + 1 + 1 + 1) = r4):=by
        have:=HD.out
        obtain ⟨_,z2,_⟩:=drop_cons _ _ _ _ this
        exact (drop_cons _ _ _ _ z2).2.1
      simp at ha
      clear hx1 hx2 HP
      go_wp2
      go_ret
      exact ⟨gr_dr' (grown_at _ _ _ _),Or.inl ⟨_,_,HE.out,rfl,⟨a + 1 + 1 + 1 + 1,by omega,HD2.out,RdB.setAt (RdB.dr HR.out _) _⟩⟩⟩
    · have hj:=HexPre.le HP.out
      obtain ⟨t,ht,hcase⟩:=HexPre.next HP.out h2
      have hj2 : j < 2:=by omega
      rcases hcase with ⟨rfl,he⟩ | ⟨x,u,rfl,hcase⟩
      · have hrl:=drop_nil' _ _ ht
        have id : ¬ (a : Int) + ((j : Int) + 2) < (s.size : Int):=by omega
        have HE : Hid _:=he
        clear he ht HP
        go_wp2_with fail
        go_quiet (fail)
        go_wp2_with fail
        refine Calls.mono (HF.out _ _) ?_
        rintro e w1 ⟨rfl,hR1,hg1⟩
        have R1 : Hid _:=hR1
        clear hR1
        go_wp2
        go_ret
        exact ⟨gr_dr' hg1,Or.inr ⟨0,HE.out,rfl,⟨a,s.size,by omega,by omega,R1.out⟩⟩⟩
      · have hgx : s.data.toList[a + (j + 2)]? = some x:=by
          have h1:=HD.out
          have h3 : (s.data.toList.drop (a + 1 + 1)).drop j = x :: u:=by rw [h1]; exact ht
          rw [List.drop_drop] at h3
          have:=(drop_cons _ _ _ _ h3).1
          rwa [show a + 1 + 1 + j = a + (j + 2) from by omega] at this
        have hrl : j < r.length:=by
          rcases Nat.lt_or_ge j r.length with h' | h'
          · exact h'
          · rw [List.drop_eq_nil_of_le h'] at ht; cases ht
        have id : (a : Int) + ((j : Int) + 2) < (s.size : Int):=by omega
        have hix : ∀ w,(Instr.index 9 (.string s) (.int .i64 ((a : Int) + ((j : Int) + 2)))).run Tryz.prog w = .ok (.int .u8 (x.toNat : Int)) w:=by
          have:=idx_at s (a + (j + 2)) x hgx
          rw [show ((a + (j + 2) : Nat) : Int) = (a : Int) + ((j : Int) + 2) from by omega] at this
          exact this
        have hwr : IntKind.i64.wrap ((a : Int) + ((j : Int) + 2)) = (a : Int) + ((j : Int) + 2):=by rw [IntKind.wrap_i64]; omega
        have HH : Hid _:=hex_any x
        rcases hcase with ⟨h5,he⟩ | ⟨p,h5,hp,hp2⟩
        · rw [hexI_none h5] at HH
          have HE : Hid _:=he
          clear he ht HP h5 hgx
          go_wp2_with fail
          go_quiet (fail)
          go_wp2_with fail
          go_quiet (exact Calls.mono (HH.out _) fun _ _ h => ⟨h.1,_,h.2⟩)
          go_wp2_with fail
          refine Calls.mono (HF.out _ _) ?_
          rintro e w1 ⟨rfl,hR1,hg1⟩
          have R1 : Hid _:=hR1
          clear hR1
          go_wp2
          go_ret
          exact ⟨gr_dr' hg1,Or.inr ⟨r.length + 2,HE.out,rfl,⟨a,a,by omega,by omega,R1.out⟩⟩⟩
        · rw [hexI_some h5] at HH
          have HP2 : Hid _:=hp
          have h16:=hx_lt _ _ h5
          clear ht HP h5 hgx hp
          go_wp2_with fail
          go_quiet (fail)
          go_wp2_with fail
          go_quiet (exact Calls.mono (HH.out _) fun _ _ h => ⟨h.1,_,h.2⟩)
          go_wp2
          exact ⟨⟨j + 1,n * 16 + p,_,by go_num,by go_num,rfl,by omega,HP2⟩,by simp [intOf]; omega⟩
theorem one_hex_ok (g : Nat) (s : ByteArray) (r : List UInt8) (w : World) (h : At w g s (92 :: 120 :: r)) (hs : s.size ≤ 1000) (v : Nat) (r' : List UInt8) (he : rdHex (r.length + 2) r = .ok (v,r')) :
    Calls Tryz.prog 80 #[.pointer (some ⟨g,0,none⟩)] w fun e w' => e = .returned (.int .i64 ((v : Nat) : Int)) ∧ At w' g s r' ∧ w.grownBy w' (some g):=by
  refine (one_hex g s r w h hs).mono ?_
  rintro e w' ⟨hg,⟨v',r'',h1,h2,h3⟩ | ⟨k,h1,_⟩⟩
  · rw [he] at h1
    injection h1 with h1
    injection h1 with h4 h5
    subst h4; subst h5
    exact ⟨h2,h3,hg⟩
  · rw [he] at h1; cases h1
theorem one_hex_bad (g : Nat) (s : ByteArray) (r : List UInt8) (w : World) (h : At w g s (92 :: 120 :: r)) (hs : s.size ≤ 1000) (k : Nat) (he : rdHex (r.length + 2) r = .error k) :
    Calls Tryz.prog 80 #[.pointer (some ⟨g,0,none⟩)] w fun e w' => e = .returned (.int .i64 0) ∧ Bad w' g s k 0 ∧ w.grownBy w' (some g):=by
  refine (one_hex g s r w h hs).mono ?_
  rintro e w' ⟨hg,⟨v',r'',h1,h2,h3⟩ | ⟨k',h1,h2,h3⟩⟩
  · rw [he] at h1; cases h1
  · rw [he] at h1
    injection h1 with h1
    subst h1
    exact ⟨h2,h3,hg⟩
theorem one_ok (g : Nat) (s : ByteArray) (l : List UInt8) (w : World) (h : At w g s l) (hs : s.size ≤ 1000) (v : Nat) (r : List UInt8) (he : rd1 l = .ok (v,r)) :
    Calls Tryz.prog 80 #[.pointer (some ⟨g,0,none⟩)] w fun e w' => e = .returned (.int .i64 ((v : Nat) : Int)) ∧ At w' g s r ∧ w.grownBy w' (some g):=by
  cases l with
  | nil => simp [rd1] at he
  | cons c l =>
    rw [rd1] at he
    split at he
    · rename_i hc
      subst hc
      cases l with
      | nil => simp [rdEsc] at he
      | cons d l =>
        rw [rdEsc] at he
        split at he
        · rename_i h3
          injection he with he
          injection he with h4 h5
          subst h4; subst h5
          exact one_escS g s d l w h hs h3
        · split at he
          · rename_i h4
            subst h4
            exact one_hex_ok g s l w h hs v r he
          · cases he
    · rename_i hc
      split at he
      · cases he
      · rename_i h3
        injection he with he
        injection he with h4 h5
        subst h4; subst h5
        exact one_plain g s c l w h hs hc (by omega) (by omega) (fun h => h3 (Or.inr (Or.inr h)))
theorem one_bad (g : Nat) (s : ByteArray) (l : List UInt8) (w : World) (h : At w g s l) (hs : s.size ≤ 1000) (k : Nat) (he : rd1 l = .error k) :
    Calls Tryz.prog 80 #[.pointer (some ⟨g,0,none⟩)] w fun e w' => ∃ v : Nat,v < 256 ∧ e = .returned (.int .i64 ((v : Nat) : Int)) ∧ Bad w' g s k 0 ∧ w.grownBy w' (some g):=by
  cases l with
  | nil =>
    simp [rd1] at he
    subst he
    exact (one_nil g s w h hs).mono fun e w' h => ⟨0,by omega,h⟩
  | cons c l =>
    rw [rd1] at he
    split at he
    · rename_i hc
      subst hc
      cases l with
      | nil =>
        simp [rdEsc] at he
        subst he
        exact (one_esc0 g s w h hs).mono fun e w' h => ⟨0,by omega,h⟩
      | cons d l =>
        rw [rdEsc] at he
        split at he
        · cases he
        · rename_i h3
          split at he
          · rename_i h4
            subst h4
            exact (one_hex_bad g s l w h hs k he).mono fun e w' h => ⟨0,by omega,h⟩
          · rename_i h4
            injection he with he
            subst he
            exact (one_escN g s d l w h hs h3 h4).mono fun e w' h => ⟨0,by omega,h⟩
    · rename_i hc
      split at he
      · rename_i h3
        injection he with he
        subst he
        exact (one_not g s c l w h hs hc h3).mono fun e w' h => ⟨c.toNat,c.toNat_lt,h⟩
      · cases he
structure BrS (w : World) (g : Nat) (c : C4) (wr : World) : Prop where
  gr : w.grownBy wr (some g)
  res : Hb wr w.heap.size z4
  cls : Hb wr (w.heap.size + 1) c
  gl : g < w.heap.size
theorem BrS.grown {w wr w' : World} {g : Nat} {c : C4} (h : BrS w g c wr) (hg : wr.grownBy w' (some g)) : BrS w g c w':=by
  have hl:=h.gl
  refine ⟨h.gr.trans hg,?_,?_,hl⟩
  · exact (hg.block _ h.res.lt (by intro e; injection e with e; omega)).trans h.res
  · exact (hg.block _ h.cls.lt (by intro e; injection e with e; omega)).trans h.cls
theorem BrS.below {w wr w' : World} {g : Nat} {c : C4} (h : BrS w g c wr) (hb : Below wr.heap.size wr w') : BrS w g c w':=h.grown (below_grown hb _)
theorem grown_put4 {w wr : World} {g b : Nat} (h : w.grownBy wr (some g)) (hb : w.heap.size ≤ b) (u : C4) : w.grownBy (put4 wr b u) (some g):=by
  have hB : Below w.heap.size wr (put4 wr b u):=below_put4 (Below.refl _ _) hb u
  refine ⟨hB.os.trans h.os,hB.tape.trans h.tape,hB.output.trans h.output,Nat.le_trans h.size hB.size,fun k hk hne => ?_⟩
  exact (hB.block k hk).trans (h.block k hk hne)
theorem BrS.put {w wr : World} {g : Nat} {c : C4} (h : BrS w g c wr) (u : C4) : BrS w g u (put4 wr (w.heap.size + 1) u) :=
  ⟨grown_put4 h.gr (by omega) u,h.res.other4 u (by omega),h.cls.put4 u,h.gl⟩
theorem RdB.put {w : World} {g : Nat} {s : ByteArray} {a bd : Int} (h : RdB w g s a bd) (b : Nat) (u : C4) (hb : g ≠ b) : RdB (put4 w b u) g s a bd:=by
  have hB : Below b w (put4 w b u):=below_put4 (Below.refl _ _) (Nat.le_refl _) u
  have e : (put4 w b u).heap[g]? = w.heap[g]?:=by
    show ((((w.setCell _ _).setCell _ _).setCell _ _).setCell _ _).heap[g]? = _
    rw [Below.heap_setCell _ _ _ _ hb,Below.heap_setCell _ _ _ _ hb,Below.heap_setCell _ _ _ _ hb,Below.heap_setCell _ _ _ _ hb]
  exact e.trans h
theorem At.put {w : World} {g : Nat} {s : ByteArray} {l : List UInt8} (h : At w g s l) (b : Nat) (u : C4) (hb : g ≠ b) : At (put4 w b u) g s l:=by
  obtain ⟨a,h1,h2,h3⟩:=h
  exact ⟨a,h1,h2,h3.put b u hb⟩
theorem At.step {w : World} {g : Nat} {s : ByteArray} {c : UInt8} {l : List UInt8} (h : At w g s (c :: l)) : ∃ a : Nat,RdB w g s a (-1) ∧ a < s.size ∧ At (w.setCell ⟨g,1,none⟩ (.int .i64 ((a : Int) + 1))) g s l:=by
  obtain ⟨a,h1,h2,h3⟩:=h
  simp at h1
  exact ⟨a,h3,by omega,a + 1,by omega,(drop_cons _ _ _ _ h2).2.1,h3.setAt _⟩
theorem Bad.put {w : World} {g : Nat} {s : ByteArray} {k m : Nat} (h : Bad w g s k m) (b : Nat) (u : C4) (hb : g ≠ b) : Bad (put4 w b u) g s k m:=by
  obtain ⟨a,bd,h1,h2,h3⟩:=h
  exact ⟨a,bd,h1,h2,h3.put b u hb⟩
def rdMeas (w : World) (g n : Nat) : Nat :=
  match w.cell? ⟨g,2,none⟩ with
  | some (.int _ b) => if b < 0 then (match w.cell? ⟨g,1,none⟩ with | some (.int _ a) => n + 1 - a.toNat | _ => 0) else 0
  | _ => 0
theorem At.meas {w : World} {g : Nat} {s : ByteArray} {l : List UInt8} (h : At w g s l) : rdMeas w g s.size = l.length + 1:=by
  obtain ⟨a,h1,h2,h3⟩:=h
  obtain ⟨_,c1,c2,_⟩:=h3.all
  unfold rdMeas
  rw [c2,c1]
  simp
  omega
theorem Bad.meas {w : World} {g : Nat} {s : ByteArray} {k m : Nat} (h : Bad w g s k m) : rdMeas w g s.size = 0:=by
  obtain ⟨a,bd,h1,h2,h3⟩:=h
  obtain ⟨_,c1,c2,_⟩:=h3.all
  unfold rdMeas
  rw [c2]
  simp only
  rw [if_neg (by omega)]
def BrInv (w : World) (g : Nat) (s : ByteArray) (tgt : Except Nat (C4 × List UInt8)) (wr : World) : Prop :=
  ∃ c : C4,c.ok ∧ BrS w g c wr ∧ ((∃ l f,At wr g s l ∧ l.length < f ∧ items f c l = tgt) ∨ (∃ q,tgt = .error q ∧ Bad wr g s q 0))
theorem sees_at (g : Nat) (s : ByteArray) (l : List UInt8) (b : UInt8) (z : Int) (hz : z = (b.toNat : Int)) (hs : s.size ≤ 1000) (w : World) (h : At w g s l) :
    Calls Tryz.prog 55 #[.pointer (some ⟨g,0,none⟩),.int .u8 z] w fun e w' => e = .returned (.bool (decide (l.head? = some b))) ∧ Below w.heap.size w w':=by
  obtain ⟨a,h1,h2,h3⟩:=h
  exact sees_ok g s a l h2 b z hz w h3 (by omega)
theorem sees_no (g : Nat) (s : ByteArray) (k m : Nat) (z : Int) (w : World) (h : Bad w g s k m) :
    Calls Tryz.prog 55 #[.pointer (some ⟨g,0,none⟩),.int .u8 z] w fun e w' => e = .returned (.bool false) ∧ Below w.heap.size w w':=by
  obtain ⟨a,bd,h1,h2,h3⟩:=h
  exact sees_bad g s a bd z w h3 (by omega)
theorem bracketed_not (g : Nat) (s : ByteArray) (l : List UInt8) (w : World) (h : At w g s l) (hs : s.size ≤ 1000) (hn :  l.head? = some 94) :
    Calls Tryz.prog 77 #[.pointer (some ⟨g,0,none⟩)] w fun e w' => w.grownBy w' (some g) ∧ ∃ k : C4,k.ok ∧ e = .returned k.v ∧ ((∃ r,bracket l = .ok (k,r) ∧ At w' g s r) ∨ (∃ q,bracket l = .error q ∧ Bad w' g s q 0)):=by
  have hgl:=h.lt
  have HS : Hid (BrS w g z4 ((w.alloc (.cells z4.cells 104)).alloc (.cells z4.cells 104))) :=
    ⟨(World.grownBy_alloc _ _ _).trans (World.grownBy_alloc _ _ _),(Hb.new w z4 _ rfl).alloc _,Hb.new _ z4 _ (by simp),hgl⟩
  have HA : Hid (At ((w.alloc (.cells z4.cells 104)).alloc (.cells z4.cells 104)) g s l):=h.below (((Below.refl _ _).alloc (Nat.le_refl _) _).alloc (by simp) _)
  clear h
  have C0 : Hid _:=sees_at g s l 94 94 rfl hs _ HA.out
  rw [decide_eq_true hn] at C0
  go_enter Tryz.func77,Tryz.ntmps77
  go_wp2_with fail
  refine Calls.mono C0.out ?_
  rintro e w1 ⟨rfl,hb1⟩
  obtain ⟨el,hl1⟩:=tail_len l _ hn
  have hA1:=HA.out.below hb1
  rw [el] at hA1
  obtain ⟨a,hR,ha,hA2⟩:=hA1.step
  obtain ⟨c0,c1,c2,f1,f2⟩:=hR.all
  have HI : Hid (BrInv w g s (items l.length z4 l.tail) (w1.setCell ⟨g,1,none⟩ (.int .i64 ((a : Int) + 1)))) :=
    ⟨z4,z4_ok,(HS.out.below hb1).grown (grown_at _ _ _ _),Or.inl ⟨l.tail,l.length,hA2,by omega,rfl⟩⟩
  clear hb1 hA1 hR hA2 C0 HA HS
  go_wp2_with fail
  go_loopw [] (fun wr => Hid (BrInv w g s (items l.length z4 l.tail) wr)) (fun wr => rdMeas wr g s.size)
  case atStart => exact HI
  case round =>
    obtain ⟨c,hc,hB,⟨m,f,hA,hf,hit⟩ | ⟨q,hq,hBd⟩⟩:=hrel.out
    · clear hrel HI c0 c1 c2 f1 f2
      have hA0:=hA
      obtain ⟨a1,ha1,hd1,hR1⟩:=hA
      obtain ⟨c0,c1,c2,f1,f2⟩:=hR1.all
      obtain ⟨f,rfl⟩ : ∃ f',f = f' + 1:=⟨f - 1,by omega⟩
      rw [items] at hit
      have MS : Hid (rdMeas wr g s.size = m.length + 1):=hA0.meas
      by_cases h93 : m.head? = some 93
      · rw [if_pos h93] at hit
        have C1 : Hid _:=sees_at g s m 93 93 rfl hs wr hA0
        rw [decide_eq_true h93] at C1
        go_wp2_with fail
        refine Calls.mono C1.out ?_
        rintro e w2 ⟨rfl,hb2⟩
        have hA2:=hA0.below hb2
        have hB2:=hB.below hb2
        clear hb2 C1 c0 c1 c2 f1 f2 hR1 hd1
        obtain ⟨em,hml⟩:=tail_len m _ h93
        rw [em] at hA2
        obtain ⟨a4,hR4,ha4,hA5⟩:=hA2.step
        obtain ⟨c0,c1,c2,f1,f2⟩:=hR4.all
        have hBE:=hB2.grown (grown_at w2 g 1 (.int .i64 ((a4 : Int) + 1)))
        clear hA2 hB2 hR4
        obtain ⟨d0,d1,d2,d3,e0,e1,e2,e3⟩:=hBE.cls.all
        have HO : Hid _:=others_any c hc
        clear d0
        obtain ⟨d0,_⟩:=hBE.cls.all
        go_wp2_with fail
        refine Calls.mono (HO.out _) ?_
        rintro e w9 ⟨rfl,hb9⟩
        have hBF:=hBE.below hb9
        have hST:=hA5.below hb9
        clear d0 d1 d2 d3 e0 e1 e2 e3 hb9
        obtain ⟨d0,d1,d2,d3,e0,e1,e2,e3⟩:=hBF.res.all
        have hq:=hBF.res.put4 c.not
        have HG : Hid _:=grown_put4 hBF.gr (Nat.le_refl _) c.not
        have HT : Hid _:=hST.put w.heap.size c.not (by have:=hBF.gl; omega)
        go_wp2
        refine bodyPost_ret (v:=c.not.v) (by simp [results,Tryz.results77,go_sem,hq.c0,hq.c1,hq.c2,hq.c3]) rfl ?_
        exact ⟨HG.out,c.not,C4.not_ok hc,rfl,Or.inl ⟨m.tail,by unfold bracket; rw [if_pos hn,← hit],HT.out⟩⟩
      · rw [if_neg h93] at hit
        have C1 : Hid _:=sees_at g s m 93 93 rfl hs wr hA0
        rw [decide_eq_false h93] at C1
        go_wp2_with fail
        refine Calls.mono C1.out ?_
        rintro e w2 ⟨rfl,hb2⟩
        have hA2:=hA0.below hb2
        have hB2:=hB.below hb2
        clear hb2 C1 c0 c1 c2 f1 f2 hR1 hd1
        obtain ⟨a2,ha2,hd2,hR2⟩:=hA2
        have hA2 : At w2 g s m:=⟨a2,ha2,hd2,hR2⟩
        obtain ⟨c0,c1,c2,f1,f2⟩:=hR2.all
        cases h1 : rd1 m with
        | error k =>
          rw [h1] at hit
          have O1 : Hid _:=one_bad g s m w2 hA2 hs k h1
          go_wp2_with fail
          refine Calls.mono O1.out ?_
          rintro e w3 ⟨v,hv,rfl,hBd,hg3⟩
          have hB3:=hB2.grown hg3
          have C2 : Hid _:=sees_no g s k 0 45 w3 hBd
          go_wp2_with fail
          refine Calls.mono C2.out ?_
          rintro e w4 ⟨rfl,hb4⟩
          have hB4:=hB3.below hb4
          have hBd4:=hBd.below hb4
          clear hb4 C2 hBd hg3 O1 c0 c1 c2 f1 f2 hR2 hd2
          have HBE : Hid (BrInv w g s (items l.length z4 l.tail) w4):=⟨c,hc,hB4,Or.inr ⟨k,hit.symm,hBd4⟩⟩
          have MSE : Hid (rdMeas w4 g s.size = 0):=hBd4.meas
          obtain ⟨a4,bd4,ha4,hbd4,hR4⟩:=hBd4
          obtain ⟨c0,c1,c2,f1,f2⟩:=hR4.all
          clear hR4
          go_wp2_with fail
          go_loop [10] (fun u => u = .int .i64 (v : Int)) (fun _ => 0)
          case atStart => rfl
          case round =>
            subst hrel
            go_wp2
            exact ⟨HBE,by rw [MSE.out,MS.out]; omega⟩
        | ok p =>
          obtain ⟨lo,l1⟩:=p
          rw [h1] at hit
          simp only at hit
          obtain ⟨hl1,hlo⟩:=rd1_len _ _ _ h1
          have O1 : Hid _:=one_ok g s m w2 hA2 hs lo l1 h1
          go_wp2_with fail
          refine Calls.mono O1.out ?_
          rintro e w3 ⟨rfl,hA3,hg3⟩
          have hB3:=hB2.grown hg3
          clear O1 hg3 c0 c1 c2 f1 f2 hR2 hd2 hA2 hB2 h1
          by_cases h45 : l1.head? = some 45
          · rw [if_pos h45] at hit
            have C2 : Hid _:=sees_at g s l1 45 45 rfl hs w3 hA3
            rw [decide_eq_true h45] at C2
            go_wp2_with fail
            refine Calls.mono C2.out ?_
            rintro e w4 ⟨rfl,hb4⟩
            have hA4:=hA3.below hb4
            have hB4:=hB3.below hb4
            clear C2 hb4 hA3 hB3
            obtain ⟨el1,hll1⟩:=tail_len l1 _ h45
            rw [el1] at hA4
            obtain ⟨a4,hR4,ha4,hA5⟩:=hA4.step
            obtain ⟨c0,c1,c2,f1,f2⟩:=hR4.all
            have hB5:=hB4.grown (grown_at w4 g 1 (.int .i64 ((a4 : Int) + 1)))
            clear hA4 hB4 hR4
            cases h2 : rd1 l1.tail with
            | error k =>
              rw [h2] at hit
              have O2 : Hid _:=one_bad g s l1.tail _ hA5 hs k h2
              go_wp2_with fail
              refine Calls.mono O2.out ?_
              rintro e w6 ⟨v,hv,rfl,hBd,hg6⟩
              have hB6:=hB5.grown hg6
              clear O2 hg6 hA5 hB5 c0 c1 c2 f1 f2
              have HBE : Hid (BrInv w g s (items l.length z4 l.tail) w6):=⟨c,hc,hB6,Or.inr ⟨k,hit.symm,hBd⟩⟩
              have MSE : Hid (rdMeas w6 g s.size = 0):=hBd.meas
              obtain ⟨a6,bd6,ha6,hbd6,hR6⟩:=hBd
              obtain ⟨c0,c1,c2,f1,f2⟩:=hR6.all
              clear hR6
              by_cases hlv : lo ≤ v
              · go_wp2_with fail
                go_loop [10] (fun u => u = .int .i64 (lo : Int)) (fun _ => 0)
                case atStart => rfl
                case round =>
                  subst hrel
                  go_wp2
                  exact ⟨HBE,by rw [MSE.out,MS.out]; omega⟩
              · go_wp2_with fail
                go_loop [10] (fun u => u = .int .i64 (lo : Int)) (fun _ => 0)
                case atStart => rfl
                case round =>
                  subst hrel
                  go_wp2
                  exact ⟨HBE,by rw [MSE.out,MS.out]; omega⟩
            | ok p2 =>
              obtain ⟨hi,l2⟩:=p2
              rw [h2] at hit
              simp only at hit
              obtain ⟨hl2,hhi⟩:=rd1_len _ _ _ h2
              have O2 : Hid _:=one_ok g s l1.tail _ hA5 hs hi l2 h2
              go_wp2_with fail
              refine Calls.mono O2.out ?_
              rintro e w6 ⟨rfl,hA6,hg6⟩
              have hB6:=hB5.grown hg6
              clear O2 hg6 hA5 hB5 c0 c1 c2 f1 f2 h2
              by_cases hlh : hi < lo
              · rw [if_pos hlh] at hit
                obtain ⟨a6,ha6,hd6,hR6⟩:=hA6
                obtain ⟨c0,c1,c2,f1,f2⟩:=hR6.all
                have O3 : Hid _:=fail_first g s a6 (-1) (a2 : Int) w6 hR6 (by omega)
                clear hd6 hR6
                go_wp2_with fail
                refine Calls.mono O3.out ?_
                rintro e w7 ⟨rfl,hR7,hg7⟩
                have hB7:=hB6.grown hg7
                have hBd : Bad w7 g s m.length 0:=⟨a6,a2,by omega,by omega,hR7⟩
                have HBE : Hid (BrInv w g s (items l.length z4 l.tail) w7):=⟨c,hc,hB7,Or.inr ⟨m.length,hit.symm,hBd⟩⟩
                have MSE : Hid (rdMeas w7 g s.size = 0):=hBd.meas
                clear c0 c1 c2 f1 f2
                obtain ⟨c0,c1,c2,f1,f2⟩:=hR7.all
                clear hR7 hBd hB7 hg7 O3
                go_wp2_with fail
                go_loop [10] (fun u => u = .int .i64 (lo : Int)) (fun _ => 0)
                case atStart => rfl
                case round =>
                  subst hrel
                  go_wp2
                  exact ⟨HBE,by rw [MSE.out,MS.out]; omega⟩
              · rw [if_neg hlh] at hit
                have HIT : Hid _:=hit
                have HBX : Hid _:=hB6
                have HAX : Hid _:=hA6
                obtain ⟨a6,ha6,hd6,hR6⟩:=hA6
                obtain ⟨c0,c1,c2,f1,f2⟩:=hR6.all
                clear hd6 hR6 hB6 hit
                go_wp2_with fail
                clear c0 c1 c2 f1 f2
                go_loopw [10] (fun u wx => ∃ j : Nat,j ≤ hi + 1 - lo ∧ u = .int .i64 ((lo + j : Nat) : Int) ∧ Hid (BrS w g (addTo c lo j) wx) ∧ Hid (At wx g s l2)) (fun u _ => hi + 1 - (intOf u).toNat)
                case atStart => exact ⟨0,by omega,rfl,HBX,HAX⟩
                case round =>
                  rename_i wr0 _ _ _
                  obtain ⟨j,hj,rfl,HBj,HAj⟩:=hrel
                  clear HBX HAX
                  have hAj:=HAj.out
                  obtain ⟨aj,haj,hdj,hRj⟩:=HAj.out
                  obtain ⟨c0,c1,c2,f1,f2⟩:=hRj.all
                  by_cases hjl : j < hi + 1 - lo
                  · have hC:=HBj.out.cls
                    obtain ⟨d0,d1,d2,d3,e0,e1,e2,e3⟩:=hC.all
                    have hle : ((lo + j : Nat) : Int) ≤ (hi : Int):=by omega
                    have hlb : lo + j < 256:=by omega
                    have HW : Hid (∀ w,Calls Tryz.prog 81 #[(addTo c lo j).v,.int .i64 ((lo : Int) + (j : Int))] w fun e w' => e = .returned (addTo c lo (j + 1)).v ∧ Below w.heap.size w w'):=fun w => by
                      have:=withR_any (addTo c lo j) (addTo_ok hc lo j) (lo + j) hlb w
                      rw [show ((lo + j : Nat) : Int) = (lo : Int) + (j : Int) from by omega] at this
                      rw [addTo,show ((lo + j : Nat) : Int) = (lo : Int) + (j : Int) from by omega]
                      exact this
                    clear hdj hRj
                    go_wp2_with fail
                    refine Calls.mono (HW.out _) ?_
                    rintro e w8 ⟨rfl,hb8⟩
                    have hB8:=HBj.out.below hb8
                    have hA8:=hAj.below hb8
                    clear d0 d1 d2 d3 e0 e1 e2 e3 c0 c1 c2 f1 f2 hC hb8
                    obtain ⟨d0,d1,d2,d3,e0,e1,e2,e3⟩:=hB8.cls.all
                    have HB9 : Hid _:=hB8.put (addTo c lo (j + 1))
                    have HA9 : Hid _:=hA8.put (w.heap.size + 1) (addTo c lo (j + 1)) (by have:=hB8.gl; omega)
                    clear hB8 hA8 hAj HBj HAj
                    go_wp2
                    exact ⟨⟨j + 1,by omega,by go_num,HB9,HA9⟩,by simp [intOf]; omega⟩
                  · have hjn : j = hi + 1 - lo:=by omega
                    have hle : ¬ ((lo + j : Nat) : Int) ≤ (hi : Int):=by omega
                    have HBE : Hid (BrInv w g s (items l.length z4 l.tail) wr):=⟨addTo c lo j,addTo_ok hc lo j,HBj.out,Or.inl ⟨l2,f,HAj.out,by omega,by rw [hjn]; exact HIT.out⟩⟩
                    have MSE : Hid (rdMeas wr g s.size = l2.length + 1):=HAj.out.meas
                    clear hdj hRj
                    go_wp2
                    exact ⟨HBE,by rw [MSE.out,MS.out]; omega⟩
          · rw [if_neg h45] at hit
            have C2 : Hid _:=sees_at g s l1 45 45 rfl hs w3 hA3
            rw [decide_eq_false h45] at C2
            go_wp2_with fail
            refine Calls.mono C2.out ?_
            rintro e w4 ⟨rfl,hb4⟩
            have hA4:=hA3.below hb4
            have hB4:=hB3.below hb4
            clear C2 hb4 hA3 hB3
            have HIT : Hid (items f (addTo c lo (lo + 1 - lo)) l1 = (items l.length z4 l.tail)):=by
              show _ = _
              rw [show lo + 1 - lo = 1 from by omega]
              exact hit
            obtain ⟨hi,hhi2⟩ : ∃ hi : Nat,hi = lo:=⟨lo,rfl⟩
            obtain ⟨l2,hl22⟩ : ∃ l2 : List UInt8,l2 = l1:=⟨l1,rfl⟩
            have HBX : Hid _:=hB4
            have HAX : Hid (At w4 g s l2):=by rw [hl22]; exact hA4
            obtain ⟨a6,ha6,hd6,hR6⟩:=hA4
            obtain ⟨c0,c1,c2,f1,f2⟩:=hR6.all
            rw [← hl22] at HIT hl1
            clear hd6 hR6 hB4 hit
            go_wp2_with fail
            clear c0 c1 c2 f1 f2
            go_loopw [10] (fun u wx => ∃ j : Nat,j ≤ hi + 1 - lo ∧ u = .int .i64 ((lo + j : Nat) : Int) ∧ Hid (BrS w g (addTo c lo j) wx) ∧ Hid (At wx g s l2)) (fun u _ => hi + 1 - (intOf u).toNat)
            case atStart => exact ⟨0,by omega,rfl,HBX,HAX⟩
            case round =>
              rename_i wr0 _ _ _
              obtain ⟨j,hj,rfl,HBj,HAj⟩:=hrel
              clear HBX HAX
              have hAj:=HAj.out
              obtain ⟨aj,haj,hdj,hRj⟩:=HAj.out
              obtain ⟨c0,c1,c2,f1,f2⟩:=hRj.all
              by_cases hjl : j < hi + 1 - lo
              · have hC:=HBj.out.cls
                obtain ⟨d0,d1,d2,d3,e0,e1,e2,e3⟩:=hC.all
                have hle : ((lo + j : Nat) : Int) ≤ (hi : Int):=by omega
                have hlb : lo + j < 256:=by omega
                have HW : Hid (∀ w,Calls Tryz.prog 81 #[(addTo c lo j).v,.int .i64 ((lo : Int) + (j : Int))] w fun e w' => e = .returned (addTo c lo (j + 1)).v ∧ Below w.heap.size w w'):=fun w => by
                  have:=withR_any (addTo c lo j) (addTo_ok hc lo j) (lo + j) hlb w
                  rw [show ((lo + j : Nat) : Int) = (lo : Int) + (j : Int) from by omega] at this
                  rw [addTo,show ((lo + j : Nat) : Int) = (lo : Int) + (j : Int) from by omega]
                  exact this
                clear hdj hRj
                go_wp2_with fail
                refine Calls.mono (HW.out _) ?_
                rintro e w8 ⟨rfl,hb8⟩
                have hB8:=HBj.out.below hb8
                have hA8:=hAj.below hb8
                clear d0 d1 d2 d3 e0 e1 e2 e3 c0 c1 c2 f1 f2 hC hb8
                obtain ⟨d0,d1,d2,d3,e0,e1,e2,e3⟩:=hB8.cls.all
                have HB9 : Hid _:=hB8.put (addTo c lo (j + 1))
                have HA9 : Hid _:=hA8.put (w.heap.size + 1) (addTo c lo (j + 1)) (by have:=hB8.gl; omega)
                clear hB8 hA8 hAj HBj HAj
                go_wp2
                exact ⟨⟨j + 1,by omega,by go_num,HB9,HA9⟩,by simp [intOf]; omega⟩
              · have hjn : j = hi + 1 - lo:=by omega
                have hle : ¬ ((lo + j : Nat) : Int) ≤ (hi : Int):=by omega
                have HBE : Hid (BrInv w g s (items l.length z4 l.tail) wr):=⟨addTo c lo j,addTo_ok hc lo j,HBj.out,Or.inl ⟨l2,f,HAj.out,by omega,by rw [hjn,hhi2]; exact HIT.out⟩⟩
                have MSE : Hid (rdMeas wr g s.size = l2.length + 1):=HAj.out.meas
                clear hdj hRj
                go_wp2
                exact ⟨HBE,by rw [MSE.out,MS.out]; omega⟩
    · clear hrel HI c0 c1 c2 f1 f2
      have hq0:=hq
      have hBE:=hB
      have hBd0:=hBd
      obtain ⟨a1,bd1,ha1,hbd1,hR1⟩:=hBd
      obtain ⟨c0,c1,c2,f1,f2⟩:=hR1.all
      clear hR1 hq
      obtain ⟨d0,d1,d2,d3,e0,e1,e2,e3⟩:=hBE.cls.all
      have HO : Hid _:=others_any c hc
      go_wp2_with fail
      refine Calls.mono (HO.out _) ?_
      rintro e w9 ⟨rfl,hb9⟩
      have hBF:=hBE.below hb9
      have hST:=hBd0.below hb9
      clear d0 d1 d2 d3 e0 e1 e2 e3 hb9
      obtain ⟨d0,d1,d2,d3,e0,e1,e2,e3⟩:=hBF.res.all
      have hq:=hBF.res.put4 c.not
      have HG : Hid _:=grown_put4 hBF.gr (Nat.le_refl _) c.not
      have HT : Hid _:=hST.put w.heap.size c.not (by have:=hBF.gl; omega)
      go_wp2
      refine bodyPost_ret (v:=c.not.v) (by simp [results,Tryz.results77,go_sem,hq.c0,hq.c1,hq.c2,hq.c3]) rfl ?_
      exact ⟨HG.out,c.not,C4.not_ok hc,rfl,Or.inr ⟨q,by unfold bracket; rw [if_pos hn,hq0],HT.out⟩⟩
theorem bracketed_plain (g : Nat) (s : ByteArray) (l : List UInt8) (w : World) (h : At w g s l) (hs : s.size ≤ 1000) (hn : ¬ l.head? = some 94) :
    Calls Tryz.prog 77 #[.pointer (some ⟨g,0,none⟩)] w fun e w' => w.grownBy w' (some g) ∧ ∃ k : C4,k.ok ∧ e = .returned k.v ∧ ((∃ r,bracket l = .ok (k,r) ∧ At w' g s r) ∨ (∃ q,bracket l = .error q ∧ Bad w' g s q 0)):=by
  have hgl:=h.lt
  have HS : Hid (BrS w g z4 ((w.alloc (.cells z4.cells 104)).alloc (.cells z4.cells 104))) :=
    ⟨(World.grownBy_alloc _ _ _).trans (World.grownBy_alloc _ _ _),(Hb.new w z4 _ rfl).alloc _,Hb.new _ z4 _ (by simp),hgl⟩
  have HA : Hid (At ((w.alloc (.cells z4.cells 104)).alloc (.cells z4.cells 104)) g s l):=h.below (((Below.refl _ _).alloc (Nat.le_refl _) _).alloc (by simp) _)
  clear h
  have C0 : Hid _:=sees_at g s l 94 94 rfl hs _ HA.out
  rw [decide_eq_false hn] at C0
  go_enter Tryz.func77,Tryz.ntmps77
  go_wp2_with fail
  refine Calls.mono C0.out ?_
  rintro e w1 ⟨rfl,hb1⟩
  have hA1:=HA.out.below hb1
  have HI : Hid (BrInv w g s (items (l.length + 1) z4 l) w1):=⟨z4,z4_ok,HS.out.below hb1,Or.inl ⟨l,l.length + 1,hA1,by omega,rfl⟩⟩
  obtain ⟨a,ha,hd,hR⟩:=hA1
  obtain ⟨c0,c1,c2,f1,f2⟩:=hR.all
  clear hb1 hR hd C0 HA HS
  go_wp2_with fail
  go_loopw [] (fun wr => Hid (BrInv w g s (items (l.length + 1) z4 l) wr)) (fun wr => rdMeas wr g s.size)
  case atStart => exact HI
  case round =>
    obtain ⟨c,hc,hB,⟨m,f,hA,hf,hit⟩ | ⟨q,hq,hBd⟩⟩:=hrel.out
    · clear hrel HI c0 c1 c2 f1 f2
      have hA0:=hA
      obtain ⟨a1,ha1,hd1,hR1⟩:=hA
      obtain ⟨c0,c1,c2,f1,f2⟩:=hR1.all
      obtain ⟨f,rfl⟩ : ∃ f',f = f' + 1:=⟨f - 1,by omega⟩
      rw [items] at hit
      have MS : Hid (rdMeas wr g s.size = m.length + 1):=hA0.meas
      by_cases h93 : m.head? = some 93
      · rw [if_pos h93] at hit
        have C1 : Hid _:=sees_at g s m 93 93 rfl hs wr hA0
        rw [decide_eq_true h93] at C1
        go_wp2_with fail
        refine Calls.mono C1.out ?_
        rintro e w2 ⟨rfl,hb2⟩
        have hA2:=hA0.below hb2
        have hB2:=hB.below hb2
        clear hb2 C1 c0 c1 c2 f1 f2 hR1 hd1
        obtain ⟨em,hml⟩:=tail_len m _ h93
        rw [em] at hA2
        obtain ⟨a4,hR4,ha4,hA5⟩:=hA2.step
        obtain ⟨c0,c1,c2,f1,f2⟩:=hR4.all
        have hBE:=hB2.grown (grown_at w2 g 1 (.int .i64 ((a4 : Int) + 1)))
        clear hA2 hB2 hR4
        obtain ⟨d0,d1,d2,d3,e0,e1,e2,e3⟩:=hBE.cls.all
        obtain ⟨k0,k1,k2,k3,g0,g1,g2,g3⟩:=hBE.res.all
        have hST:=hA5
        have hq:=hBE.res.put4 c
        have HG : Hid _:=grown_put4 hBE.gr (Nat.le_refl _) c
        have HT : Hid _:=hST.put w.heap.size c (by have:=hBE.gl; omega)
        go_wp2
        refine bodyPost_ret (v:=c.v) (by simp [results,Tryz.results77,go_sem,hq.c0,hq.c1,hq.c2,hq.c3]) rfl ?_
        exact ⟨HG.out,c,hc,rfl,Or.inl ⟨m.tail,by unfold bracket; rw [if_neg hn,← hit],HT.out⟩⟩
      · rw [if_neg h93] at hit
        have C1 : Hid _:=sees_at g s m 93 93 rfl hs wr hA0
        rw [decide_eq_false h93] at C1
        go_wp2_with fail
        refine Calls.mono C1.out ?_
        rintro e w2 ⟨rfl,hb2⟩
        have hA2:=hA0.below hb2
        have hB2:=hB.below hb2
        clear hb2 C1 c0 c1 c2 f1 f2 hR1 hd1
        obtain ⟨a2,ha2,hd2,hR2⟩:=hA2
        have hA2 : At w2 g s m:=⟨a2,ha2,hd2,hR2⟩
        obtain ⟨c0,c1,c2,f1,f2⟩:=hR2.all
        cases h1 : rd1 m with
        | error k =>
          rw [h1] at hit
          have O1 : Hid _:=one_bad g s m w2 hA2 hs k h1
          go_wp2_with fail
          refine Calls.mono O1.out ?_
          rintro e w3 ⟨v,hv,rfl,hBd,hg3⟩
          have hB3:=hB2.grown hg3
          have C2 : Hid _:=sees_no g s k 0 45 w3 hBd
          go_wp2_with fail
          refine Calls.mono C2.out ?_
          rintro e w4 ⟨rfl,hb4⟩
          have hB4:=hB3.below hb4
          have hBd4:=hBd.below hb4
          clear hb4 C2 hBd hg3 O1 c0 c1 c2 f1 f2 hR2 hd2
          have HBE : Hid (BrInv w g s (items (l.length + 1) z4 l) w4):=⟨c,hc,hB4,Or.inr ⟨k,hit.symm,hBd4⟩⟩
          have MSE : Hid (rdMeas w4 g s.size = 0):=hBd4.meas
          obtain ⟨a4,bd4,ha4,hbd4,hR4⟩:=hBd4
          obtain ⟨c0,c1,c2,f1,f2⟩:=hR4.all
          clear hR4
          go_wp2_with fail
          go_loop [10] (fun u => u = .int .i64 (v : Int)) (fun _ => 0)
          case atStart => rfl
          case round =>
            subst hrel
            go_wp2
            exact ⟨HBE,by rw [MSE.out,MS.out]; omega⟩
        | ok p =>
          obtain ⟨lo,l1⟩:=p
          rw [h1] at hit
          simp only at hit
          obtain ⟨hl1,hlo⟩:=rd1_len _ _ _ h1
          have O1 : Hid _:=one_ok g s m w2 hA2 hs lo l1 h1
          go_wp2_with fail
          refine Calls.mono O1.out ?_
          rintro e w3 ⟨rfl,hA3,hg3⟩
          have hB3:=hB2.grown hg3
          clear O1 hg3 c0 c1 c2 f1 f2 hR2 hd2 hA2 hB2 h1
          by_cases h45 : l1.head? = some 45
          · rw [if_pos h45] at hit
            have C2 : Hid _:=sees_at g s l1 45 45 rfl hs w3 hA3
            rw [decide_eq_true h45] at C2
            go_wp2_with fail
            refine Calls.mono C2.out ?_
            rintro e w4 ⟨rfl,hb4⟩
            have hA4:=hA3.below hb4
            have hB4:=hB3.below hb4
            clear C2 hb4 hA3 hB3
            obtain ⟨el1,hll1⟩:=tail_len l1 _ h45
            rw [el1] at hA4
            obtain ⟨a4,hR4,ha4,hA5⟩:=hA4.step
            obtain ⟨c0,c1,c2,f1,f2⟩:=hR4.all
            have hB5:=hB4.grown (grown_at w4 g 1 (.int .i64 ((a4 : Int) + 1)))
            clear hA4 hB4 hR4
            cases h2 : rd1 l1.tail with
            | error k =>
              rw [h2] at hit
              have O2 : Hid _:=one_bad g s l1.tail _ hA5 hs k h2
              go_wp2_with fail
              refine Calls.mono O2.out ?_
              rintro e w6 ⟨v,hv,rfl,hBd,hg6⟩
              have hB6:=hB5.grown hg6
              clear O2 hg6 hA5 hB5 c0 c1 c2 f1 f2
              have HBE : Hid (BrInv w g s (items (l.length + 1) z4 l) w6):=⟨c,hc,hB6,Or.inr ⟨k,hit.symm,hBd⟩⟩
              have MSE : Hid (rdMeas w6 g s.size = 0):=hBd.meas
              obtain ⟨a6,bd6,ha6,hbd6,hR6⟩:=hBd
              obtain ⟨c0,c1,c2,f1,f2⟩:=hR6.all
              clear hR6
              by_cases hlv : lo ≤ v
              · go_wp2_with fail
                go_loop [10] (fun u => u = .int .i64 (lo : Int)) (fun _ => 0)
                case atStart => rfl
                case round =>
                  subst hrel
                  go_wp2
                  exact ⟨HBE,by rw [MSE.out,MS.out]; omega⟩
              · go_wp2_with fail
                go_loop [10] (fun u => u = .int .i64 (lo : Int)) (fun _ => 0)
                case atStart => rfl
                case round =>
                  subst hrel
                  go_wp2
                  exact ⟨HBE,by rw [MSE.out,MS.out]; omega⟩
            | ok p2 =>
              obtain ⟨hi,l2⟩:=p2
              rw [h2] at hit
              simp only at hit
              obtain ⟨hl2,hhi⟩:=rd1_len _ _ _ h2
              have O2 : Hid _:=one_ok g s l1.tail _ hA5 hs hi l2 h2
              go_wp2_with fail
              refine Calls.mono O2.out ?_
              rintro e w6 ⟨rfl,hA6,hg6⟩
              have hB6:=hB5.grown hg6
              clear O2 hg6 hA5 hB5 c0 c1 c2 f1 f2 h2
              by_cases hlh : hi < lo
              · rw [if_pos hlh] at hit
                obtain ⟨a6,ha6,hd6,hR6⟩:=hA6
                obtain ⟨c0,c1,c2,f1,f2⟩:=hR6.all
                have O3 : Hid _:=fail_first g s a6 (-1) (a2 : Int) w6 hR6 (by omega)
                clear hd6 hR6
                go_wp2_with fail
                refine Calls.mono O3.out ?_
                rintro e w7 ⟨rfl,hR7,hg7⟩
                have hB7:=hB6.grown hg7
                have hBd : Bad w7 g s m.length 0:=⟨a6,a2,by omega,by omega,hR7⟩
                have HBE : Hid (BrInv w g s (items (l.length + 1) z4 l) w7):=⟨c,hc,hB7,Or.inr ⟨m.length,hit.symm,hBd⟩⟩
                have MSE : Hid (rdMeas w7 g s.size = 0):=hBd.meas
                clear c0 c1 c2 f1 f2
                obtain ⟨c0,c1,c2,f1,f2⟩:=hR7.all
                clear hR7 hBd hB7 hg7 O3
                go_wp2_with fail
                go_loop [10] (fun u => u = .int .i64 (lo : Int)) (fun _ => 0)
                case atStart => rfl
                case round =>
                  subst hrel
                  go_wp2
                  exact ⟨HBE,by rw [MSE.out,MS.out]; omega⟩
              · rw [if_neg hlh] at hit
                have HIT : Hid _:=hit
                have HBX : Hid _:=hB6
                have HAX : Hid _:=hA6
                obtain ⟨a6,ha6,hd6,hR6⟩:=hA6
                obtain ⟨c0,c1,c2,f1,f2⟩:=hR6.all
                clear hd6 hR6 hB6 hit
                go_wp2_with fail
                clear c0 c1 c2 f1 f2
                go_loopw [10] (fun u wx => ∃ j : Nat,j ≤ hi + 1 - lo ∧ u = .int .i64 ((lo + j : Nat) : Int) ∧ Hid (BrS w g (addTo c lo j) wx) ∧ Hid (At wx g s l2)) (fun u _ => hi + 1 - (intOf u).toNat)
                case atStart => exact ⟨0,by omega,rfl,HBX,HAX⟩
                case round =>
                  rename_i wr0 _ _ _
                  obtain ⟨j,hj,rfl,HBj,HAj⟩:=hrel
                  clear HBX HAX
                  have hAj:=HAj.out
                  obtain ⟨aj,haj,hdj,hRj⟩:=HAj.out
                  obtain ⟨c0,c1,c2,f1,f2⟩:=hRj.all
                  by_cases hjl : j < hi + 1 - lo
                  · have hC:=HBj.out.cls
                    obtain ⟨d0,d1,d2,d3,e0,e1,e2,e3⟩:=hC.all
                    have hle : ((lo + j : Nat) : Int) ≤ (hi : Int):=by omega
                    have hlb : lo + j < 256:=by omega
                    have HW : Hid (∀ w,Calls Tryz.prog 81 #[(addTo c lo j).v,.int .i64 ((lo : Int) + (j : Int))] w fun e w' => e = .returned (addTo c lo (j + 1)).v ∧ Below w.heap.size w w'):=fun w => by
                      have:=withR_any (addTo c lo j) (addTo_ok hc lo j) (lo + j) hlb w
                      rw [show ((lo + j : Nat) : Int) = (lo : Int) + (j : Int) from by omega] at this
                      rw [addTo,show ((lo + j : Nat) : Int) = (lo : Int) + (j : Int) from by omega]
                      exact this
                    clear hdj hRj
                    go_wp2_with fail
                    refine Calls.mono (HW.out _) ?_
                    rintro e w8 ⟨rfl,hb8⟩
                    have hB8:=HBj.out.below hb8
                    have hA8:=hAj.below hb8
                    clear d0 d1 d2 d3 e0 e1 e2 e3 c0 c1 c2 f1 f2 hC hb8
                    obtain ⟨d0,d1,d2,d3,e0,e1,e2,e3⟩:=hB8.cls.all
                    have HB9 : Hid _:=hB8.put (addTo c lo (j + 1))
                    have HA9 : Hid _:=hA8.put (w.heap.size + 1) (addTo c lo (j + 1)) (by have:=hB8.gl; omega)
                    clear hB8 hA8 hAj HBj HAj
                    go_wp2
                    exact ⟨⟨j + 1,by omega,by go_num,HB9,HA9⟩,by simp [intOf]; omega⟩
                  · have hjn : j = hi + 1 - lo:=by omega
                    have hle : ¬ ((lo + j : Nat) : Int) ≤ (hi : Int):=by omega
                    have HBE : Hid (BrInv w g s (items (l.length + 1) z4 l) wr):=⟨addTo c lo j,addTo_ok hc lo j,HBj.out,Or.inl ⟨l2,f,HAj.out,by omega,by rw [hjn]; exact HIT.out⟩⟩
                    have MSE : Hid (rdMeas wr g s.size = l2.length + 1):=HAj.out.meas
                    clear hdj hRj
                    go_wp2
                    exact ⟨HBE,by rw [MSE.out,MS.out]; omega⟩
          · rw [if_neg h45] at hit
            have C2 : Hid _:=sees_at g s l1 45 45 rfl hs w3 hA3
            rw [decide_eq_false h45] at C2
            go_wp2_with fail
            refine Calls.mono C2.out ?_
            rintro e w4 ⟨rfl,hb4⟩
            have hA4:=hA3.below hb4
            have hB4:=hB3.below hb4
            clear C2 hb4 hA3 hB3
            have HIT : Hid (items f (addTo c lo (lo + 1 - lo)) l1 = (items (l.length + 1) z4 l)):=by
              show _ = _
              rw [show lo + 1 - lo = 1 from by omega]
              exact hit
            obtain ⟨hi,hhi2⟩ : ∃ hi : Nat,hi = lo:=⟨lo,rfl⟩
            obtain ⟨l2,hl22⟩ : ∃ l2 : List UInt8,l2 = l1:=⟨l1,rfl⟩
            have HBX : Hid _:=hB4
            have HAX : Hid (At w4 g s l2):=by rw [hl22]; exact hA4
            obtain ⟨a6,ha6,hd6,hR6⟩:=hA4
            obtain ⟨c0,c1,c2,f1,f2⟩:=hR6.all
            rw [← hl22] at HIT hl1
            clear hd6 hR6 hB4 hit
            go_wp2_with fail
            clear c0 c1 c2 f1 f2
            go_loopw [10] (fun u wx => ∃ j : Nat,j ≤ hi + 1 - lo ∧ u = .int .i64 ((lo + j : Nat) : Int) ∧ Hid (BrS w g (addTo c lo j) wx) ∧ Hid (At wx g s l2)) (fun u _ => hi + 1 - (intOf u).toNat)
            case atStart => exact ⟨0,by omega,rfl,HBX,HAX⟩
            case round =>
              rename_i wr0 _ _ _
              obtain ⟨j,hj,rfl,HBj,HAj⟩:=hrel
              clear HBX HAX
              have hAj:=HAj.out
              obtain ⟨aj,haj,hdj,hRj⟩:=HAj.out
              obtain ⟨c0,c1,c2,f1,f2⟩:=hRj.all
              by_cases hjl : j < hi + 1 - lo
              · have hC:=HBj.out.cls
                obtain ⟨d0,d1,d2,d3,e0,e1,e2,e3⟩:=hC.all
                have hle : ((lo + j : Nat) : Int) ≤ (hi : Int):=by omega
                have hlb : lo + j < 256:=by omega
                have HW : Hid (∀ w,Calls Tryz.prog 81 #[(addTo c lo j).v,.int .i64 ((lo : Int) + (j : Int))] w fun e w' => e = .returned (addTo c lo (j + 1)).v ∧ Below w.heap.size w w'):=fun w => by
                  have:=withR_any (addTo c lo j) (addTo_ok hc lo j) (lo + j) hlb w
                  rw [show ((lo + j : Nat) : Int) = (lo : Int) + (j : Int) from by omega] at this
                  rw [addTo,show ((lo + j : Nat) : Int) = (lo : Int) + (j : Int) from by omega]
                  exact this
                clear hdj hRj
                go_wp2_with fail
                refine Calls.mono (HW.out _) ?_
                rintro e w8 ⟨rfl,hb8⟩
                have hB8:=HBj.out.below hb8
                have hA8:=hAj.below hb8
                clear d0 d1 d2 d3 e0 e1 e2 e3 c0 c1 c2 f1 f2 hC hb8
                obtain ⟨d0,d1,d2,d3,e0,e1,e2,e3⟩:=hB8.cls.all
                have HB9 : Hid _:=hB8.put (addTo c lo (j + 1))
                have HA9 : Hid _:=hA8.put (w.heap.size + 1) (addTo c lo (j + 1)) (by have:=hB8.gl; omega)
                clear hB8 hA8 hAj HBj HAj
                go_wp2
                exact ⟨⟨j + 1,by omega,by go_num,HB9,HA9⟩,by simp [intOf]; omega⟩
              · have hjn : j = hi + 1 - lo:=by omega
                have hle : ¬ ((lo + j : Nat) : Int) ≤ (hi : Int):=by omega
                have HBE : Hid (BrInv w g s (items (l.length + 1) z4 l) wr):=⟨addTo c lo j,addTo_ok hc lo j,HBj.out,Or.inl ⟨l2,f,HAj.out,by omega,by rw [hjn,hhi2]; exact HIT.out⟩⟩
                have MSE : Hid (rdMeas wr g s.size = l2.length + 1):=HAj.out.meas
                clear hdj hRj
                go_wp2
                exact ⟨HBE,by rw [MSE.out,MS.out]; omega⟩
    · clear hrel HI c0 c1 c2 f1 f2
      have hq0:=hq
      have hBE:=hB
      have hBd0:=hBd
      obtain ⟨a1,bd1,ha1,hbd1,hR1⟩:=hBd
      obtain ⟨c0,c1,c2,f1,f2⟩:=hR1.all
      clear hR1 hq
      obtain ⟨d0,d1,d2,d3,e0,e1,e2,e3⟩:=hBE.cls.all
      obtain ⟨k0,k1,k2,k3,g0,g1,g2,g3⟩:=hBE.res.all
      have hST:=hBd0
      have hq:=hBE.res.put4 c
      have HG : Hid _:=grown_put4 hBE.gr (Nat.le_refl _) c
      have HT : Hid _:=hST.put w.heap.size c (by have:=hBE.gl; omega)
      go_wp2
      refine bodyPost_ret (v:=c.v) (by simp [results,Tryz.results77,go_sem,hq.c0,hq.c1,hq.c2,hq.c3]) rfl ?_
      exact ⟨HG.out,c,hc,rfl,Or.inr ⟨q,by unfold bracket; rw [if_neg hn,hq0],HT.out⟩⟩
theorem bracketed_any (g : Nat) (s : ByteArray) (l : List UInt8) (w : World) (h : At w g s l) (hs : s.size ≤ 1000) :
    Calls Tryz.prog 77 #[.pointer (some ⟨g,0,none⟩)] w fun e w' => w.grownBy w' (some g) ∧ ∃ k : C4,k.ok ∧ e = .returned k.v ∧ ((∃ r,bracket l = .ok (k,r) ∧ At w' g s r) ∨ (∃ q,bracket l = .error q ∧ Bad w' g s q 0)):=by
  by_cases hn : l.head? = some 94
  · exact bracketed_not g s l w h hs hn
  · exact bracketed_plain g s l w h hs hn
theorem NsOwn.down {w : World} {B B' : Nat} {v : Value} {ns : List Nd} (h : NsOwn w B v ns) (hb : B' ≤ B) : NsOwn w B' v ns:=World.ownsRow.mono h hb
def ndOb (op : Int) (c : C4) : Obj:=.cells #[.int .i64 op,.int .u64 c.a,.int .u64 c.b,.int .u64 c.c,.int .u64 c.d] 106 (0,0)
theorem own_one (w : World) (n : Nd) : NsOwn (w.alloc (ndOb n.op n.c)) w.heap.size (.slice (some ⟨w.heap.size,0,none⟩) 1 1) [n]:=by
  have e : (w.alloc (ndOb n.op n.c)).heap[w.heap.size]? = some (ndOb n.op n.c):=by show (w.heap.push _)[w.heap.size]? = _; simp
  exact ⟨rfl,Or.inr ⟨w.heap.size,1,_,rfl,Nat.le_refl _,e,Nat.le_refl 1,by decide,rfl,rfl⟩⟩
theorem below_one (w : World) (o : Obj) : Below w.heap.size w (w.alloc o):=(Below.refl _ _).alloc (Nat.le_refl _) _
def AtomOkC (g : Nat) (s : ByteArray) (l : List UInt8) (p : Rx × List UInt8) : Prop:=∀ w : World,At w g s l →
  Calls Tryz.prog 54 #[.pointer (some ⟨g,0,none⟩)] w fun e w' => w.grownBy w' (some g) ∧ ∃ u,e = .returned u ∧ NsOwn w' w.heap.size u p.1.flat ∧ At w' g s p.2
def AtomBadC (g : Nat) (s : ByteArray) (l : List UInt8) (k : Nat) : Prop:=∀ w : World,At w g s l →
  Calls Tryz.prog 54 #[.pointer (some ⟨g,0,none⟩)] w fun e w' => w.grownBy w' (some g) ∧ ∃ u ms,e = .returned u ∧ NsOwn w' w.heap.size u ms ∧ (0 < ms.length ∧ ms.length ≤ 2 * l.length + 1) ∧ Bad w' g s k l.length
structure SgInv (w : World) (g : Nat) (s : ByteArray) (tgt : Rx × List UInt8) (u : Value) (wr : World) (t : Rx) (l : List UInt8) : Prop where
  gr : w.grownBy wr (some g)
  own : NsOwn wr w.heap.size u t.flat
  at_ : At wr g s l
  tg : posts t l = tgt
  len : t.flat.length + l.length ≤ 4000
theorem SgInv.below {w : World} {g : Nat} {s : ByteArray} {tgt : Rx × List UInt8} {u : Value} {wr w' : World} {t : Rx} {l : List UInt8} (h : SgInv w g s tgt u wr t l) (hb : Below wr.heap.size wr w') : SgInv w g s tgt u w' t l :=
  ⟨h.gr.trans (below_grown hb _),h.own.below hb,h.at_.below hb,h.tg,h.len⟩
theorem posts_end (t : Rx) (l : List UInt8) (h1 : l.head? ≠ some 42) (h2 : l.head? ≠ some 43) (h3 : l.head? ≠ some 63) : posts t l = (t,l):=by
  cases l with
  | nil => rfl
  | cons c r =>
    rw [posts,if_neg (fun e => h1 (by rw [e]; rfl)),if_neg (fun e => h2 (by rw [e]; rfl)),if_neg (fun e => h3 (by rw [e]; rfl))]
theorem posts_s5 (t : Rx) (m : List UInt8) (h : m = 42 :: m.tail) : posts t m = posts (.one ⟨5,z4⟩ t) m.tail:=by
  cases m with
  | nil => cases h
  | cons c r =>
    injection h with h1 _
    subst h1
    rw [posts,if_pos rfl]
    rfl
theorem posts_s6 (t : Rx) (m : List UInt8) (h : m = 43 :: m.tail) : posts t m = posts (.one ⟨6,z4⟩ t) m.tail:=by
  cases m with
  | nil => cases h
  | cons c r =>
    injection h with h1 _
    subst h1
    rw [posts,if_neg (by decide),if_pos rfl]
    rfl
theorem posts_s7 (t : Rx) (m : List UInt8) (h : m = 63 :: m.tail) : posts t m = posts (.one ⟨7,z4⟩ t) m.tail:=by
  cases m with
  | nil => cases h
  | cons c r =>
    injection h with h1 _
    subst h1
    rw [posts,if_neg (by decide),if_neg (by decide),if_pos rfl]
    rfl
structure SgSet (w : World) (g : Nat) (s : ByteArray) (x3 W : World) (n : Nd) (t : List Nd) (m : List UInt8) (gb : Nat) : Prop where
  gr : w.grownBy W (some g)
  x : NsOwn W x3.heap.size (.slice (some ⟨x3.heap.size,0,none⟩) 1 1) [n]
  src : ∀ j u,(nsCells t)[j]? = some u → W.cell? ⟨gb,j,none⟩ = some u
  sz : x3.heap.size ≤ W.heap.size
  at_ : At W g s m
  le : w.heap.size ≤ x3.heap.size
  gl : g < w.heap.size
theorem sg_set {w : World} {g : Nat} {s : ByteArray} {x3 : World} {u : Value} {t : List Nd} {m : List UInt8} {gb capb : Nat} (hgr : w.grownBy x3 (some g)) (ho : NsOwn x3 w.heap.size u t) (hu : u = .slice (some ⟨gb,0,none⟩) t.length capb) (hc : ∀ j v,(nsCells t)[j]? = some v → x3.cell? ⟨gb,j,none⟩ = some v) (hlt : gb < x3.heap.size) (hgl : g < w.heap.size) (z : Nat)
    (hA : At (x3.setCell ⟨g,1,none⟩ (.int .i64 ((z : Int) + 1))) g s m) (n : Nd) : SgSet w g s x3 ((x3.setCell ⟨g,1,none⟩ (.int .i64 ((z : Int) + 1))).alloc (ndOb n.op n.c)) n t m gb:=by
  have hsz : (x3.setCell ⟨g,1,none⟩ (.int .i64 ((z : Int) + 1))).heap.size = x3.heap.size:=by simp [World.setCell]
  have hg1:=grown_at x3 g 1 (.int .i64 ((z : Int) + 1))
  have hg2:=World.grownBy_alloc (x3.setCell ⟨g,1,none⟩ (.int .i64 ((z : Int) + 1))) (ndOb n.op n.c) (some g)
  have hgt:=hg1.trans hg2
  refine ⟨hgr.trans hgt,?_,?_,?_,hA.below (below_one _ _),hgr.size,hgl⟩
  · have:=own_one (x3.setCell ⟨g,1,none⟩ (.int .i64 ((z : Int) + 1))) n
    rw [hsz] at this
    exact this
  · intro j v hj
    have hne : gb ≠ g:=by
      have h0 : 0 < t.length:=by
        rcases Nat.eq_zero_or_pos t.length with h | h
        · rw [List.eq_nil_of_length_eq_zero h] at hj; simp [nsCells] at hj
        · exact h
      obtain ⟨g',cap',hv,hb,_⟩:=ho.form h0
      rw [hu] at hv
      injection hv with hv
      injection hv with hv
      injection hv with hv
      omega
    exact World.grownBy.cell hgt (hc j v hj) (by simp only; intro e; injection e with e; exact hne e)
  · simp [World.setCell]
theorem sg_next {w : World} {g : Nat} {s : ByteArray} {x3 W x7 : World} {n : Nd} {t : Rx} {m : List UInt8} {gb : Nat} {tgt : Rx × List UInt8} {v : Value} (h : SgSet w g s x3 W n t.flat m gb) (ho : NsOwn x7 x3.heap.size v ([n] ++ t.flat)) (hg : W.grownBy x7 (Value.slice (some ⟨x3.heap.size,0,none⟩) 1 1).ownBlock) (ht : posts (.one n t) m = tgt) (hl : (Rx.one n t).flat.length + m.length ≤ 4000) : SgInv w g s tgt v x7 (.one n t) m:=by
  have hle:=h.le
  have hgl:=h.gl
  have hg' : W.grownBy x7 (some x3.heap.size):=hg
  refine ⟨h.gr.andThen hg' (fun j hj => ?_),?_,?_,ht,hl⟩
  · injection hj with hj
    exact Or.inl (by omega)
  · exact NsOwn.down ho hle
  · obtain ⟨a,h1,h2,h3⟩:=h.at_
    refine ⟨a,h1,h2,?_⟩
    exact (hg'.block g h3.lt (by intro e; injection e with e; omega)).trans h3
theorem sg_first {w : World} {g : Nat} {s : ByteArray} {w4 : World} {m : List UInt8} {a : Nat} (hgr : w.grownBy w4 (some g)) (hA : At (w4.setCell ⟨g,1,none⟩ (.int .i64 ((a : Int) + 1))) g s m) (n : Nd) (hl : m.length ≤ 1000) : SgInv w g s (posts (.leaf n) m) (.slice (some ⟨w4.heap.size,0,none⟩) 1 1) ((w4.setCell ⟨g,1,none⟩ (.int .i64 ((a : Int) + 1))).alloc (ndOb n.op n.c)) (.leaf n) m:=by
  have hsz : (w4.setCell ⟨g,1,none⟩ (.int .i64 ((a : Int) + 1))).heap.size = w4.heap.size:=by simp [World.setCell]
  refine ⟨(hgr.trans (grown_at _ _ _ _)).trans (World.grownBy_alloc _ _ _),?_,hA.below (below_one _ _),rfl,by simp [Rx.flat]; omega⟩
  have:=own_one (w4.setCell ⟨g,1,none⟩ (.int .i64 ((a : Int) + 1))) n
  rw [hsz] at this
  exact this.down hgr.size
theorem atom_begin (g : Nat) (s : ByteArray) (l : List UInt8) (hs : s.size ≤ 1000) (hh : l.head? = some 94) : AtomOkC g s l (posts (.leaf ⟨8,z4⟩) l.tail):=by
  intro w hA
  have hgl:=hA.lt
  have HL : Hid (l.length ≤ 1000):=by
    show _ ≤ _
    obtain ⟨a,h1,_⟩:=hA
    omega
  have C1 : Hid (∀ w,At w g s l → _):=fun w h => sees_at g s l 40 40 rfl hs w h
  have C2 : Hid (∀ w,At w g s l → _):=fun w h => sees_at g s l 91 91 rfl hs w h
  have C3 : Hid (∀ w,At w g s l → _):=fun w h => sees_at g s l 46 46 rfl hs w h
  have C4 : Hid (∀ w,At w g s l → _):=fun w h => sees_at g s l 94 94 rfl hs w h
  rw [hh] at C1 C2 C3 C4
  go_enter Tryz.func54,Tryz.ntmps54
  go_wp2_with fail
  refine Calls.mono (C1.out _ hA) ?_
  rintro e w1 ⟨rfl,hb1⟩
  have hA1:=hA.below hb1
  go_wp2_with fail
  refine Calls.mono (C2.out _ hA1) ?_
  rintro e w2 ⟨rfl,hb2⟩
  have hA2:=hA1.below hb2
  go_wp2_with fail
  refine Calls.mono (C3.out _ hA2) ?_
  rintro e w3 ⟨rfl,hb3⟩
  have hA3:=hA2.below hb3
  go_wp2_with fail
  refine Calls.mono (C4.out _ hA3) ?_
  rintro e w4 ⟨rfl,hb4⟩
  have hA4:=hA3.below hb4
  have hG4 : w.grownBy w4 (some g):=(((below_grown hb1 _).trans (below_grown hb2 _)).trans (below_grown hb3 _)).trans (below_grown hb4 _)
  obtain ⟨el,hll⟩:=tail_len l _ hh
  rw [el] at hA4
  obtain ⟨a,hR,ha,hA5⟩:=hA4.step
  obtain ⟨c0,c1,c2,f1,f2⟩:=hR.all
  clear hA1 hA2 hA3 hA4 hb1 hb2 hb3 hb4 C1 C2 C3 C4
  go_wp2_with fail
  have HI : Hid (SgInv w g s (posts (.leaf ⟨8,z4⟩) l.tail) (.slice (some ⟨w4.heap.size,0,none⟩) 1 1) ((w4.setCell ⟨g,1,none⟩ (.int .i64 ((a : Int) + 1))).alloc (ndOb 8 z4)) (.leaf ⟨8,z4⟩) l.tail):=sg_first hG4 hA5 ⟨8,z4⟩ (by have:=HL.out; omega)
  go_loopw [3] (fun u wr => ∃ t m,Hid (SgInv w g s (posts (.leaf ⟨8,z4⟩) l.tail) u wr t m)) (fun _ wr => rdMeas wr g s.size)
  case atStart => exact ⟨_,_,HI⟩
  case round =>
    obtain ⟨t,m,HV⟩:=hrel
    clear HI c0 c1 c2 f1 f2
    have MS : Hid (rdMeas wr g s.size = m.length + 1):=HV.out.at_.meas
    obtain ⟨a1,ha1,hd1,hR1⟩:=HV.out.at_
    obtain ⟨c0,c1,c2,f1,f2⟩:=hR1.all
    clear hd1 hR1
    have D1 : Hid (∀ w,At w g s m → _):=fun w h => sees_at g s m 42 42 rfl hs w h
    have D2 : Hid (∀ w,At w g s m → _):=fun w h => sees_at g s m 43 43 rfl hs w h
    have D3 : Hid (∀ w,At w g s m → _):=fun w h => sees_at g s m 63 63 rfl hs w h
    by_cases m42 : m.head? = some 42
    · rw [decide_eq_true m42] at D1
      rw [m42,show decide (some (42 : UInt8) = some 43) = false from rfl] at D2
      rw [m42,show decide (some (42 : UInt8) = some 63) = false from rfl] at D3
      go_wp2_with fail
      refine Calls.mono (D1.out _ HV.out.at_) ?_
      rintro e x1 ⟨rfl,hx1⟩
      have V1 : Hid _:=HV.out.below hx1
      clear hx1
      go_wp2_with fail
      refine Calls.mono (D2.out _ V1.out.at_) ?_
      rintro e x2 ⟨rfl,hx2⟩
      have V2 : Hid _:=V1.out.below hx2
      clear hx2
      go_wp2_with fail
      refine Calls.mono (D3.out _ V2.out.at_) ?_
      rintro e x3 ⟨rfl,hx3⟩
      have V3 : Hid _:=V2.out.below hx3
      clear hx3 c0 c1 c2 f1 f2
      obtain ⟨em,hml⟩:=tail_len m _ m42
      have hA3:=V3.out.at_
      rw [em] at hA3
      obtain ⟨a5,hR5,ha5,hA5⟩:=hA3.step
      obtain ⟨c0,c1,c2,f1,f2⟩:=hR5.all
      obtain ⟨gb,capb,hub,hg1,hg2,hcb⟩:=V3.out.own.form (t.flat_pos)
      have SG : Hid _:=sg_set V3.out.gr V3.out.own hub hcb hg2 hgl a5 hA5 ⟨5,z4⟩
      subst hub
      clear hR5 hA5 hA3 hcb hg1 hg2
      go_wp2_with (at_builtin; refine wpList_append_ns (by rfl) _ _ (by rfl) x3.heap.size _ (by rfl) _ SG.out.x gb _ _ t.flat (by rfl) (by rfl) SG.out.src t.flat_pos (by have:=HV.out.len; simp; omega) SG.out.sz ?_; intro g7 cap7 x7 ho7 hg7 hb7 hl7; have O7 : Hid _:=ho7; have G7 : Hid _:=hg7; clear ho7 hg7 hb7 hl7)
      have HE : Hid (SgInv w g s (posts (.leaf ⟨8,z4⟩) l.tail) (.slice (some ⟨g7,0,none⟩) (1 + t.flat.length) cap7) x7 (.one ⟨5,z4⟩ t) m.tail) :=
        sg_next SG.out O7.out G7.out (by rw [← HV.out.tg]; exact (posts_s5 t m em).symm) (by have:=HV.out.len; simp [Rx.flat]; omega)
      have MSE : Hid (rdMeas x7 g s.size = m.tail.length + 1):=HE.out.at_.meas
      exact ⟨⟨_,_,HE⟩,by rw [MSE.out,MS.out]; omega⟩
    · rw [decide_eq_false m42] at D1
      by_cases m43 : m.head? = some 43
      · rw [decide_eq_true m43] at D2
        rw [m43,show decide (some (43 : UInt8) = some 63) = false from rfl] at D3
        go_wp2_with fail
        refine Calls.mono (D1.out _ HV.out.at_) ?_
        rintro e x1 ⟨rfl,hx1⟩
        have V1 : Hid _:=HV.out.below hx1
        clear hx1
        go_wp2_with fail
        refine Calls.mono (D2.out _ V1.out.at_) ?_
        rintro e x2 ⟨rfl,hx2⟩
        have V2 : Hid _:=V1.out.below hx2
        clear hx2
        go_wp2_with fail
        refine Calls.mono (D3.out _ V2.out.at_) ?_
        rintro e x3 ⟨rfl,hx3⟩
        have V3 : Hid _:=V2.out.below hx3
        clear hx3 c0 c1 c2 f1 f2
        obtain ⟨em,hml⟩:=tail_len m _ m43
        have hA3:=V3.out.at_
        rw [em] at hA3
        obtain ⟨a5,hR5,ha5,hA5⟩:=hA3.step
        obtain ⟨c0,c1,c2,f1,f2⟩:=hR5.all
        obtain ⟨gb,capb,hub,hg1,hg2,hcb⟩:=V3.out.own.form (t.flat_pos)
        have SG : Hid _:=sg_set V3.out.gr V3.out.own hub hcb hg2 hgl a5 hA5 ⟨6,z4⟩
        subst hub
        clear hR5 hA5 hA3 hcb hg1 hg2
        go_wp2_with (at_builtin; refine wpList_append_ns (by rfl) _ _ (by rfl) x3.heap.size _ (by rfl) _ SG.out.x gb _ _ t.flat (by rfl) (by rfl) SG.out.src t.flat_pos (by have:=HV.out.len; simp; omega) SG.out.sz ?_; intro g7 cap7 x7 ho7 hg7 hb7 hl7; have O7 : Hid _:=ho7; have G7 : Hid _:=hg7; clear ho7 hg7 hb7 hl7)
        have HE : Hid (SgInv w g s (posts (.leaf ⟨8,z4⟩) l.tail) (.slice (some ⟨g7,0,none⟩) (1 + t.flat.length) cap7) x7 (.one ⟨6,z4⟩ t) m.tail) :=
          sg_next SG.out O7.out G7.out (by rw [← HV.out.tg]; exact (posts_s6 t m em).symm) (by have:=HV.out.len; simp [Rx.flat]; omega)
        have MSE : Hid (rdMeas x7 g s.size = m.tail.length + 1):=HE.out.at_.meas
        exact ⟨⟨_,_,HE⟩,by rw [MSE.out,MS.out]; omega⟩
      · rw [decide_eq_false m43] at D2
        by_cases m63 : m.head? = some 63
        · rw [decide_eq_true m63] at D3
          go_wp2_with fail
          refine Calls.mono (D1.out _ HV.out.at_) ?_
          rintro e x1 ⟨rfl,hx1⟩
          have V1 : Hid _:=HV.out.below hx1
          clear hx1
          go_wp2_with fail
          refine Calls.mono (D2.out _ V1.out.at_) ?_
          rintro e x2 ⟨rfl,hx2⟩
          have V2 : Hid _:=V1.out.below hx2
          clear hx2
          go_wp2_with fail
          refine Calls.mono (D3.out _ V2.out.at_) ?_
          rintro e x3 ⟨rfl,hx3⟩
          have V3 : Hid _:=V2.out.below hx3
          clear hx3 c0 c1 c2 f1 f2
          obtain ⟨em,hml⟩:=tail_len m _ m63
          have hA3:=V3.out.at_
          rw [em] at hA3
          obtain ⟨a5,hR5,ha5,hA5⟩:=hA3.step
          obtain ⟨c0,c1,c2,f1,f2⟩:=hR5.all
          obtain ⟨gb,capb,hub,hg1,hg2,hcb⟩:=V3.out.own.form (t.flat_pos)
          have SG : Hid _:=sg_set V3.out.gr V3.out.own hub hcb hg2 hgl a5 hA5 ⟨7,z4⟩
          subst hub
          clear hR5 hA5 hA3 hcb hg1 hg2
          go_wp2_with (at_builtin; refine wpList_append_ns (by rfl) _ _ (by rfl) x3.heap.size _ (by rfl) _ SG.out.x gb _ _ t.flat (by rfl) (by rfl) SG.out.src t.flat_pos (by have:=HV.out.len; simp; omega) SG.out.sz ?_; intro g7 cap7 x7 ho7 hg7 hb7 hl7; have O7 : Hid _:=ho7; have G7 : Hid _:=hg7; clear ho7 hg7 hb7 hl7)
          have HE : Hid (SgInv w g s (posts (.leaf ⟨8,z4⟩) l.tail) (.slice (some ⟨g7,0,none⟩) (1 + t.flat.length) cap7) x7 (.one ⟨7,z4⟩ t) m.tail) :=
            sg_next SG.out O7.out G7.out (by rw [← HV.out.tg]; exact (posts_s7 t m em).symm) (by have:=HV.out.len; simp [Rx.flat]; omega)
          have MSE : Hid (rdMeas x7 g s.size = m.tail.length + 1):=HE.out.at_.meas
          exact ⟨⟨_,_,HE⟩,by rw [MSE.out,MS.out]; omega⟩
        · rw [decide_eq_false m63] at D3
          go_wp2_with fail
          refine Calls.mono (D1.out _ HV.out.at_) ?_
          rintro e x1 ⟨rfl,hx1⟩
          have V1 : Hid _:=HV.out.below hx1
          clear hx1
          go_wp2_with fail
          refine Calls.mono (D2.out _ V1.out.at_) ?_
          rintro e x2 ⟨rfl,hx2⟩
          have V2 : Hid _:=V1.out.below hx2
          clear hx2
          go_wp2_with fail
          refine Calls.mono (D3.out _ V2.out.at_) ?_
          rintro e x3 ⟨rfl,hx3⟩
          have V3 : Hid _:=V2.out.below hx3
          clear hx3 c0 c1 c2 f1 f2
          have HT : Hid ((posts (.leaf ⟨8,z4⟩) l.tail) = (t,m)):=by show _ = _; rw [← HV.out.tg,posts_end t m m42 m43 m63]
          go_wp2
          go_ret
          exact ⟨V3.out.gr,_,rfl,by rw [HT.out]; exact V3.out.own,by rw [HT.out]; exact V3.out.at_⟩
end Go.Proofs.YtcjghhedphmhkaaGreatDoor
