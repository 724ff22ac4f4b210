/- Own texts. -/
import Derived.Test.YtcjghhedphmhkaaGreatDoorY01
set_option linter.unusedSimpArgs false
set_option linter.unusedVariables false
set_option maxRecDepth 100000
set_option maxHeartbeats 8000000
namespace Go.Proofs.YtcjghhedphmhkaaGreatDoor
open Go.RowKit
def hexv (c : UInt8) : Nat:=if c.toNat < 58 then c.toNat - 48 else c.toNat - 87
def one : List UInt8 → Option (Nat × List UInt8)
  | [] => none
  | c :: l =>
    if c = 92 then
      match l with
      | [] => none
      | d :: l2 =>
        if d = 120 then
          match l2 with
          | x :: y :: r => some (hexv x * 16 + hexv y,r)
          | _ => none
        else some (d.toNat,l2)
    else some (c.toNat,l)
theorem toU8_toNat (n : Nat) (h : n < 256) : n.toUInt8.toNat = n:=by
  simp [Nat.toUInt8,UInt8.toNat_ofNat,Nat.mod_eq_of_lt h]
theorem bt_head (n : Nat) (l : List UInt8) (c : UInt8) (hc : c ∈ signL) (hn : c ≠ 92) : (bt n ++ l).head? ≠ some c:=by
  unfold bt
  split
  · simp only [List.cons_append,List.head?_cons]
    intro e
    exact hn (Option.some.inj e).symm
  · split
    · simp only [List.cons_append,List.head?_cons]
      intro e
      exact hn (Option.some.inj e).symm
    · rename_i hs
      simp only [List.cons_append,List.head?_cons]
      intro e
      exact hs (by rw [Option.some.inj e]; exact hc)
theorem rt_head (i j : Nat) (l : List UInt8) (c : UInt8) (hc : c ∈ signL) (hn : c ≠ 92) : (rt i j ++ l).head? ≠ some c:=by
  unfold rt
  split
  · exact bt_head i l c hc hn
  · split
    · rw [List.append_assoc]; exact bt_head i _ c hc hn
    · rw [List.append_assoc]; exact bt_head i _ c hc hn
theorem runsL_head (p : Nat → Bool) (c : UInt8) (hc : c ∈ signL) (hn : c ≠ 92) : ∀ (f i : Nat),(runsL p f i).head? ≠ some c
  | 0,i => by simp [runsL]
  | f + 1,i => by
    rw [runsL]
    split
    · split
      · exact rt_head _ _ _ c hc hn
      · rw [List.nil_append]; exact runsL_head p c hc hn f _
    · simp
theorem rEnd_spec (p : Nat → Bool) : ∀ (f i : Nat),(∀ j,i ≤ j → j < rEnd p f i → p j = true) ∧ (rEnd p f i < i + f → p (rEnd p f i) = false)
  | 0,i => ⟨fun j h1 h2 => by simp [rEnd] at h2; omega,fun h => by simp [rEnd] at h⟩
  | f + 1,i => by
    have ih:=rEnd_spec p f (i + 1)
    rw [rEnd]
    split
    · rename_i hp
      refine ⟨fun j h1 h2 => ?_,fun h => ih.2 (by omega)⟩
      by_cases e : j = i
      · rw [e]; exact hp
      · exact ih.1 j (by omega) h2
    · rename_i hp
      exact ⟨fun j h1 h2 => by omega,fun _ => by simpa using hp⟩
theorem runs256_head (k : C4) (c : UInt8) (hc : c ∈ signL) (hn : c ≠ 92) : (runs256 k).head? ≠ some c:=runsL_head k.p c hc hn 256 0
def hx (c : UInt8) : Option Nat:=if 48 ≤ c.toNat ∧ c.toNat < 58 then some (c.toNat - 48) else if 97 ≤ c.toNat ∧ c.toNat < 103 then some (c.toNat - 87) else none
def rdHex (k : Nat) : List UInt8 → Except Nat (Nat × List UInt8)
  | [] => .error 0
  | [x] => if (hx x).isSome then .error 0 else .error k
  | x :: y :: l =>
    match hx x,hx y with
    | some a,some b => .ok (a * 16 + b,l)
    | _,_ => .error k
def rdEsc (k : Nat) : List UInt8 → Except Nat (Nat × List UInt8)
  | [] => .error 0
  | d :: l => if d ∈ signL then .ok (d.toNat,l) else if d = 120 then rdHex k l else .error k
def rd1 : List UInt8 → Except Nat (Nat × List UInt8)
  | [] => .error 0
  | c :: l => if c = 92 then rdEsc (l.length + 1) l else if c.toNat < 32 ∨ 126 < c.toNat ∨ c ∈ signL then .error (l.length + 1) else .ok (c.toNat,l)
def addTo (c : C4) (lo : Nat) : Nat → C4
  | 0 => c
  | n + 1 => (addTo c lo n).add ((lo + n : Nat) : Int)
def items : Nat → C4 → List UInt8 → Except Nat (C4 × List UInt8)
  | 0,_,l => .error l.length
  | f + 1,c,l =>
    if l.head? = some 93 then .ok (c,l.tail)
    else
      match rd1 l with
      | .error k => .error k
      | .ok (lo,l1) =>
        if l1.head? = some 45 then
          match rd1 l1.tail with
          | .error k => .error k
          | .ok (hi,l2) => if hi < lo then .error l.length else items f (addTo c lo (hi + 1 - lo)) l2
        else items f (c.add ((lo : Nat) : Int)) l1
def bracket (l : List UInt8) : Except Nat (C4 × List UInt8) :=
  if l.head? = some 94 then
    match items l.length z4 l.tail with
    | .error k => .error k
    | .ok (c,r) => .ok (c.not,r)
  else items (l.length + 1) z4 l
def base (l : List UInt8) : Except Nat (Nd × List UInt8) :=
  if l.head? = some 91 then
    match bracket l.tail with
    | .error k => .error k
    | .ok (c,r) => .ok (⟨1,c⟩,r)
  else if l.head? = some 46 then .ok (⟨1,dotC⟩,l.tail)
  else if l.head? = some 94 then .ok (⟨8,z4⟩,l.tail)
  else if l.head? = some 36 then .ok (⟨9,z4⟩,l.tail)
  else
    match rd1 l with
    | .error k => .error k
    | .ok (b,r) => .ok (⟨1,z4.add ((b : Nat) : Int)⟩,r)
def posts : Rx → List UInt8 → Rx × List UInt8
  | t,[] => (t,[])
  | t,c :: r => if c = 42 then posts (.one ⟨5,z4⟩ t) r else if c = 43 then posts (.one ⟨6,z4⟩ t) r else if c = 63 then posts (.one ⟨7,z4⟩ t) r else (t,c :: r)
def cats : List Rx → Rx
  | [] => .leaf ⟨2,z4⟩
  | [x] => x
  | x :: y :: r => .two ⟨3,z4⟩ x (cats (y :: r))
def ors : List Rx → Rx
  | [] => .leaf ⟨2,z4⟩
  | [x] => x
  | x :: y :: r => .two ⟨4,z4⟩ x (ors (y :: r))
def stp (l : List UInt8) : Bool :=
  match l with
  | [] => true
  | c :: _ => c == 124 || c == 41
mutual
inductive Atom : List UInt8 → Except Nat (Rx × List UInt8) → Prop
  | bad (l : List UInt8) (k : Nat) : l.head? ≠ some 40 → base l = .error k → Atom l (.error k)
  | ok (l : List UInt8) (n : Nd) (l1 : List UInt8) : l.head? ≠ some 40 → base l = .ok (n,l1) → Atom l (.ok (posts (.leaf n) l1))
  | inBad (l : List UInt8) (k : Nat) : Alt l (.error k) → Atom (40 :: l) (.error k)
  | inOpen (l : List UInt8) (ss : List Rx) (l1 : List UInt8) : Alt l (.ok (ss,l1)) → l1.head? ≠ some 41 → Atom (40 :: l) (.error l1.length)
  | inOk (l : List UInt8) (ss : List Rx) (l1 : List UInt8) : Alt l (.ok (ss,41 :: l1)) → Atom (40 :: l) (.ok (posts (ors ss) l1))
inductive Seq : List UInt8 → Except Nat (List Rx × List UInt8) → Prop
  | stop (l : List UInt8) : stp l = true → Seq l (.ok ([],l))
  | bad (l : List UInt8) (k : Nat) : stp l = false → Atom l (.error k) → Seq l (.error k)
  | more (l : List UInt8) (x : Rx) (l1 : List UInt8) (xs : List Rx) (l2 : List UInt8) : stp l = false → Atom l (.ok (x,l1)) → Seq l1 (.ok (xs,l2)) → Seq l (.ok (x :: xs,l2))
  | moreBad (l : List UInt8) (x : Rx) (l1 : List UInt8) (k : Nat) : stp l = false → Atom l (.ok (x,l1)) → Seq l1 (.error k) → Seq l (.error k)
inductive Alt : List UInt8 → Except Nat (List Rx × List UInt8) → Prop
  | bad (l : List UInt8) (k : Nat) : Seq l (.error k) → Alt l (.error k)
  | last (l : List UInt8) (xs : List Rx) (l1 : List UInt8) : Seq l (.ok (xs,l1)) → l1.head? ≠ some 124 → Alt l (.ok ([cats xs],l1))
  | more (l : List UInt8) (xs : List Rx) (l1 : List UInt8) (ss : List Rx) (l2 : List UInt8) : Seq l (.ok (xs,124 :: l1)) → Alt l1 (.ok (ss,l2)) → Alt l (.ok (cats xs :: ss,l2))
  | moreBad (l : List UInt8) (xs : List Rx) (l1 : List UInt8) (k : Nat) : Seq l (.ok (xs,124 :: l1)) → Alt l1 (.error k) → Alt l (.error k)
end
inductive Whole : List UInt8 → Except Nat Rx → Prop
  | bad (l : List UInt8) (k : Nat) : Alt l (.error k) → Whole l (.error k)
  | more (l : List UInt8) (ss : List Rx) (l1 : List UInt8) : Alt l (.ok (ss,l1)) → l1 ≠ [] → Whole l (.error l1.length)
  | ok (l : List UInt8) (ss : List Rx) : Alt l (.ok (ss,[])) → Whole l (.ok (ors ss))
/-! What is left is less -/
theorem hx_lt (c : UInt8) (a : Nat) (h : hx c = some a) : a < 16:=by
  unfold hx at h
  split at h
  · simp at h; omega
  · split at h
    · simp at h; omega
    · cases h
theorem rdHex_len (k : Nat) : ∀ (l : List UInt8) (b : Nat) (r : List UInt8),rdHex k l = .ok (b,r) → r.length < l.length ∧ b < 256
  | [],b,r,h => by simp [rdHex] at h
  | [x],b,r,h => by simp only [rdHex] at h; split at h <;> cases h
  | x :: y :: l,b,r,h => by
    simp only [rdHex] at h
    split at h
    · rename_i a b' h1 h2
      have:=hx_lt _ _ h1
      have:=hx_lt _ _ h2
      simp at h
      obtain ⟨rfl,rfl⟩:=h
      exact ⟨by simp; omega,by omega⟩
    · cases h
theorem rdEsc_len (k : Nat) : ∀ (l : List UInt8) (b : Nat) (r : List UInt8),rdEsc k l = .ok (b,r) → r.length < l.length ∧ b < 256
  | [],b,r,h => by simp [rdEsc] at h
  | d :: l,b,r,h => by
    rw [rdEsc] at h
    split at h
    · injection h with h
      injection h with h1 h2
      subst h1; subst h2
      exact ⟨by simp,d.toNat_lt⟩
    · split at h
      · have:=rdHex_len k l b r h
        exact ⟨by simp; omega,this.2⟩
      · cases h
theorem rd1_len : ∀ (l : List UInt8) (b : Nat) (r : List UInt8),rd1 l = .ok (b,r) → r.length < l.length ∧ b < 256
  | [],b,r,h => by simp [rd1] at h
  | c :: l,b,r,h => by
    rw [rd1] at h
    split at h
    · have:=rdEsc_len _ l b r h
      exact ⟨by simp; omega,this.2⟩
    · split at h
      · cases h
      · injection h with h
        injection h with h1 h2
        subst h1; subst h2
        exact ⟨by simp,c.toNat_lt⟩
theorem tail_len (l : List UInt8) (c : UInt8) (h : l.head? = some c) : l = c :: l.tail ∧ l.tail.length + 1 = l.length:=by
  cases l with
  | nil => simp at h
  | cons d r => simp at h; subst h; simp
theorem items_len : ∀ (f : Nat) (c : C4) (l : List UInt8) (k : C4) (r : List UInt8),items f c l = .ok (k,r) → r.length < l.length
  | 0,c,l,k,r,h => by simp [items] at h
  | f + 1,c,l,k,r,h => by
    rw [items] at h
    split at h
    · rename_i h0
      have:=tail_len l _ h0
      simp at h
      rw [← h.2]; omega
    · cases h1 : rd1 l with
      | error e => rw [h1] at h; simp at h
      | ok p =>
        obtain ⟨lo,l1⟩:=p
        have g1:=(rd1_len l lo l1 h1).1
        rw [h1] at h
        simp only at h
        split at h
        · rename_i h2
          have g2:=(tail_len l1 _ h2).2
          cases h3 : rd1 l1.tail with
          | error e => rw [h3] at h; simp at h
          | ok p =>
            obtain ⟨hi,l2⟩:=p
            have g3:=(rd1_len l1.tail hi l2 h3).1
            rw [h3] at h
            simp only at h
            split at h
            · simp at h
            · have:=items_len f _ _ _ _ h
              omega
        · have:=items_len f _ _ _ _ h
          omega
theorem bracket_len (l : List UInt8) (k : C4) (r : List UInt8) (h : bracket l = .ok (k,r)) : r.length < l.length:=by
  unfold bracket at h
  split at h
  · rename_i h0
    have:=tail_len l _ h0
    cases h1 : items l.length z4 l.tail with
    | error e => rw [h1] at h; simp at h
    | ok p =>
      obtain ⟨c,r'⟩:=p
      have:=items_len _ _ _ _ _ h1
      rw [h1] at h
      simp at h
      rw [← h.2]; omega
  · exact items_len _ _ _ _ _ h
theorem base_len (l : List UInt8) (n : Nd) (r : List UInt8) (h : base l = .ok (n,r)) : r.length < l.length:=by
  unfold base at h
  split at h
  · rename_i h0
    have:=tail_len l _ h0
    cases h1 : bracket l.tail with
    | error e => rw [h1] at h; simp at h
    | ok p =>
      obtain ⟨c,r'⟩:=p
      have:=bracket_len _ _ _ h1
      rw [h1] at h
      simp at h
      rw [← h.2]; omega
  · split at h
    · rename_i h0
      have:=tail_len l _ h0
      simp at h; rw [← h.2]; omega
    · split at h
      · rename_i h0
        have:=tail_len l _ h0
        simp at h; rw [← h.2]; omega
      · split at h
        · rename_i h0
          have:=tail_len l _ h0
          simp at h; rw [← h.2]; omega
        · cases h1 : rd1 l with
          | error e => rw [h1] at h; simp at h
          | ok p =>
            obtain ⟨b,r'⟩:=p
            have:=(rd1_len _ _ _ h1).1
            rw [h1] at h
            simp at h
            rw [← h.2]; omega
theorem posts_len : ∀ (l : List UInt8) (t : Rx),(posts t l).2.length ≤ l.length
  | [],t => by simp [posts]
  | c :: r,t => by
    rw [posts]
    split
    · have:=posts_len r (.one ⟨5,z4⟩ t); simp; omega
    · split
      · have:=posts_len r (.one ⟨6,z4⟩ t); simp; omega
      · split
        · have:=posts_len r (.one ⟨7,z4⟩ t); simp; omega
        · simp
/-! Every text is read,or fails -/
theorem total : ∀ (n : Nat) (l : List UInt8),l.length ≤ n → (∃ r,Atom l r ∧ ∀ x l1,r = .ok (x,l1) → l1.length < l.length) ∧ (∃ r,Seq l r ∧ ∀ x l1,r = .ok (x,l1) → l1.length ≤ l.length) ∧ (∃ r,Alt l r ∧ ∀ x l1,r = .ok (x,l1) → l1.length ≤ l.length)
  | n,l,hn => by
    have hA : ∃ r,Atom l r ∧ ∀ x l1,r = .ok (x,l1) → l1.length < l.length:=by
      by_cases h : l.head? = some 40
      · obtain ⟨e,hl⟩:=tail_len l _ h
        cases n with
        | zero => simp at hn; subst hn; simp at h
        | succ n =>
          obtain ⟨_,_,⟨r,hr,hlr⟩⟩:=total n l.tail (by omega)
          rw [e]
          cases r with
          | error k => exact ⟨_,Atom.inBad _ k hr,fun x l1 h => by cases h⟩
          | ok p =>
            obtain ⟨ss,l1⟩:=p
            by_cases h4 : l1.head? = some 41
            · obtain ⟨e1,hl1⟩:=tail_len l1 _ h4
              rw [e1] at hr
              refine ⟨_,Atom.inOk _ ss _ hr,fun x l2 h => ?_⟩
              have g:=hlr _ _ rfl
              injection h with h
              have:=posts_len l1.tail (ors ss)
              rw [h] at this
              simp only at this
              simp only [List.length_cons]
              omega
            · exact ⟨_,Atom.inOpen _ ss l1 hr h4,fun x l1 h => by cases h⟩
      · cases hb : base l with
        | error k => exact ⟨_,Atom.bad l k h hb,fun x l1 h => by cases h⟩
        | ok p =>
          obtain ⟨m,l1⟩:=p
          refine ⟨_,Atom.ok l m l1 h hb,fun x l2 h => ?_⟩
          have g:=base_len _ _ _ hb
          injection h with h
          have:=posts_len l1 (.leaf m)
          rw [h] at this
          simp only at this
          omega
    have hS : ∃ r,Seq l r ∧ ∀ x l1,r = .ok (x,l1) → l1.length ≤ l.length:=by
      cases hs : stp l with
      | true => exact ⟨_,Seq.stop l hs,fun x l1 h => by injection h with h; injection h with _ h; rw [h]; exact Nat.le_refl _⟩
      | false =>
        obtain ⟨r,hr,hlr⟩:=hA
        cases r with
        | error k => exact ⟨_,Seq.bad l k hs hr,fun x l1 h => by cases h⟩
        | ok p =>
          obtain ⟨x,l1⟩:=p
          have g:=hlr _ _ rfl
          cases n with
          | zero => omega
          | succ n =>
            obtain ⟨_,⟨r2,hr2,hlr2⟩,_⟩:=total n l1 (by omega)
            cases r2 with
            | error k => exact ⟨_,Seq.moreBad l x l1 k hs hr hr2,fun x l1 h => by cases h⟩
            | ok p =>
              obtain ⟨xs,l2⟩:=p
              refine ⟨_,Seq.more l x l1 xs l2 hs hr hr2,fun x l3 h => ?_⟩
              have g2:=hlr2 _ _ rfl
              injection h with h
              injection h with _ h
              rw [← h]; omega
    refine ⟨hA,hS,?_⟩
    obtain ⟨r,hr,hlr⟩:=hS
    cases r with
    | error k => exact ⟨_,Alt.bad l k hr,fun x l1 h => by cases h⟩
    | ok p =>
      obtain ⟨xs,l1⟩:=p
      have g:=hlr _ _ rfl
      by_cases h4 : l1.head? = some 124
      · obtain ⟨e1,hl1⟩:=tail_len l1 _ h4
        cases n with
        | zero => omega
        | succ n =>
          obtain ⟨_,_,⟨r2,hr2,hlr2⟩⟩:=total n l1.tail (by omega)
          rw [e1] at hr
          cases r2 with
          | error k => exact ⟨_,Alt.moreBad l xs _ k hr hr2,fun x l1 h => by cases h⟩
          | ok p =>
            obtain ⟨ss,l2⟩:=p
            refine ⟨_,Alt.more l xs _ ss l2 hr hr2,fun x l3 h => ?_⟩
            have g2:=hlr2 _ _ rfl
            injection h with h
            injection h with _ h
            rw [← h]; omega
      · exact ⟨_,Alt.last l xs l1 hr h4,fun x l2 h => by injection h with h; injection h with _ h; rw [← h]; exact g⟩
theorem whole_total (l : List UInt8) : ∃ r,Whole l r:=by
  obtain ⟨_,_,⟨r,hr,_⟩⟩:=total l.length l (Nat.le_refl _)
  cases r with
  | error k => exact ⟨_,Whole.bad l k hr⟩
  | ok p =>
    obtain ⟨ss,l1⟩:=p
    by_cases h : l1 = []
    · subst h; exact ⟨_,Whole.ok l ss hr⟩
    · exact ⟨_,Whole.more l ss l1 hr h⟩
theorem cnt_two (p : Nat → Bool) : ∀ (n i j : Nat),i < n → j < n → i ≠ j → p i = true → p j = true → 2 ≤ cnt p n
  | 0,i,j,hi,_,_,_,_ => by omega
  | n + 1,i,j,hi,hj,hij,pi,pj => by
    have pos : ∀ m t,t < m → p t = true → 1 ≤ cnt p m:=by
      intro m t ht pt
      rcases Nat.eq_zero_or_pos (cnt p m) with h0 | h0
      · have:=cnt_pos p m h0 t ht
        rw [this] at pt
        cases pt
      · exact h0
    rw [cnt]
    by_cases e1 : i = n
    · subst e1
      rw [pi]
      have:=pos i j (by omega) pj
      simp
      omega
    · by_cases e2 : j = n
      · subst e2
        rw [pj]
        have:=pos j i (by omega) pi
        simp
        omega
      · have:=cnt_two p n i j (by omega) (by omega) hij pi pj
        omega
theorem cnt_one (p : Nat → Bool) (n i j : Nat) (h : cnt p n = 1) (hi : i < n) (hj : j < n) (pi : p i = true) (pj : p j = true) : i = j:=by
  by_cases e : i = j
  · exact e
  · have:=cnt_two p n i j hi hj e pi pj
    omega
theorem dotC_ok : dotC.ok:=C4.not_ok (ofL_ok _)
theorem runsL_none (p : Nat → Bool) : ∀ (f i : Nat),(∀ n,i ≤ n → n < 256 → p n = false) → runsL p f i = []
  | 0,i,_ => rfl
  | f + 1,i,h => by
    rw [runsL]
    by_cases hi : i < 256
    · have e:=rEnd_no p i hi (h i (Nat.le_refl _) hi)
      rw [if_pos hi,e,if_neg (Nat.lt_irrefl _),List.nil_append]
      exact runsL_none p f (i + 1) (fun n h1 h2 => h n (by omega) h2)
    · rw [if_neg hi]
theorem one_run (p : Nat → Bool) (f i : Nat) (hi : i < 256) (h : cnt p 256 = 1) (pi : p i = true) : runsL p (f + 1) i = bt i:=by
  have e1:=rEnd_yes p i hi pi
  have e2 : rEnd p (256 - (i + 1)) (i + 1) = i + 1:=by
    by_cases h2 : i + 1 < 256
    · apply rEnd_no p (i + 1) h2
      cases hp : p (i + 1)
      · rfl
      · exact absurd (cnt_one p 256 i (i + 1) h hi h2 pi hp) (by omega)
    · rw [show 256 - (i + 1) = 0 from by omega,rEnd]
  rw [runsL,if_pos hi,e1,e2,if_pos (Nat.lt_succ_self i),runsL_none p f (i + 1 + 1),List.append_nil]
  · simp [rt]
  · intro n h1 h2
    cases hp : p n
    · rfl
    · exact absurd (cnt_one p 256 i n h hi h2 pi hp) (by omega)
theorem runsL_no (p : Nat → Bool) (f i : Nat) (hi : i < 256) (h : p i = false) : runsL p (f + 1) i = runsL p f (i + 1):=by
  rw [runsL,if_pos hi,rEnd_no p i hi h,if_neg (Nat.lt_irrefl _),List.nil_append]
theorem hx_hexd (k : Nat) (h : k < 16) : hx (hexd k) = some k:=by
  have key : ∀ k : Fin 16,hx (hexd k.val) = some k.val:=by decide +kernel
  exact key ⟨k,h⟩
theorem rd1_bt (n : Nat) (h : n < 256) (l : List UInt8) : rd1 (bt n ++ l) = .ok (n,l):=by
  have ht:=toU8_toNat n h
  unfold bt
  split
  · have h1 : hx (hexd (n / 16)) = some (n / 16):=hx_hexd _ (by omega)
    have h2 : hx (hexd (n % 16)) = some (n % 16):=hx_hexd _ (by omega)
    simp only [List.cons_append,List.nil_append,rd1,rdEsc,if_true]
    rw [if_neg (by decide)]
    simp only [rdHex,h1,h2]
    rw [show n / 16 * 16 + n % 16 = n from by omega]
  · rename_i hr
    split
    · rename_i hs
      simp only [List.cons_append,List.nil_append,rd1,rdEsc,if_true]
      rw [if_pos hs,ht]
    · rename_i hs
      have : ¬ n.toUInt8 = 92:=by
        intro e
        rw [e] at hs
        exact hs (by decide)
      simp only [List.cons_append,List.nil_append,rd1]
      rw [if_neg this,if_neg (by rw [ht]; rintro (h | h | h) <;> first | omega | exact hs h),ht]
theorem addTo_ok {c : C4} (h : c.ok) (lo : Nat) : ∀ n,(addTo c lo n).ok
  | 0 => h
  | n + 1 => C4.add_ok (addTo_ok h lo n) (lo + n)
theorem addTo_has {c : C4} (h : c.ok) (lo : Nat) : ∀ n,lo + n ≤ 256 → ∀ i,i < 256 → (addTo c lo n).has i = (c.has i || decide (lo ≤ i ∧ i < lo + n))
  | 0,_,i,_ => by
    have : ¬ (lo ≤ i ∧ i < lo + 0):=by omega
    rw [addTo,decide_eq_false this,Bool.or_false]
  | n + 1,hn,i,hi => by
    rw [addTo,C4.has_add (addTo_ok h lo n) (lo + n) i (by omega) hi,addTo_has h lo n (by omega) i hi,Bool.or_assoc]
    congr 1
    rw [← Bool.decide_or]
    congr 1
    apply propext
    omega
theorem items_runs (p : Nat → Bool) (r : List UInt8) : ∀ (f i F : Nat) (c : C4),c.ok → 256 ≤ f + i → 2 * f < F → ∃ c' : C4,items F c (runsL p f i ++ 93 :: r) = .ok (c',r) ∧ c'.ok ∧ ∀ n,n < 256 → c'.has n = (c.has n || (decide (i ≤ n) && p n))
  | 0,i,F,c,hc,h,hF => by
    obtain ⟨F,rfl⟩ : ∃ g,F = g + 1:=⟨F - 1,by omega⟩
    refine ⟨c,?_,hc,fun n hn => ?_⟩
    · rw [runsL,List.nil_append,items,if_pos (by rfl)]; rfl
    · have : ¬ i ≤ n:=by omega
      simp [this]
  | f + 1,i,F,c,hc,h,hF => by
    rw [runsL]
    by_cases hi : i < 256
    · rw [if_pos hi]
      have hle:=rEnd_le p (256 - i) i
      have hsp:=rEnd_spec p (256 - i) i
      generalize rEnd p (256 - i) i = e at *
      have ih:=fun F' (c : C4) hc hF' => items_runs p r f (e + 1) F' c hc (by omega) hF'
      have hd:=runsL_head p 45 (by decide) (by decide) f (e + 1)
      generalize runsL p f (e + 1) = R at *
      have hdR : (R ++ 93 :: r).head? ≠ some 45:=by
        cases R with
        | nil => simp
        | cons a b => simpa using hd
      have tail : ∀ n,n < 256 → (decide (i ≤ n ∧ n < e) || (decide (e + 1 ≤ n) && p n)) = (decide (i ≤ n) && p n):=by
        intro n hn
        by_cases c1 : i ≤ n ∧ n < e
        · have:=hsp.1 n c1.1 c1.2
          simp [c1,this]
        · by_cases c3 : n = e
          · subst c3
            have:=hsp.2 (by omega)
            simp [this]
          · have : e + 1 ≤ n ↔ i ≤ n:=by omega
            simp only [this,c1,decide_false,Bool.false_or]
      by_cases hg : i < e
      · rw [if_pos hg]
        unfold rt
        by_cases e1 : e - 1 = i
        · rw [if_pos e1]
          obtain ⟨F,rfl⟩ : ∃ g,F = g + 1:=⟨F - 1,by omega⟩
          obtain ⟨c',h1,h2,h3⟩:=ih F (c.add ((i : Nat) : Int)) (C4.add_ok hc i) (by omega)
          refine ⟨c',?_,h2,fun n hn => ?_⟩
          · rw [List.append_assoc,items,if_neg (bt_head i _ 93 (by decide) (by decide)),rd1_bt i hi]
            simp only
            rw [if_neg hdR,h1]
          · rw [h3 n hn,C4.has_add hc i n hi hn,← tail n hn,Bool.or_assoc]
            have : (i ≤ n ∧ n < e) ↔ i = n:=by omega
            simp only [this]
        · rw [if_neg e1]
          by_cases e2 : e - 1 = i + 1
          · rw [if_pos e2]
            obtain ⟨F,rfl⟩ : ∃ g,F = g + 1 + 1:=⟨F - 2,by omega⟩
            obtain ⟨c',h1,h2,h3⟩:=ih F ((c.add ((i : Nat) : Int)).add ((e - 1 : Nat) : Int)) (C4.add_ok (C4.add_ok hc i) (e - 1)) (by omega)
            refine ⟨c',?_,h2,fun n hn => ?_⟩
            · rw [List.append_assoc,List.append_assoc,items,if_neg (bt_head i _ 93 (by decide) (by decide)),rd1_bt i hi]
              simp only
              rw [if_neg (bt_head (e - 1) _ 45 (by decide) (by decide)),items,if_neg (bt_head (e - 1) _ 93 (by decide) (by decide)),rd1_bt (e - 1) (by omega)]
              simp only
              rw [if_neg hdR,h1]
            · rw [h3 n hn,C4.has_add (C4.add_ok hc i) (e - 1) n (by omega) hn,C4.has_add hc i n hi hn,← tail n hn]
              simp only [Bool.or_assoc]
              congr 1
              rw [← Bool.or_assoc]
              congr 1
              have : (i ≤ n ∧ n < e) ↔ (i = n ∨ e - 1 = n):=by omega
              simp only [this,Bool.decide_or]
          · rw [if_neg e2]
            obtain ⟨F,rfl⟩ : ∃ g,F = g + 1:=⟨F - 1,by omega⟩
            obtain ⟨c',h1,h2,h3⟩:=ih F (addTo c i (e - i)) (addTo_ok hc i _) (by omega)
            refine ⟨c',?_,h2,fun n hn => ?_⟩
            · rw [List.append_assoc,List.append_assoc,List.cons_append,items,if_neg (bt_head i _ 93 (by decide) (by decide)),rd1_bt i hi]
              simp only
              rw [if_pos (by rfl),List.tail_cons,rd1_bt (e - 1) (by omega)]
              simp only
              rw [if_neg (by omega),show e - 1 + 1 - i = e - i from by omega,h1]
            · rw [h3 n hn,addTo_has hc i (e - i) (by omega) n hn,← tail n hn,Bool.or_assoc,show i + (e - i) = e from by omega]
      · rw [if_neg hg,List.nil_append]
        obtain ⟨c',h1,h2,h3⟩:=ih F c hc (by omega)
        refine ⟨c',h1,h2,fun n hn => ?_⟩
        rw [h3 n hn,← tail n hn]
        have : ¬ (i ≤ n ∧ n < e):=by omega
        simp [this]
    · rw [if_neg hi]
      obtain ⟨F,rfl⟩ : ∃ g,F = g + 1:=⟨F - 1,by omega⟩
      refine ⟨c,?_,hc,fun n hn => ?_⟩
      · rw [List.nil_append,items,if_pos (by rfl)]; rfl
      · have : ¬ i ≤ n:=by omega
        simp [this]
theorem items_more : ∀ (f g : Nat) (c : C4) (l : List UInt8) (x : C4 × List UInt8),f ≤ g → items f c l = .ok x → items g c l = .ok x
  | 0,g,c,l,x,_,h => by simp [items] at h
  | f + 1,0,c,l,x,hg,h => by omega
  | f + 1,g + 1,c,l,x,hg,h => by
    rw [items] at h ⊢
    split at h
    · rename_i h0; rw [if_pos h0]; exact h
    · rename_i h0
      rw [if_neg h0]
      cases h1 : rd1 l with
      | error e => rw [h1] at h; simp at h
      | ok p =>
        obtain ⟨lo,l1⟩:=p
        rw [h1] at h
        simp only at h ⊢
        split at h
        · rename_i h2
          rw [if_pos h2]
          cases h3 : rd1 l1.tail with
          | error e => rw [h3] at h; simp at h
          | ok p =>
            obtain ⟨hi,l2⟩:=p
            rw [h3] at h
            simp only at h ⊢
            split at h
            · simp at h
            · rename_i h4
              rw [if_neg h4]
              exact items_more f g _ _ _ (by omega) h
        · rename_i h2
          rw [if_neg h2]
          exact items_more f g _ _ _ (by omega) h
theorem items_fuel : ∀ (f g : Nat) (c : C4) (l : List UInt8),l.length < f → f ≤ g → items g c l = items f c l
  | 0,g,c,l,h,_ => by omega
  | f + 1,0,c,l,h,hg => by omega
  | f + 1,g + 1,c,l,h,hg => by
    rw [items,items]
    split
    · rfl
    · cases h1 : rd1 l with
      | error e => rfl
      | ok p =>
        obtain ⟨lo,l1⟩:=p
        have g1:=(rd1_len l lo l1 h1).1
        simp only
        split
        · rename_i h2
          have g2:=(tail_len l1 _ h2).2
          cases h3 : rd1 l1.tail with
          | error e => rfl
          | ok p =>
            obtain ⟨hi,l2⟩:=p
            have g3:=(rd1_len _ _ _ h3).1
            simp only
            split
            · rfl
            · exact items_fuel f g _ _ (by omega) (by omega)
        · exact items_fuel f g _ _ (by omega) (by omega)
theorem single_class {k : C4} (hk : k.ok) (h : (k.many 4 == 1) = true) : ∃ b,b < 256 ∧ runs256 k = bt b ∧ k = z4.add ((b : Nat) : Int):=by
  rw [many_cnt hk] at h
  have hc : cnt k.has 256 = 1:=by
    have:=eq_of_beq h
    omega
  have ⟨i,hi,hp⟩ : ∃ i,i < 256 ∧ k.has i = true:=by
    by_cases e : ∃ i,i < 256 ∧ k.has i = true
    · exact e
    · exfalso
      have : cnt k.has 256 = cnt (fun _ => false) 256:=by
        apply cnt_congr
        intro i hi
        cases hp : k.has i
        · rfl
        · exact absurd ⟨i,hi,hp⟩ e
      have h0 : ∀ n,cnt (fun _ => false) n = 0:=by
        intro n
        induction n with
        | zero => rfl
        | succ n ih => rw [cnt,ih]; rfl
      rw [this,h0] at hc
      omega
  have hu : k = z4.add ((i : Nat) : Int):=by
    apply C4.ext_has hk (C4.add_ok z4_ok i)
    intro j hj
    rw [C4.has_add z4_ok i j hi hj,z4_has,Bool.false_or]
    cases hj2 : k.has j
    · symm
      rw [decide_eq_false_iff_not]
      rintro rfl
      rw [hp] at hj2; cases hj2
    · symm
      rw [decide_eq_true_iff]
      exact cnt_one k.has 256 i j hc hi hj hp hj2
  refine ⟨i,hi,?_,hu⟩
  have hz : ∀ j,j ≤ i → runsL k.has 256 0 = runsL k.has (256 - j) j:=by
    intro j
    induction j with
    | zero => intro _; rfl
    | succ j ih =>
      intro hj
      have hn : k.has j = false:=by
        cases hj2 : k.has j
        · rfl
        · have:=cnt_one k.has 256 i j hc hi (by omega) hp hj2
          omega
      rw [ih (by omega),show 256 - j = (256 - (j + 1)) + 1 from by omega,runsL_no k.has _ j (by omega) hn]
  rw [runs256,C4.p_eq k hk,hz i (Nat.le_refl _),show 256 - i = (255 - i) + 1 from by omega,one_run k.has _ i hi hc hp]
theorem base_text {k : C4} (hk : k.ok) (r : List UInt8) : base (textL k ++ r) = .ok (⟨1,k⟩,r):=by
  by_cases hd : k.eqb dotC = true
  · rw [textL_dot k hd,(C4.eqb_iff _ _).1 hd]
    rfl
  · have hd2 : k.eqb dotC = false:=Bool.eq_false_iff.2 hd
    cases h1 : (k.many 4 == 1)
    · rw [textL_more k hd2 h1]
      have hh : (runs256 k ++ 93 :: r).head? ≠ some 94:=by
        have:=runs256_head k 94 (by decide) (by decide)
        cases hr : runs256 k with
        | nil => simp
        | cons a b => rw [hr] at this; simpa using this
      obtain ⟨c',i1,i2,i3⟩:=items_runs k.p r 256 0 513 z4 z4_ok (by omega) (by omega)
      have e : c' = k:=by
        apply C4.ext_has i2 hk
        intro n hn
        rw [i3 n hn,z4_has,C4.p_eq k hk]
        simp
      have ei : items ((runs256 k ++ 93 :: r).length + 1) z4 (runs256 k ++ 93 :: r) = .ok (k,r):=by
        rw [e] at i1
        rcases Nat.le_total 513 ((runs256 k ++ 93 :: r).length + 1) with h | h
        · exact items_more 513 _ _ _ _ h i1
        · rw [← items_fuel ((runs256 k ++ 93 :: r).length + 1) 513 z4 _ (by omega) h]
          exact i1
      have e2 : 91 :: (runs256 k ++ [93]) ++ r = 91 :: (runs256 k ++ 93 :: r):=by simp
      rw [e2,base,if_pos (by rfl),List.tail_cons,bracket,if_neg hh,ei]
    · rw [textL_one k hd2 h1]
      obtain ⟨b,hb,e1,e2⟩:=single_class hk h1
      rw [e1,base,if_neg (bt_head b r 91 (by decide) (by decide)),if_neg (bt_head b r 46 (by decide) (by decide)),if_neg (bt_head b r 94 (by decide) (by decide)),if_neg (bt_head b r 36 (by decide) (by decide)),rd1_bt b hb]
      show Except.ok ((⟨1,z4.add ((b : Nat) : Int)⟩ : Nd),r) = _
      rw [← e2]
def Nd.good (n : Nd) : Prop:=(1 ≤ n.op ∧ n.op ≤ 9) ∧ (n.op = 1 ∨ n.c = z4) ∧ n.c.ok
def Rx.Good : Rx → Prop
  | .leaf n => prt n.op = 0 ∧ n.good
  | .one n a => prt n.op = 1 ∧ n.good ∧ a.Good
  | .two n a b => prt n.op = 2 ∧ n.good ∧ a.Good ∧ b.Good
def Rx.sides : Rx → List Rx
  | .leaf n => [.leaf n]
  | .one n a => [.one n a]
  | .two n a b => if n.op = 4 then a :: b.sides else [.two n a b]
def Rx.atoms : Rx → List Rx
  | .leaf n => if n.op = 2 then [] else [.leaf n]
  | .one n a => [.one n a]
  | .two n a b => if n.op = 3 then a :: (if b.top.op = 3 then b.atoms else [b]) else [.two n a b]
theorem nd_eq {n : Nd} (h : n.good) (k : Int) (hk : n.op = k) (h1 : k ≠ 1) : n = ⟨k,z4⟩:=by
  obtain ⟨op,c⟩:=n
  simp only at hk
  subst hk
  rcases h.2.1 with h | h
  · exact absurd h h1
  · simp only at h; rw [h]
theorem two_op {n : Nd} (h : prt n.op = 2) : n.op = 3 ∨ n.op = 4:=(prt_two n.op).1 h
theorem sides_ne (t : Rx) : ∃ x r,t.sides = x :: r:=by
  cases t with
  | leaf n => exact ⟨_,_,rfl⟩
  | one n a => exact ⟨_,_,rfl⟩
  | two n a b =>
    unfold Rx.sides
    split
    · exact ⟨_,_,rfl⟩
    · exact ⟨_,_,rfl⟩
theorem ors_sides : ∀ (t : Rx),t.Good → ors t.sides = t
  | .leaf n,_ => rfl
  | .one n a,_ => rfl
  | .two n a b,h => by
    unfold Rx.sides
    split
    · rename_i h4
      have ih:=ors_sides b h.2.2.2
      obtain ⟨x,r,e⟩:=sides_ne b
      rw [e] at ih ⊢
      rw [ors,ih,nd_eq h.2.1 4 h4 (by decide)]
    · rfl
theorem atoms_ne (t : Rx) (h : t.top.op = 3) : ∃ x r,t.atoms = x :: r:=by
  cases t with
  | leaf n =>
    have h : n.op = 3:=h
    unfold Rx.atoms
    rw [if_neg (by omega)]
    exact ⟨_,_,rfl⟩
  | one n a => exact ⟨_,_,rfl⟩
  | two n a b =>
    unfold Rx.atoms
    split
    · exact ⟨_,_,rfl⟩
    · exact ⟨_,_,rfl⟩
theorem cats_atoms : ∀ (t : Rx),t.Good → cats t.atoms = t
  | .leaf n,h => by
    unfold Rx.atoms
    split
    · rename_i h2
      rw [cats,nd_eq h.2 2 h2 (by decide)]
    · rfl
  | .one n a,_ => rfl
  | .two n a b,h => by
    unfold Rx.atoms
    split
    · rename_i h3
      split
      · rename_i hb
        have ih:=cats_atoms b h.2.2.2
        obtain ⟨x,r,e⟩:=atoms_ne b hb
        rw [e] at ih ⊢
        rw [cats,ih,nd_eq h.2.1 3 h3 (by decide)]
      · rw [cats,cats,nd_eq h.2.1 3 h3 (by decide)]
    · rfl
def noHead (c : UInt8) : Prop:=c = 42 ∨ c = 43 ∨ c = 63 ∨ c = 124 ∨ c = 41
theorem noHead_sign {c : UInt8} (h : noHead c) : c ∈ signL ∧ c ≠ 92 ∧ c ≠ 46 ∧ c ≠ 91 ∧ c ≠ 40 ∧ c ≠ 94 ∧ c ≠ 36:=by
  rcases h with rfl | rfl | rfl | rfl | rfl <;> decide
theorem textL_head (k : C4) (hk : k.ok) (r : List UInt8) : ∃ c l,textL k ++ r = c :: l ∧ ¬ noHead c ∧ c ≠ 40:=by
  by_cases hd : k.eqb dotC = true
  · exact ⟨46,r,by rw [textL_dot k hd]; rfl,fun h => (noHead_sign h).2.2.1 rfl,by decide⟩
  · have hd2 : k.eqb dotC = false:=Bool.eq_false_iff.2 hd
    cases h1 : (k.many 4 == 1)
    · exact ⟨91,runs256 k ++ [93] ++ r,by rw [textL_more k hd2 h1]; rfl,fun h => (noHead_sign h).2.2.2.1 rfl,by decide⟩
    · obtain ⟨b,hb,e1,e2⟩:=single_class hk h1
      rw [textL_one k hd2 h1,e1]
      cases he : bt b ++ r with
      | nil =>
        have : bt b = []:=(List.append_eq_nil_iff.1 he).1
        unfold bt at this
        split at this
        · cases this
        · split at this <;> cases this
      | cons c l =>
        refine ⟨c,l,rfl,fun h => ?_,?_⟩
        · obtain ⟨h1,h2,_⟩:=noHead_sign h
          exact bt_head b r c h1 h2 (by rw [he]; rfl)
        · rintro rfl
          exact bt_head b r 40 (by decide) (by decide) (by rw [he]; rfl)
theorem brT_true (s r : List UInt8) : brT true s ++ r = 40 :: (s ++ 41 :: r):=by simp [brT]
theorem brT_false (s : List UInt8) : brT false s = s:=rfl
theorem brk_unit (p op : Int) (s : Bool) (h2 : op ≠ 2) (h3 : op ≠ 3) (h4 : op ≠ 4) : brk p op s = false:=by
  unfold brk
  rw [if_neg h2,if_neg h4,if_neg h3]
theorem brk_post (p op : Int) (hp : p = 5 ∨ p = 6 ∨ p = 7) (h : op = 2 ∨ op = 3 ∨ op = 4) : brk p op false = true:=by
  rcases hp with rfl | rfl | rfl <;> rcases h with rfl | rfl | rfl <;> rfl
theorem brk_cat1 (op : Int) (h : op = 2 ∨ op = 3 ∨ op = 4) : brk 3 op false = true:=by
  rcases h with rfl | rfl | rfl <;> rfl
theorem unit_cases (t : Rx) : (t.top.op = 2 ∨ t.top.op = 3 ∨ t.top.op = 4) ∨ (t.top.op ≠ 2 ∧ t.top.op ≠ 3 ∧ t.top.op ≠ 4):=by
  by_cases h2 : t.top.op = 2
  · exact Or.inl (Or.inl h2)
  · by_cases h3 : t.top.op = 3
    · exact Or.inl (Or.inr (Or.inl h3))
    · by_cases h4 : t.top.op = 4
      · exact Or.inl (Or.inr (Or.inr h4))
      · exact Or.inr ⟨h2,h3,h4⟩
def HeadOk (s : List UInt8) : Prop:=∀ r,∃ c l,s ++ r = c :: l ∧ ¬ noHead c
theorem headOk_br (s : List UInt8) : HeadOk (brT true s):=fun r => ⟨40,_,brT_true s r,fun h => (noHead_sign h).2.2.2.2.1 rfl⟩
theorem headOk_app {s : List UInt8} (h : HeadOk s) (q : List UInt8) : HeadOk (s ++ q):=fun r => by rw [List.append_assoc]; exact h (q ++ r)
theorem txt_head : ∀ (t : Rx),t.Good → t.top.op ≠ 2 → t.top.op ≠ 4 → HeadOk t.txt
  | .leaf n,h,h2,h4 => by
    intro r
    have h2 : n.op ≠ 2:=h2
    have h4 : n.op ≠ 4:=h4
    have h0:=h.1
    have hop : n.op = 1 ∨ n.op = 8 ∨ n.op = 9:=by
      have:=h.2.1
      have e3 : n.op ≠ 3:=by intro e; rw [e] at h0; simp [prt] at h0
      have e5 : n.op ≠ 5:=by intro e; rw [e] at h0; simp [prt] at h0
      have e6 : n.op ≠ 6:=by intro e; rw [e] at h0; simp [prt] at h0
      have e7 : n.op ≠ 7:=by intro e; rw [e] at h0; simp [prt] at h0
      omega
    unfold Rx.txt
    rcases hop with h1 | h1 | h1
    · rw [if_pos h1]
      obtain ⟨c,l,e,hc,_⟩:=textL_head n.c h.2.2.2 r
      exact ⟨c,l,e,hc⟩
    · rw [if_neg (by omega),if_pos h1]
      exact ⟨94,r,rfl,fun h => (noHead_sign h).2.2.2.2.2.1 rfl⟩
    · rw [if_neg (by omega),if_neg (by omega),if_pos h1]
      exact ⟨36,r,rfl,fun h => (noHead_sign h).2.2.2.2.2.2 rfl⟩
  | .one n a,h,_,_ => by
    unfold Rx.txt
    apply headOk_app
    have hp:=(prt_one n.op).1 h.1
    rcases unit_cases a with hu | ⟨u2,u3,u4⟩
    · rw [brk_post _ _ hp hu]; exact headOk_br _
    · rw [brk_unit _ _ _ u2 u3 u4,brT_false]
      exact txt_head a h.2.2 u2 u4
  | .two n a b,h,_,h4 => by
    have h4 : n.op ≠ 4:=h4
    have h3 : n.op = 3:=by rcases two_op h.1 with h | h <;> omega
    unfold Rx.txt
    apply headOk_app
    rw [h3]
    rcases unit_cases a with hu | ⟨u2,u3,u4⟩
    · rw [brk_cat1 _ hu]; exact headOk_br _
    · rw [brk_unit _ _ _ u2 u3 u4,brT_false]
      exact txt_head a h.2.2.1 u2 u4
theorem posts_no (t : Rx) (l : List UInt8) (h : ∀ c,l.head? = some c → noHead c → c = 124 ∨ c = 41) : posts t l = (t,l):=by
  cases l with
  | nil => rfl
  | cons c r =>
    have hc:=h c rfl
    have e1 : c ≠ 42:=by rintro rfl; rcases hc (Or.inl rfl) with h | h <;> exact absurd h (by decide)
    have e2 : c ≠ 43:=by rintro rfl; rcases hc (Or.inr (Or.inl rfl)) with h | h <;> exact absurd h (by decide)
    have e3 : c ≠ 63:=by rintro rfl; rcases hc (Or.inr (Or.inr (Or.inl rfl))) with h | h <;> exact absurd h (by decide)
    rw [posts,if_neg e1,if_neg e2,if_neg e3]
theorem posts_stp (t : Rx) (l : List UInt8) (h : stp l = true) : posts t l = (t,l):=by
  apply posts_no
  intro c hc _
  cases l with
  | nil => cases hc
  | cons d r =>
    simp at hc
    subst hc
    simpa [stp] using h
theorem stp_head {s : List UInt8} (h : HeadOk s) (r : List UInt8) : stp (s ++ r) = false:=by
  obtain ⟨c,l,e,hc⟩:=h r
  rw [e]
  simp only [stp,Bool.or_eq_false_iff,beq_eq_false_iff_ne]
  exact ⟨fun h => hc (Or.inr (Or.inr (Or.inr (Or.inl h)))),fun h => hc (Or.inr (Or.inr (Or.inr (Or.inr h))))⟩
theorem posts_head {s : List UInt8} (h : HeadOk s) (t : Rx) (r : List UInt8) : posts t (s ++ r) = (t,s ++ r):=by
  apply posts_no
  intro c hc hn
  obtain ⟨d,l,e,hd⟩:=h r
  rw [e] at hc
  simp at hc
  subst hc
  exact absurd hn hd
structure Reads (t : Rx) : Prop where
  atom : t.top.op ≠ 2 → t.top.op ≠ 3 → t.top.op ≠ 4 → ∀ r,Atom (t.txt ++ r) (.ok (posts t r))
  seq : t.top.op ≠ 4 → ∀ r,stp r = true → Seq (t.txt ++ r) (.ok (t.atoms,r))
  alt : ∀ r,stp r = true → r.head? ≠ some 124 → Alt (t.txt ++ r) (.ok (t.sides,r))
theorem Reads.inBr {t : Rx} (h : Reads t) (hg : t.Good) (r : List UInt8) : Atom (brT true t.txt ++ r) (.ok (posts t r)):=by
  rw [brT_true]
  have:=Atom.inOk _ _ r (h.alt (41 :: r) (by simp [stp]) (by simp))
  rw [ors_sides t hg] at this
  exact this
theorem Reads.part {t : Rx} (h : Reads t) (hg : t.Good) (p : Int) (s : Bool) (hb : brk p t.top.op s = true ∨ (t.top.op ≠ 2 ∧ t.top.op ≠ 3 ∧ t.top.op ≠ 4)) (r : List UInt8) : Atom (brT (brk p t.top.op s) t.txt ++ r) (.ok (posts t r)):=by
  rcases hb with hb | ⟨h2,h3,h4⟩
  · rw [hb]; exact h.inBr hg r
  · rw [brk_unit _ _ _ h2 h3 h4,brT_false]; exact h.atom h2 h3 h4 r
theorem part_head {t : Rx} (hg : t.Good) (p : Int) (s : Bool) (hb : brk p t.top.op s = true ∨ (t.top.op ≠ 2 ∧ t.top.op ≠ 4)) : HeadOk (brT (brk p t.top.op s) t.txt):=by
  rcases hb with hb | ⟨h2,h4⟩
  · rw [hb]; exact headOk_br _
  · cases hx : brk p t.top.op s
    · rw [brT_false]; exact txt_head t hg h2 h4
    · exact headOk_br _
theorem reads_unit (t : Rx) (hg : t.Good) (h2 : t.top.op ≠ 2) (h3 : t.top.op ≠ 3) (h4 : t.top.op ≠ 4) (ha : t.atoms = [t]) (hs : t.sides = [t]) (h : ∀ r,Atom (t.txt ++ r) (.ok (posts t r))) : Reads t:=by
  have hseq : ∀ r,stp r = true → Seq (t.txt ++ r) (.ok ([t],r)):=by
    intro r hr
    have h1:=h r
    rw [posts_stp t r hr] at h1
    exact Seq.more _ t r [] r (stp_head (txt_head t hg h2 h4) r) h1 (Seq.stop r hr)
  refine ⟨fun _ _ _ => h,fun _ r hr => ?_,fun r hr hr2 => ?_⟩
  · rw [ha]; exact hseq r hr
  · rw [hs]
    have:=Alt.last _ _ _ (hseq r hr) hr2
    exact this
theorem reads : ∀ (t : Rx),t.Good → Reads t
  | .leaf n,hg => by
    have h0:=hg.1
    have hop : n.op = 1 ∨ n.op = 2 ∨ n.op = 8 ∨ n.op = 9:=by
      have:=hg.2.1
      have e3 : n.op ≠ 3:=by intro e; rw [e] at h0; simp [prt] at h0
      have e4 : n.op ≠ 4:=by intro e; rw [e] at h0; simp [prt] at h0
      have e5 : n.op ≠ 5:=by intro e; rw [e] at h0; simp [prt] at h0
      have e6 : n.op ≠ 6:=by intro e; rw [e] at h0; simp [prt] at h0
      have e7 : n.op ≠ 7:=by intro e; rw [e] at h0; simp [prt] at h0
      omega
    by_cases h2 : n.op = 2
    · have ht : (Rx.leaf n).txt = []:=by
        unfold Rx.txt
        rw [if_neg (by omega),if_neg (by omega),if_neg (by omega)]
      have ha : (Rx.leaf n).atoms = []:=by unfold Rx.atoms; rw [if_pos h2]
      refine ⟨fun h => absurd h2 h,fun _ r hr => ?_,fun r hr hr2 => ?_⟩
      · rw [ht,ha]; exact Seq.stop r hr
      · rw [ht]
        have:=Alt.last r [] r (Seq.stop r hr) hr2
        rw [cats,← nd_eq hg.2 2 h2 (by decide)] at this
        exact this
    · refine reads_unit (.leaf n) hg h2 (by show n.op ≠ 3; omega) (by show n.op ≠ 4; omega) (by unfold Rx.atoms; rw [if_neg h2]) rfl ?_
      intro r
      have hb : base ((Rx.leaf n).txt ++ r) = .ok (n,r) ∧ ((Rx.leaf n).txt ++ r).head? ≠ some 40:=by
        unfold Rx.txt
        rcases hop with h1 | h1 | h1 | h1
        · rw [if_pos h1]
          obtain ⟨c,l,e,_,hc⟩:=textL_head n.c hg.2.2.2 r
          refine ⟨?_,by rw [e]; simpa using hc⟩
          rw [base_text hg.2.2.2]
          obtain ⟨op,c⟩:=n
          simp only at h1
          subst h1
          rfl
        · exact absurd h1 h2
        · rw [if_neg (by omega),if_pos h1]
          rw [nd_eq hg.2 8 h1 (by decide)]
          exact ⟨rfl,by simp⟩
        · rw [if_neg (by omega),if_neg (by omega),if_pos h1]
          rw [nd_eq hg.2 9 h1 (by decide)]
          exact ⟨rfl,by simp⟩
      exact Atom.ok _ n r hb.2 hb.1
  | .one n a,hg => by
    have hp:=(prt_one n.op).1 hg.1
    refine reads_unit (.one n a) hg (by show n.op ≠ 2; omega) (by show n.op ≠ 3; omega) (by show n.op ≠ 4; omega) rfl rfl ?_
    intro r
    have ih:=reads a hg.2.2
    have hb : brk n.op a.top.op false = true ∨ (a.top.op ≠ 2 ∧ a.top.op ≠ 3 ∧ a.top.op ≠ 4):=by
      rcases unit_cases a with hu | hu
      · exact Or.inl (brk_post _ _ hp hu)
      · exact Or.inr hu
    have:=ih.part hg.2.2 n.op false hb (signT n.op :: r)
    have e : (Rx.one n a).txt ++ r = brT (brk n.op a.top.op false) a.txt ++ signT n.op :: r:=by simp [Rx.txt]
    rw [e]
    have e2 : posts a (signT n.op :: r) = posts (.one n a) r:=by
      rcases hp with h | h | h
      · rw [nd_eq hg.2.1 5 h (by decide)]; rfl
      · rw [nd_eq hg.2.1 6 h (by decide)]; rfl
      · rw [nd_eq hg.2.1 7 h (by decide)]; rfl
    rw [← e2]
    exact this
  | .two n a b,hg => by
    have iha:=reads a hg.2.2.1
    have ihb:=reads b hg.2.2.2
    by_cases h3 : n.op = 3
    · have h4 : n.op ≠ 4:=by omega
      have hseq : ∀ r,stp r = true → Seq ((Rx.two n a b).txt ++ r) (.ok ((Rx.two n a b).atoms,r)):=by
        intro r hr
        have hba : brk 3 a.top.op false = true ∨ (a.top.op ≠ 2 ∧ a.top.op ≠ 3 ∧ a.top.op ≠ 4):=by
          rcases unit_cases a with hu | hu
          · exact Or.inl (brk_cat1 _ hu)
          · exact Or.inr hu
        have hba2 : brk 3 a.top.op false = true ∨ (a.top.op ≠ 2 ∧ a.top.op ≠ 4):=by
          rcases hba with h | h
          · exact Or.inl h
          · exact Or.inr ⟨h.1,h.2.2⟩
        have hbb : brk 3 b.top.op true = true ∨ (b.top.op ≠ 2 ∧ b.top.op ≠ 4):=by
          rcases unit_cases b with (h | h | h) | h
          · rw [h]; exact Or.inl rfl
          · exact Or.inr ⟨by omega,by omega⟩
          · rw [h]; exact Or.inl rfl
          · exact Or.inr ⟨h.1,h.2.2⟩
        have hhb:=part_head hg.2.2.2 3 true hbb
        have e : (Rx.two n a b).txt ++ r = brT (brk 3 a.top.op false) a.txt ++ (brT (brk 3 b.top.op true) b.txt ++ r):=by
          simp [Rx.txt,h3]
        have h1:=iha.part hg.2.2.1 3 false hba (brT (brk 3 b.top.op true) b.txt ++ r)
        rw [posts_head hhb] at h1
        have h2 : Seq (brT (brk 3 b.top.op true) b.txt ++ r) (.ok (if b.top.op = 3 then b.atoms else [b],r)):=by
          by_cases hb3 : b.top.op = 3
          · rw [if_pos hb3,hb3]
            rw [show brk 3 3 true = false from rfl,brT_false]
            exact ihb.seq (by omega) r hr
          · rw [if_neg hb3]
            have hbu : brk 3 b.top.op true = true ∨ (b.top.op ≠ 2 ∧ b.top.op ≠ 3 ∧ b.top.op ≠ 4):=by
              rcases hbb with h | h
              · exact Or.inl h
              · exact Or.inr ⟨h.1,hb3,h.2⟩
            have:=ihb.part hg.2.2.2 3 true hbu r
            rw [posts_stp b r hr] at this
            exact Seq.more _ b r [] r (stp_head hhb r) this (Seq.stop r hr)
        rw [e]
        have ea : (Rx.two n a b).atoms = a :: (if b.top.op = 3 then b.atoms else [b]):=by
          unfold Rx.atoms
          rw [if_pos h3]
          cases b <;> rfl
        rw [ea]
        exact Seq.more _ a _ _ r (stp_head (part_head hg.2.2.1 3 false hba2) _) h1 h2
      refine ⟨fun _ h => absurd h3 h,fun _ => hseq,fun r hr hr2 => ?_⟩
      have:=Alt.last _ _ _ (hseq r hr) hr2
      rw [cats_atoms _ hg] at this
      have es : (Rx.two n a b).sides = [.two n a b]:=by unfold Rx.sides; rw [if_neg h4]
      rw [es]
      exact this
    · have h4 : n.op = 4:=by rcases two_op hg.1 with h | h <;> omega
      refine ⟨fun _ _ h => absurd h4 h,fun h => absurd h4 h,fun r hr hr2 => ?_⟩
      have es : (Rx.two n a b).sides = a :: b.sides:=by
        unfold Rx.sides
        rw [if_pos h4]
        cases b <;> rfl
      have hbf : brk 4 b.top.op true = false:=by
        rcases unit_cases b with (h | h | h) | h
        · rw [h]; rfl
        · rw [h]; rfl
        · rw [h]; rfl
        · exact brk_unit _ _ _ h.1 h.2.1 h.2.2
      have e : (Rx.two n a b).txt ++ r = brT (brk 4 a.top.op false) a.txt ++ (124 :: (b.txt ++ r)):=by
        simp [Rx.txt,h4,hbf,brT_false]
      have hb:=ihb.alt r hr hr2
      rw [e,es]
      by_cases ha4 : a.top.op = 4
      · have hbr : brk 4 a.top.op false = true:=by rw [ha4]; rfl
        rw [hbr]
        have h1:=iha.inBr hg.2.2.1 (124 :: (b.txt ++ r))
        rw [posts_stp a _ (by simp [stp])] at h1
        have h2:=Seq.more _ a _ [] _ (stp_head (headOk_br a.txt) _) h1 (Seq.stop (124 :: (b.txt ++ r)) (by simp [stp]))
        exact Alt.more _ [a] _ _ r h2 hb
      · have hbr : brk 4 a.top.op false = false:=by
          rcases unit_cases a with (h | h | h) | h
          · rw [h]; rfl
          · rw [h]; rfl
          · exact absurd h ha4
          · exact brk_unit _ _ _ h.1 h.2.1 h.2.2
        rw [hbr,brT_false]
        have h2:=iha.seq ha4 (124 :: (b.txt ++ r)) (by simp [stp])
        have:=Alt.more _ _ _ _ r h2 hb
        rw [cats_atoms a hg.2.2.1] at this
        exact this
def catL : List (List Nd) → List Nd
  | [] => [⟨2,z4⟩]
  | [x] => x
  | x :: y :: r => ⟨3,z4⟩ :: (x ++ catL (y :: r))
def orL : List (List Nd) → List Nd
  | [] => []
  | [x] => x
  | x :: y :: r => ⟨4,z4⟩ :: (x ++ orL (y :: r))
theorem cats_flat : ∀ xs : List Rx,(cats xs).flat = catL (xs.map Rx.flat)
  | [] => rfl
  | [x] => rfl
  | x :: y :: r => by
    have:=cats_flat (y :: r)
    simp only [List.map_cons] at this ⊢
    rw [cats,Rx.flat,this,catL]
theorem ors_flat : ∀ ss : List Rx,ss ≠ [] → (ors ss).flat = orL (ss.map Rx.flat)
  | [],h => absurd rfl h
  | [x],_ => rfl
  | x :: y :: r,_ => by
    have:=ors_flat (y :: r) (by simp)
    simp only [List.map_cons] at this ⊢
    rw [ors,Rx.flat,this,orL]
def szL : List (List Nd) → Nat
  | [] => 0
  | x :: r => x.length + szL r
theorem szL_app : ∀ (x y : List (List Nd)),szL (x ++ y) = szL x + szL y
  | [],y => by simp [szL]
  | a :: r,y => by simp [szL,szL_app r y]; omega
theorem catL_len : ∀ xs : List (List Nd),(catL xs).length ≤ szL xs + xs.length + 1
  | [] => by simp [catL,szL]
  | [x] => by simp [catL,szL]; omega
  | x :: y :: r => by
    have:=catL_len (y :: r)
    simp [catL,szL] at this ⊢; omega
theorem catL_len1 : ∀ xs : List (List Nd),xs ≠ [] → (catL xs).length + 1 ≤ szL xs + xs.length
  | [],h => absurd rfl h
  | [x],_ => by simp [catL,szL]
  | x :: y :: r,_ => by
    have:=catL_len1 (y :: r) (by simp)
    simp [catL,szL] at this ⊢; omega
theorem orL_len : ∀ xs : List (List Nd),(orL xs).length ≤ szL xs + xs.length
  | [] => by simp [orL,szL]
  | [x] => by simp [orL,szL]
  | x :: y :: r => by
    have:=orL_len (y :: r)
    simp [orL,szL] at this ⊢; omega
theorem szL_drop : ∀ (xs : List (List Nd)) (i : Nat),szL (xs.drop i) ≤ szL xs
  | xs,0 => by simp
  | [],i + 1 => by simp
  | x :: r,i + 1 => by
    have:=szL_drop r i
    simp [szL]; omega
theorem posts_size : ∀ (l : List UInt8) (t : Rx),(posts t l).1.flat.length + (posts t l).2.length = t.flat.length + l.length
  | [],t => by simp [posts]
  | c :: r,t => by
    rw [posts]
    split
    · have:=posts_size r (.one ⟨5,z4⟩ t); simp [Rx.flat] at this ⊢; omega
    · split
      · have:=posts_size r (.one ⟨6,z4⟩ t); simp [Rx.flat] at this ⊢; omega
      · split
        · have:=posts_size r (.one ⟨7,z4⟩ t); simp [Rx.flat] at this ⊢; omega
        · simp
theorem alt_ne (l : List UInt8) (ss : List Rx) (l1 : List UInt8) (h : Alt l (.ok (ss,l1))) : ss ≠ []:=by
  cases h with
  | last => simp
  | more => simp
theorem sizes : ∀ (n : Nat) (l : List UInt8),l.length ≤ n → (∀ x l1,Atom l (.ok (x,l1)) → x.flat.length + 1 + 2 * l1.length ≤ 2 * l.length) ∧ (∀ xs l1,Seq l (.ok (xs,l1)) → szL (xs.map Rx.flat) + xs.length + 2 * l1.length ≤ 2 * l.length) ∧ (∀ ss l1,Alt l (.ok (ss,l1)) → szL (ss.map Rx.flat) + ss.length + 2 * l1.length ≤ 2 * l.length + 2)
  | n,l,hn => by
    have hA : ∀ x l1,Atom l (.ok (x,l1)) → x.flat.length + 1 + 2 * l1.length ≤ 2 * l.length:=by
      intro x l1 h
      generalize hr : (Except.ok (x,l1) : Except Nat (Rx × List UInt8)) = r at h
      cases h with
      | bad => cases hr
      | ok _ m l2 h1 h2 =>
        have g:=base_len _ _ _ h2
        have p:=posts_size l2 (.leaf m)
        have q:=posts_len l2 (.leaf m)
        injection hr with hr
        rw [← hr] at p q
        simp [Rx.flat] at p q ⊢
        omega
      | inBad => cases hr
      | inOpen => cases hr
      | inOk l0 ss l2 h1 =>
        cases n with
        | zero => simp at hn
        | succ n =>
          have g:=(sizes n l0 (by simp at hn; omega)).2.2 ss _ h1
          have p:=posts_size l2 (ors ss)
          have q:=posts_len l2 (ors ss)
          have hne:=alt_ne _ _ _ h1
          have o:=ors_flat ss hne
          have ol:=orL_len (ss.map Rx.flat)
          injection hr with hr
          rw [← hr] at p q
          rw [o] at p
          simp at p q g ol ⊢
          omega
    have hS : ∀ xs l1,Seq l (.ok (xs,l1)) → szL (xs.map Rx.flat) + xs.length + 2 * l1.length ≤ 2 * l.length:=by
      intro xs l1 h
      cases h with
      | stop => simp [szL]
      | more _ x l2 xs _ h1 h2 h3 =>
        have g:=hA x l2 h2
        have fp:=x.flat_pos
        cases n with
        | zero => omega
        | succ n =>
          have g2:=(sizes n l2 (by omega)).2.1 xs l1 h3
          simp [szL] at g2 ⊢
          omega
    refine ⟨hA,hS,?_⟩
    intro ss l1 h
    cases h with
    | last _ xs _ h1 h2 =>
      have g:=hS xs l1 h1
      have c:=catL_len (xs.map Rx.flat)
      simp [szL,cats_flat] at g c ⊢
      omega
    | more _ xs l2 ss _ h1 h2 =>
      have g:=hS xs _ h1
      have c:=catL_len (xs.map Rx.flat)
      simp at g
      cases n with
      | zero => omega
      | succ n =>
        have g2:=(sizes n l2 (by omega)).2.2 ss l1 h2
        simp [szL,cats_flat] at g g2 c ⊢
        omega

theorem items_ok : ∀ (f : Nat) (c : C4) (l : List UInt8) (k : C4) (r : List UInt8),c.ok → items f c l = .ok (k,r) → k.ok
  | 0,c,l,k,r,hc,h => by simp [items] at h
  | f + 1,c,l,k,r,hc,h => by
    rw [items] at h
    split at h
    · injection h with h
      injection h with h1 _
      rw [← h1]; exact hc
    · cases h1 : rd1 l with
      | error e => rw [h1] at h; simp at h
      | ok p =>
        obtain ⟨lo,l1⟩:=p
        rw [h1] at h
        simp only at h
        split at h
        · cases h3 : rd1 l1.tail with
          | error e => rw [h3] at h; simp at h
          | ok p =>
            obtain ⟨hi,l2⟩:=p
            rw [h3] at h
            simp only at h
            split at h
            · simp at h
            · exact items_ok f _ _ _ _ (addTo_ok hc _ _) h
        · exact items_ok f _ _ _ _ (C4.add_ok hc _) h
theorem bracket_ok (l : List UInt8) (k : C4) (r : List UInt8) (h : bracket l = .ok (k,r)) : k.ok:=by
  unfold bracket at h
  split at h
  · cases h1 : items l.length z4 l.tail with
    | error e => rw [h1] at h; simp at h
    | ok p =>
      obtain ⟨c,r'⟩:=p
      rw [h1] at h
      injection h with h
      injection h with h2 _
      rw [← h2]
      exact C4.not_ok (items_ok _ _ _ _ _ z4_ok h1)
  · exact items_ok _ _ _ _ _ z4_ok h
theorem leaf_byte {k : C4} (hk : k.ok) : (Rx.leaf ⟨1,k⟩).Good:=⟨rfl,⟨Int.le_refl 1,(by decide : (1 : Int) ≤ 9)⟩,Or.inl rfl,hk⟩
theorem base_good (l : List UInt8) (n : Nd) (r : List UInt8) (h : base l = .ok (n,r)) : (Rx.leaf n).Good:=by
  unfold base at h
  split at h
  · cases h1 : bracket l.tail with
    | error e => rw [h1] at h; simp at h
    | ok p =>
      obtain ⟨c,r'⟩:=p
      rw [h1] at h
      injection h with h
      injection h with h2 _
      rw [← h2]
      exact leaf_byte (bracket_ok _ _ _ h1)
  · split at h
    · injection h with h
      injection h with h2 _
      rw [← h2]
      exact leaf_byte dotC_ok
    · split at h
      · injection h with h
        injection h with h2 _
        rw [← h2]
        exact ⟨rfl,⟨by decide,by decide⟩,Or.inr rfl,z4_ok⟩
      · split at h
        · injection h with h
          injection h with h2 _
          rw [← h2]
          exact ⟨rfl,⟨by decide,by decide⟩,Or.inr rfl,z4_ok⟩
        · cases h1 : rd1 l with
          | error e => rw [h1] at h; simp at h
          | ok p =>
            obtain ⟨b,r'⟩:=p
            rw [h1] at h
            injection h with h
            injection h with h2 _
            rw [← h2]
            exact leaf_byte (C4.add_ok z4_ok _)
theorem posts_good : ∀ (l : List UInt8) (t : Rx),t.Good → (posts t l).1.Good
  | [],t,h => h
  | c :: r,t,h => by
    rw [posts]
    split
    · exact posts_good r _ ⟨rfl,⟨⟨by decide,by decide⟩,Or.inr rfl,z4_ok⟩,h⟩
    · split
      · exact posts_good r _ ⟨rfl,⟨⟨by decide,by decide⟩,Or.inr rfl,z4_ok⟩,h⟩
      · split
        · exact posts_good r _ ⟨rfl,⟨⟨by decide,by decide⟩,Or.inr rfl,z4_ok⟩,h⟩
        · exact h
theorem cats_good : ∀ (xs : List Rx),(∀ x ∈ xs,x.Good) → (cats xs).Good
  | [],_ => ⟨rfl,⟨by decide,by decide⟩,Or.inr rfl,z4_ok⟩
  | [x],h => h x (by simp)
  | x :: y :: r,h => ⟨rfl,⟨⟨by decide,by decide⟩,Or.inr rfl,z4_ok⟩,h x (by simp),cats_good (y :: r) fun z hz => h z (by simp at hz ⊢; exact Or.inr hz)⟩
theorem ors_good : ∀ (xs : List Rx),(∀ x ∈ xs,x.Good) → (ors xs).Good
  | [],_ => ⟨rfl,⟨by decide,by decide⟩,Or.inr rfl,z4_ok⟩
  | [x],h => h x (by simp)
  | x :: y :: r,h => ⟨rfl,⟨⟨by decide,by decide⟩,Or.inr rfl,z4_ok⟩,h x (by simp),ors_good (y :: r) fun z hz => h z (by simp at hz ⊢; exact Or.inr hz)⟩
theorem goods : ∀ (n : Nat) (l : List UInt8),l.length ≤ n → (∀ x l1,Atom l (.ok (x,l1)) → x.Good) ∧ (∀ xs l1,Seq l (.ok (xs,l1)) → ∀ x ∈ xs,x.Good) ∧ (∀ ss l1,Alt l (.ok (ss,l1)) → ∀ x ∈ ss,x.Good)
  | n,l,hn => by
    have hA : ∀ x l1,Atom l (.ok (x,l1)) → x.Good:=by
      intro x l1 h
      generalize hr : (Except.ok (x,l1) : Except Nat (Rx × List UInt8)) = r at h
      cases h with
      | bad => cases hr
      | ok _ m l2 h1 h2 =>
        have p:=posts_good l2 (.leaf m) (base_good _ _ _ h2)
        injection hr with hr
        rw [← hr] at p
        exact p
      | inBad => cases hr
      | inOpen => cases hr
      | inOk l0 ss l2 h1 =>
        cases n with
        | zero => simp at hn
        | succ n =>
          have g:=(goods n l0 (by simp at hn; omega)).2.2 ss _ h1
          have p:=posts_good l2 (ors ss) (ors_good ss g)
          injection hr with hr
          rw [← hr] at p
          exact p
    have hS : ∀ xs l1,Seq l (.ok (xs,l1)) → ∀ x ∈ xs,x.Good:=by
      intro xs l1 h
      cases h with
      | stop => simp
      | more _ x l2 xs _ h1 h2 h3 =>
        have g:=hA x l2 h2
        have hz:=(sizes n l hn).1 x l2 h2
        have fp:=x.flat_pos
        cases n with
        | zero => omega
        | succ n =>
          have g2:=(goods n l2 (by omega)).2.1 xs l1 h3
          intro y hy
          rcases List.mem_cons.1 hy with rfl | hy
          · exact g
          · exact g2 y hy
    refine ⟨hA,hS,?_⟩
    intro ss l1 h
    cases h with
    | last _ xs _ h1 h2 =>
      intro y hy
      simp at hy
      rw [hy]
      exact cats_good xs (hS xs l1 h1)
    | more _ xs l2 ss _ h1 h2 =>
      have hz:=(sizes n l hn).2.1 xs _ h1
      simp at hz
      cases n with
      | zero => omega
      | succ n =>
        have g2:=(goods n l2 (by omega)).2.2 ss l1 h2
        intro y hy
        rcases List.mem_cons.1 hy with rfl | hy
        · exact cats_good xs (hS xs _ h1)
        · exact g2 y hy
theorem whole_good (l : List UInt8) (t : Rx) (h : Whole l (.ok t)) : t.Good:=by
  generalize hr : (Except.ok t : Except Nat Rx) = r at h
  cases h with
  | bad => cases hr
  | more => cases hr
  | ok ss h1 =>
    injection hr with hr
    rw [hr]
    exact ors_good ss ((goods _ l (Nat.le_refl _)).2.2 ss _ h1)
theorem Rx.Good.isOk : ∀ {t : Rx},t.Good → t.Ok
  | .leaf n,h => h.1
  | .one n a,h => ⟨h.1,Rx.Good.isOk h.2.2⟩
  | .two n a b,h => ⟨h.1,Rx.Good.isOk h.2.2.1,Rx.Good.isOk h.2.2.2⟩
theorem Rx.Good.all : ∀ {t : Rx},t.Good → ∀ n ∈ t.flat,n.good
  | .leaf n,h,m,hm => by simp [Rx.flat] at hm; rw [hm]; exact h.2
  | .one n a,h,m,hm => by
    simp [Rx.flat] at hm
    rcases hm with rfl | hm
    · exact h.2.1
    · exact Rx.Good.all h.2.2 m hm
  | .two n a b,h,m,hm => by
    simp [Rx.flat] at hm
    rcases hm with rfl | hm | hm
    · exact h.2.1
    · exact Rx.Good.all h.2.2.1 m hm
    · exact Rx.Good.all h.2.2.2 m hm
theorem good_fault (t : Rx) (h : t.Good) (hl : t.flat.length ≤ 60) : faultL t.flat = 0:=by
  refine (faultL_zero _).2 ⟨hl,fun n hn => ?_,endE_flat t h.isOk⟩
  have:=h.all n hn
  exact ⟨this.1,this.2.1.imp id fun e => by rw [e]; exact eqb_self _⟩
inductive PsR (s : ByteArray) : List Nd → Int → Int → Prop
  | full : 200 < s.size → PsR s [] 0 3
  | bad (k : Nat) : s.size ≤ 200 → Whole s.data.toList (.error k) → PsR s [] ((s.size : Int) - (k : Int)) 5
  | many (t : Rx) : s.size ≤ 200 → Whole s.data.toList (.ok t) → 60 < t.flat.length → PsR s [] 0 3
  | ok (t : Rx) : s.size ≤ 200 → Whole s.data.toList (.ok t) → ¬ 60 < t.flat.length → PsR s t.flat 0 0
theorem psR_total (s : ByteArray) : ∃ ms k e,PsR s ms k e:=by
  by_cases h : 200 < s.size
  · exact ⟨_,_,_,.full h⟩
  · obtain ⟨r,hr⟩:=whole_total s.data.toList
    cases r with
    | error k => exact ⟨_,_,_,.bad k (by omega) hr⟩
    | ok t =>
      by_cases h6 : 60 < t.flat.length
      · exact ⟨_,_,_,.many t (by omega) hr h6⟩
      · exact ⟨_,_,_,.ok t (by omega) hr h6⟩
inductive Str (N : Nat) (R : Nat → Nat → Prop) : Nat → Nat → Prop
  | nil (i : Nat) : i ≤ N → Str N R i i
  | cons (i k j : Nat) : R i k → Str N R k j → Str N R i j
def Fit (s : List UInt8) : Rx → Nat → Nat → Prop
  | .leaf n,i,j => if n.op = 1 then ∃ c,s[i]? = some c ∧ n.c.has c.toNat = true ∧ j = i + 1 else if n.op = 8 then i = 0 ∧ j = 0 else if n.op = 9 then i = s.length ∧ j = s.length else i = j ∧ i ≤ s.length
  | .one n a,i,j => if n.op = 5 then Str s.length (Fit s a) i j else if n.op = 6 then ∃ k,Fit s a i k ∧ Str s.length (Fit s a) k j else (i = j ∧ i ≤ s.length) ∨ Fit s a i j
  | .two n a b,i,j => if n.op = 3 then ∃ k,Fit s a i k ∧ Fit s b k j else Fit s a i j ∨ Fit s b i j
theorem Str.le {N : Nat} {R : Nat → Nat → Prop} (h : ∀ i j,R i j → i ≤ j ∧ j ≤ N) : ∀ {i j : Nat},Str N R i j → i ≤ j ∧ j ≤ N:=by
  intro i j hs
  induction hs with
  | nil i hi => exact ⟨Nat.le_refl _,hi⟩
  | cons i k j h1 _ ih => exact ⟨Nat.le_trans (h i k h1).1 ih.1,ih.2⟩
theorem fit_le (s : List UInt8) : ∀ (t : Rx) (i j : Nat),Fit s t i j → i ≤ j ∧ j ≤ s.length
  | .leaf n,i,j,h => by
    unfold Fit at h
    split at h
    · obtain ⟨c,h1,_,rfl⟩:=h
      have : i < s.length:=by
        rcases Nat.lt_or_ge i s.length with h' | h'
        · exact h'
        · rw [List.getElem?_eq_none h'] at h1; cases h1
      omega
    · split at h
      · omega
      · split at h <;> omega
  | .one n a,i,j,h => by
    unfold Fit at h
    split at h
    · exact Str.le (fit_le s a) h
    · split at h
      · obtain ⟨k,h1,h2⟩:=h
        have:=fit_le s a i k h1
        have:=Str.le (fit_le s a) h2
        omega
      · rcases h with h | h
        · omega
        · exact fit_le s a i j h
  | .two n a b,i,j,h => by
    unfold Fit at h
    split at h
    · obtain ⟨k,h1,h2⟩:=h
      have:=fit_le s a i k h1
      have:=fit_le s b k j h2
      omega
    · rcases h with h | h
      · exact fit_le s a i j h
      · exact fit_le s b i j h
theorem Str.trans {N : Nat} {R : Nat → Nat → Prop} {i j k : Nat} (h1 : Str N R i j) (h2 : Str N R j k) : Str N R i k:=by
  induction h1 with
  | nil => exact h2
  | cons i m j h _ ih => exact .cons i m k h (ih h2)
theorem Str.mono {N : Nat} {R Q : Nat → Nat → Prop} (h : ∀ i j,R i j → Q i j) {i j : Nat} (hs : Str N R i j) : Str N Q i j:=by
  induction hs with
  | nil i hi => exact .nil i hi
  | cons i k j h1 _ ih => exact .cons i k j (h i k h1) ih
theorem Str.one {N : Nat} {R : Nat → Nat → Prop} (h : ∀ i j,R i j → i ≤ j ∧ j ≤ N) {i j : Nat} (hr : R i j) : Str N R i j:=.cons i j j hr (.nil j (h i j hr).2)
theorem Str.flat {N : Nat} {R : Nat → Nat → Prop} {i j : Nat} (hs : Str N (Str N R) i j) : Str N R i j:=by
  induction hs with
  | nil i hi => exact .nil i hi
  | cons i k j h1 _ ih => exact h1.trans ih
theorem Str.turn {N : Nat} {R Q : Nat → Nat → Prop} (h : ∀ i j,R i j → i ≤ j ∧ j ≤ N) (hq : ∀ i j,R i j → Q (N - j) (N - i)) {i j : Nat} (hs : Str N R i j) : Str N Q (N - j) (N - i):=by
  induction hs with
  | nil i hi => exact .nil _ (by omega)
  | cons i k j h1 hs ih =>
    refine ih.trans (.cons _ (N - i) _ (hq i k h1) (.nil _ (by omega)))
def EndsR (s : List UInt8) (t : Rx) (i : Nat) (l : List Nat) : Prop:=l.Pairwise (· < ·) ∧ ∀ j,j ∈ l ↔ Fit s t i j
theorem ends_total (s : List UInt8) (t : Rx) (i : Nat) : ∃ l,EndsR s t i l:=by
  refine ⟨(List.range (s.length + 1)).filter fun j => @decide (Fit s t i j) (Classical.propDecidable _),List.Pairwise.filter _ List.pairwise_lt_range,fun j => ?_⟩
  rw [List.mem_filter,List.mem_range,@decide_eq_true_iff (Fit s t i j) (Classical.propDecidable _)]
  exact ⟨fun h => h.2,fun h => ⟨by have:=fit_le s t i j h; omega,h⟩⟩
theorem rise_eq : ∀ (x y : List Nat),x.Pairwise (· < ·) → y.Pairwise (· < ·) → (∀ j,j ∈ x ↔ j ∈ y) → x = y
  | [],[],_,_,_ => rfl
  | [],b :: y,_,_,h => by have:=(h b).2 (by simp); simp at this
  | a :: x,[],_,_,h => by have:=(h a).1 (by simp); simp at this
  | a :: x,b :: y,hx,hy,h => by
    rw [List.pairwise_cons] at hx hy
    have hab : a = b:=by
      have h1:=(h a).1 (by simp)
      have h2:=(h b).2 (by simp)
      rw [List.mem_cons] at h1 h2
      rcases h1 with h1 | h1
      · exact h1
      · rcases h2 with h2 | h2
        · exact h2.symm
        · have:=hx.1 b h2
          have:=hy.1 a h1
          omega
    subst hab
    have : x = y:=rise_eq x y hx.2 hy.2 (fun j => by
      have hj:=h j
      rw [List.mem_cons,List.mem_cons] at hj
      constructor
      · intro hm
        have:=hx.1 j hm
        rcases hj.1 (Or.inr hm) with e | e
        · omega
        · exact e
      · intro hm
        have:=hy.1 j hm
        rcases hj.2 (Or.inr hm) with e | e
        · omega
        · exact e)
    rw [this]
theorem EndsR.same {s : List UInt8} {t u : Rx} {i : Nat} {x y : List Nat} (hx : EndsR s t i x) (hy : EndsR s u i y) (h : ∀ j,Fit s t i j ↔ Fit s u i j) : x = y :=
  rise_eq x y hx.1 hy.1 fun j => (hx.2 j).trans ((h j).trans (hy.2 j).symm)
theorem EndsR.le {s : List UInt8} {t : Rx} {i : Nat} {x : List Nat} (hx : EndsR s t i x) : ∀ j ∈ x,i ≤ j ∧ j ≤ s.length:=fun j hj => fit_le s t i j ((hx.2 j).1 hj)
theorem rise_len : ∀ (x : List Nat) (n m : Nat),x.Pairwise (· < ·) → (∀ j ∈ x,n ≤ j ∧ j < m) → n + x.length ≤ m ∨ x = []
  | [],_,_,_,_ => Or.inr rfl
  | a :: x,n,m,h,hb => by
    left
    rw [List.pairwise_cons] at h
    have ha:=hb a (by simp)
    rcases rise_len x (a + 1) m h.2 (fun j hj => ⟨h.1 j hj,(hb j (by simp [hj])).2⟩) with h1 | h1
    · simp; omega
    · subst h1; simp; omega
theorem EndsR.len {s : List UInt8} {t : Rx} {i : Nat} {x : List Nat} (hx : EndsR s t i x) : x.length ≤ s.length + 1:=by
  rcases rise_len x 0 (s.length + 1) hx.1 (fun j hj => by have:=hx.le j hj; omega) with h | h
  · omega
  · rw [h]; simp
theorem EndsR.all {s : List UInt8} {t : Rx} {i : Nat} {x : List Nat} (hx : EndsR s t i x) : x.getLast? = some s.length ↔ Fit s t i s.length:=by
  rw [← hx.2]
  constructor
  · intro h; exact List.mem_of_getLast? h
  · intro h
    obtain ⟨l,b,e⟩:=List.append_of_mem h
    cases b with
    | nil => rw [e]; simp
    | cons c b =>
      exfalso
      have h1:=hx.1
      rw [e] at h1
      have h2:=(List.pairwise_append.1 h1).2.1
      rw [List.pairwise_cons] at h2
      have h3:=h2.1 c (by simp)
      have h4:=hx.le c (by rw [e]; simp)
      omega
def NoFit (s : List UInt8) (t : Rx) (k : Nat) : Prop:=∀ j,¬ Fit s t k j
def FndR (s : List UInt8) (t : Rx) (i : Nat) : Option (Nat × Nat) → Prop
  | none => ∀ k,i ≤ k → k ≤ s.length → NoFit s t k
  | some (a,b) => i ≤ a ∧ (∀ k,i ≤ k → k < a → NoFit s t k) ∧ Fit s t a b ∧ ∀ c,Fit s t a c → c ≤ b
theorem FndR.le {s : List UInt8} {t : Rx} {i a b : Nat} (h : FndR s t i (some (a,b))) : i ≤ a ∧ a ≤ b ∧ b ≤ s.length:=by
  obtain ⟨h1,_,h2,_⟩:=h
  have:=fit_le s t a b h2
  omega
theorem FndR.out {s : List UInt8} {t : Rx} {i : Nat} (h : s.length < i) : FndR s t i none:=fun k h1 h2 => by omega
theorem FndR.step {s : List UInt8} {t : Rx} {i : Nat} {r : Option (Nat × Nat)} (hn : NoFit s t i) (h : FndR s t (i + 1) r) : FndR s t i r:=by
  cases r with
  | none =>
    intro k h1 h2
    rcases Nat.eq_or_lt_of_le h1 with rfl | h1
    · exact hn
    · exact h k h1 h2
  | some x =>
    obtain ⟨a,b⟩:=x
    obtain ⟨h1,h2,h3,h4⟩:=h
    refine ⟨by omega,fun k g1 g2 => ?_,h3,h4⟩
    rcases Nat.eq_or_lt_of_le g1 with rfl | g1
    · exact hn
    · exact h2 k g1 g2
theorem FndR.unstep {s : List UInt8} {t : Rx} {i : Nat} {r : Option (Nat × Nat)} (hn : NoFit s t i) (h : FndR s t i r) : FndR s t (i + 1) r:=by
  cases r with
  | none => exact fun k h1 h2 => h k (by omega) h2
  | some x =>
    obtain ⟨a,b⟩:=x
    obtain ⟨h1,h2,h3,h4⟩:=h
    have : i ≠ a:=fun e => hn b (e ▸ h3)
    exact ⟨by omega,fun k g1 g2 => h2 k (by omega) g2,h3,h4⟩
theorem FndR.uniq {s : List UInt8} {t : Rx} {i : Nat} {r r' : Option (Nat × Nat)} (h : FndR s t i r) (h' : FndR s t i r') : r = r':=by
  cases r with
  | none =>
    cases r' with
    | none => rfl
    | some x =>
      obtain ⟨a,b⟩:=x
      have hl:=h'.le
      exact absurd h'.2.2.1 (h a hl.1 (by omega) b)
  | some x =>
    obtain ⟨a,b⟩:=x
    cases r' with
    | none =>
      have hl:=h.le
      exact absurd h.2.2.1 (h' a hl.1 (by omega) b)
    | some y =>
      obtain ⟨c,d⟩:=y
      obtain ⟨h1,h2,h3,h4⟩:=h
      obtain ⟨g1,g2,g3,g4⟩:=h'
      have e : a = c:=by
        rcases Nat.lt_trichotomy a c with e | e | e
        · exact absurd h3 (g2 a h1 e b)
        · exact e
        · exact absurd g3 (h2 c g1 e d)
      subst e
      have:=h4 d g3
      have:=g4 b h3
      congr 2
      omega
theorem rise_last {l : List Nat} (h : l.Pairwise (· < ·)) {b : Nat} (hb : l.getLast? = some b) : ∀ c ∈ l,c ≤ b:=by
  obtain ⟨r,rfl⟩ : ∃ r,l = r ++ [b]:=by
    obtain ⟨ys,hys⟩:=List.getLast?_eq_some_iff.1 hb
    exact ⟨ys,hys⟩
  intro c hc
  rw [List.pairwise_append] at h
  rcases List.mem_append.1 hc with hc | hc
  · exact Nat.le_of_lt (h.2.2 c hc b (by simp))
  · rw [List.mem_singleton.1 hc]; exact Nat.le_refl _
theorem EndsR.none {s : List UInt8} {t : Rx} {i : Nat} (h : EndsR s t i []) : NoFit s t i:=fun j hj => by
  have:=(h.2 j).2 hj
  cases this
theorem FndR.here {s : List UInt8} {t : Rx} {i b : Nat} {l : List Nat} (h : EndsR s t i l) (hb : l.getLast? = some b) : FndR s t i (some (i,b)) :=
  ⟨Nat.le_refl _,fun k h1 h2 => by omega,(h.2 b).1 (List.mem_of_getLast? hb),fun c hc => rise_last h.1 hb c ((h.2 c).2 hc)⟩
theorem fnd_total (s : List UInt8) (t : Rx) : ∀ d i,s.length + 1 - i ≤ d → ∃ r,FndR s t i r
  | 0,i,h => ⟨none,FndR.out (by omega)⟩
  | d + 1,i,h => by
    rcases Nat.lt_or_ge s.length i with h1 | h1
    · exact ⟨none,FndR.out h1⟩
    · obtain ⟨l,hl⟩:=ends_total s t i
      cases hb : l.getLast? with
      | none =>
        have e : l = []:=List.getLast?_eq_none_iff.1 hb
        subst e
        obtain ⟨r,hr⟩:=fnd_total s t d (i + 1) (by omega)
        exact ⟨r,hr.step hl.none⟩
      | some b => exact ⟨_,FndR.here hl hb⟩
def nextAt (x : Nat × Nat) : Nat:=if x.1 = x.2 then x.2 + 1 else x.2
inductive AllR (s : List UInt8) (t : Rx) : Nat → List (Nat × Nat) → Prop
  | nil (i : Nat) : FndR s t i none → AllR s t i []
  | cons (i : Nat) (x : Nat × Nat) (l : List (Nat × Nat)) : FndR s t i (some x) → AllR s t (nextAt x) l → AllR s t i (x :: l)
theorem nextAt_lt {s : List UInt8} {t : Rx} {i : Nat} {x : Nat × Nat} (h : FndR s t i (some x)) : i < nextAt x ∧ nextAt x ≤ s.length + 1:=by
  obtain ⟨a,b⟩:=x
  have:=h.le
  unfold nextAt
  simp only
  split <;> omega
theorem all_total (s : List UInt8) (t : Rx) : ∀ d i,s.length + 1 - i ≤ d → ∃ l,AllR s t i l
  | 0,i,h => ⟨[],.nil i (FndR.out (by omega))⟩
  | d + 1,i,h => by
    obtain ⟨r,hr⟩:=fnd_total s t _ i (Nat.le_refl _)
    cases r with
    | none => exact ⟨[],.nil i hr⟩
    | some x =>
      have h1:=nextAt_lt hr
      obtain ⟨l,hl⟩:=all_total s t d (nextAt x) (by omega)
      exact ⟨x :: l,.cons i x l hr hl⟩
theorem AllR.uniq {s : List UInt8} {t : Rx} {i : Nat} {l : List (Nat × Nat)} (h : AllR s t i l) : ∀ l',AllR s t i l' → l = l':=by
  induction h with
  | nil i h =>
    intro l' h'
    cases h' with
    | nil _ _ => rfl
    | cons _ x r hx _ => cases h.uniq hx
  | cons i x r hx _ ih =>
    intro l' h'
    cases h' with
    | nil _ h0 => cases hx.uniq h0
    | cons _ y r' hy hr =>
      obtain rfl:=Option.some.inj (hx.uniq hy)
      rw [ih r' hr]
theorem AllR.len {s : List UInt8} {t : Rx} {i : Nat} {l : List (Nat × Nat)} (h : AllR s t i l) : l.length ≤ s.length + 1 - i:=by
  induction h with
  | nil i h => simp
  | cons i x r hx _ ih =>
    have:=nextAt_lt hx
    simp
    omega
theorem AllR.mem {s : List UInt8} {t : Rx} {i : Nat} {l : List (Nat × Nat)} (h : AllR s t i l) : ∀ x ∈ l,i ≤ x.1 ∧ x.1 ≤ x.2 ∧ x.2 ≤ s.length:=by
  induction h with
  | nil i h => intro x hx; cases hx
  | cons i y r hy _ ih =>
    have hn:=nextAt_lt hy
    intro x hx
    rcases List.mem_cons.1 hx with rfl | hx
    · exact hy.le
    · have:=ih x hx
      omega
def C4.only (k : C4) : Option UInt8:=if ((List.range 256).filter k.has).length = 1 then ((List.range 256).filter k.has).head?.map (fun b => UInt8.ofNat b) else none
def Rx.whl : Rx → Option (List UInt8)
  | .leaf n => if n.op = 1 then n.c.only.map (fun c => [c]) else if n.op = 2 then some [] else none
  | .one _ _ => none
  | .two n a b => if n.op = 3 then a.whl.bind (fun x => b.whl.map (fun y => x ++ y)) else none
def longer (x y : List UInt8) : List UInt8:=if x.length < y.length then y else x
def Rx.ned : Rx → List UInt8
  | .leaf n => ((Rx.leaf n).whl).getD []
  | .one n a => if n.op = 6 then a.ned else []
  | .two n a b => match (Rx.two n a b).whl with
    | some x => x
    | none => if n.op = 3 then longer a.ned b.ned else []
def cut (s : List UInt8) (i j : Nat) : List UInt8:=(s.drop i).take (j - i)
theorem cut_len {s : List UInt8} {i j : Nat} (h : i ≤ j) (hj : j ≤ s.length) : (cut s i j).length = j - i:=by
  unfold cut
  rw [List.length_take,List.length_drop]
  omega
theorem cut_trans {s : List UInt8} {i k j : Nat} (h1 : i ≤ k) (h2 : k ≤ j) : cut s i j = cut s i k ++ cut s k j:=by
  unfold cut
  have e : j - i = (k - i) + (j - k):=by omega
  rw [e,List.take_add,List.drop_drop]
  congr 3
  omega
theorem cut_self (s : List UInt8) (i : Nat) : cut s i i = []:=by simp [cut]
theorem only_has {k : C4} {c : UInt8} (h : k.only = some c) (b : UInt8) : k.has b.toNat = true ↔ b = c:=by
  unfold C4.only at h
  split at h
  · rename_i h1
    obtain ⟨x,hx⟩ : ∃ x,(List.range 256).filter k.has = [x]:=List.length_eq_one_iff.1 h1
    rw [hx] at h
    simp at h
    have hm : ∀ y,y < 256 → (k.has y = true ↔ y = x):=by
      intro y hy
      have : y ∈ (List.range 256).filter k.has ↔ y = x:=by rw [hx,List.mem_singleton]
      rw [List.mem_filter,List.mem_range] at this
      rw [← this]
      exact ⟨fun h => ⟨hy,h⟩,fun h => h.2⟩
    have hx256 : x < 256:=by
      have : x ∈ (List.range 256).filter k.has:=by rw [hx]; simp
      rw [List.mem_filter,List.mem_range] at this
      exact this.1
    rw [hm b.toNat b.toNat_lt,← h]
    constructor
    · intro e
      rw [← e]
      simp
    · intro e
      rw [e]
      simp
      omega
  · cases h
theorem whl_fit (s : List UInt8) : ∀ (t : Rx),t.Ok → (∀ n ∈ t.flat,1 ≤ n.op ∧ n.op ≤ 9) → ∀ (x : List UInt8),t.whl = some x → ∀ i j,Fit s t i j ↔ (j = i + x.length ∧ j ≤ s.length ∧ cut s i j = x)
  | .leaf n,hk,ho,x,hx,i,j => by
    simp only [Rx.whl] at hx
    simp only [Fit]
    by_cases h1 : n.op = 1
    · rw [if_pos h1] at hx ⊢
      cases hc : n.c.only with
      | none => rw [hc] at hx; cases hx
      | some c =>
        rw [hc] at hx
        simp at hx
        subst hx
        constructor
        · rintro ⟨d,hd,hh,rfl⟩
          have hdc:=(only_has hc d).1 hh
          subst hdc
          have hlt : i < s.length:=by
            rcases Nat.lt_or_ge i s.length with h' | h'
            · exact h'
            · rw [List.getElem?_eq_none h'] at hd; cases hd
          refine ⟨by simp,by omega,?_⟩
          unfold cut
          rw [List.drop_eq_getElem_cons hlt,show i + 1 - i = 1 from by omega]
          rw [List.getElem?_eq_getElem hlt] at hd
          simp [Option.some.inj hd]
        · rintro ⟨rfl,hj,he⟩
          simp at hj
          have hlt : i < s.length:=by omega
          refine ⟨c,?_,(only_has hc c).2 rfl,by simp⟩
          have h0:=congrArg (fun l => l[0]?) he
          simpa [cut,List.getElem?_take,List.getElem?_drop] using h0
    · rw [if_neg h1] at hx ⊢
      by_cases h2 : n.op = 2
      · rw [if_pos h2] at hx
        rw [if_neg (by omega),if_neg (by omega)]
        simp at hx
        subst hx
        constructor
        · rintro ⟨rfl,hi⟩
          exact ⟨by simp,hi,cut_self _ _⟩
        · rintro ⟨rfl,hj,_⟩
          exact ⟨by simp,by simpa using hj⟩
      · rw [if_neg h2] at hx; cases hx
  | .one n a,hk,ho,x,hx,i,j => by simp [Rx.whl] at hx
  | .two n a b,hk,ho,x,hx,i,j => by
    simp only [Rx.whl] at hx
    by_cases h3 : n.op = 3
    · rw [if_pos h3] at hx
      simp only [Fit,if_pos h3]
      cases hxa : a.whl with
      | none => rw [hxa] at hx; cases hx
      | some xa =>
        cases hxb : b.whl with
        | none => rw [hxa,hxb] at hx; cases hx
        | some xb =>
          rw [hxa,hxb] at hx
          simp at hx
          subst hx
          have fa:=whl_fit s a hk.2.1 (fun m hm => ho m (by simp [Rx.flat,hm])) xa hxa
          have fb:=whl_fit s b hk.2.2 (fun m hm => ho m (by simp [Rx.flat,hm])) xb hxb
          constructor
          · rintro ⟨k,h1,h2⟩
            obtain ⟨rfl,hk1,e1⟩:=(fa i k).1 h1
            obtain ⟨rfl,hk2,e2⟩:=(fb _ j).1 h2
            refine ⟨by simp; omega,hk2,?_⟩
            rw [cut_trans (k:=i + xa.length) (by omega) (by omega),e1,e2]
          · rintro ⟨rfl,hj,he⟩
            rw [List.length_append] at hj he
            have hc:=cut_trans (s:=s) (i:=i) (k:=i + xa.length) (j:=i + (xa.length + xb.length)) (by omega) (by omega)
            rw [he] at hc
            have hl:=cut_len (s:=s) (i:=i) (j:=i + xa.length) (by omega) (by omega)
            obtain ⟨e1,e2⟩:=List.append_inj hc (by rw [hl]; omega)
            refine ⟨i + xa.length,(fa _ _).2 ⟨rfl,by omega,e1.symm⟩,(fb _ _).2 ⟨by simp; omega,by rw [List.length_append]; omega,?_⟩⟩
            rw [List.length_append]
            exact e2.symm
    · rw [if_neg h3] at hx; cases hx
theorem longer_cases (x y : List UInt8) : longer x y = x ∨ longer x y = y:=by unfold longer; split <;> simp
theorem ned_fit (s : List UInt8) : ∀ (t : Rx),t.Ok → (∀ n ∈ t.flat,1 ≤ n.op ∧ n.op ≤ 9) → ∀ i j,Fit s t i j → ∃ p q,cut s i j = p ++ t.ned ++ q
  | .leaf n,hk,ho,i,j,hf => by
    unfold Rx.ned
    cases hx : (Rx.leaf n).whl with
    | none => exact ⟨[],cut s i j,by simp⟩
    | some x =>
      obtain ⟨_,_,e⟩:=(whl_fit s (.leaf n) hk ho x hx i j).1 hf
      exact ⟨[],[],by simp [e]⟩
  | .one n a,hk,ho,i,j,hf => by
    unfold Rx.ned
    by_cases h6 : n.op = 6
    · rw [if_pos h6]
      simp only [Fit] at hf
      rw [if_neg (by omega),if_pos h6] at hf
      obtain ⟨k,h1,h2⟩:=hf
      have hle : ∀ i j,Fit s a i j → i ≤ j ∧ j ≤ s.length:=fit_le s a
      obtain ⟨p,q,e⟩:=ned_fit s a hk.2 (fun m hm => ho m (by simp [Rx.flat,hm])) i k h1
      refine ⟨p,q ++ cut s k j,?_⟩
      rw [cut_trans (k:=k) (hle i k h1).1 (Str.le hle h2).1,e]
      simp
    · rw [if_neg h6]
      exact ⟨[],cut s i j,by simp⟩
  | .two n a b,hk,ho,i,j,hf => by
    unfold Rx.ned
    cases hx : (Rx.two n a b).whl with
    | some x =>
      obtain ⟨_,_,e⟩:=(whl_fit s (.two n a b) hk ho x hx i j).1 hf
      exact ⟨[],[],by simp [e]⟩
    | none =>
      simp only
      by_cases h3 : n.op = 3
      · rw [if_pos h3]
        simp only [Fit,if_pos h3] at hf
        obtain ⟨k,h1,h2⟩:=hf
        rw [cut_trans (k:=k) (fit_le s a i k h1).1 (fit_le s b k j h2).1]
        rcases longer_cases a.ned b.ned with e | e
        · rw [e]
          obtain ⟨p,q,e'⟩:=ned_fit s a hk.2.1 (fun m hm => ho m (by simp [Rx.flat,hm])) i k h1
          exact ⟨p,q ++ cut s k j,by rw [e']; simp⟩
        · rw [e]
          obtain ⟨p,q,e'⟩:=ned_fit s b hk.2.2 (fun m hm => ho m (by simp [Rx.flat,hm])) k j h2
          exact ⟨cut s i k ++ p,q,by rw [e']; simp⟩
      · rw [if_neg h3]
        exact ⟨[],cut s i j,by simp⟩
structure Mbr where
  id : Nat
  text : ByteArray
  pat : Rx
structure SetS where
  ms : List Mbr
  last : Nat
  on : Bool
  tried : Nat
def set0 : SetS:=⟨[],0,false,0⟩
def Mbr.ok (m : Mbr) : Prop:=1 ≤ m.id ∧ m.text.size ≤ 200 ∧ Whole m.text.data.toList (.ok m.pat) ∧ ¬ 60 < m.pat.flat.length
structure SetS.Ok (σ : SetS) : Prop where
  len : σ.ms.length ≤ 12
  rise : σ.ms.Pairwise (fun a b => a.id < b.id)
  each : ∀ m ∈ σ.ms,m.ok ∧ m.id ≤ σ.last
  tri : σ.tried ≤ 12
theorem set0_ok : set0.Ok:=⟨by simp [set0],by simp [set0],by simp [set0],by simp [set0]⟩
theorem Mbr.ok.good {m : Mbr} (h : m.ok) : m.pat.Good:=whole_good _ _ h.2.2.1
theorem Mbr.ok.isOk {m : Mbr} (h : m.ok) : m.pat.Ok:=h.good.isOk
theorem Mbr.ok.fault {m : Mbr} (h : m.ok) : faultL m.pat.flat = 0:=good_fault _ h.good (by have:=h.2.2.2; omega)
inductive AddR (σ : SetS) (s : ByteArray) : Nat → Int → Int → SetS → Prop
  | bad (ms : List Nd) (k e : Int) : PsR s ms k e → ¬ e = 0 → AddR σ s 0 k e σ
  | full (t : Rx) : s.size ≤ 200 → Whole s.data.toList (.ok t) → ¬ 60 < t.flat.length → 12 ≤ σ.ms.length → AddR σ s 0 0 3 σ
  | ok (t : Rx) : s.size ≤ 200 → Whole s.data.toList (.ok t) → ¬ 60 < t.flat.length → σ.ms.length < 12 → AddR σ s (σ.last + 1) 0 0 ⟨σ.ms ++ [⟨σ.last + 1,s,t⟩],σ.last + 1,σ.on,σ.tried⟩
theorem add_total (σ : SetS) (s : ByteArray) : ∃ n k e σ',AddR σ s n k e σ':=by
  obtain ⟨ms,k,e,h⟩:=psR_total s
  by_cases he : e = 0
  · cases h with
    | full => cases he
    | bad => cases he
    | many => cases he
    | ok t h1 h2 h3 =>
      by_cases h4 : 12 ≤ σ.ms.length
      · exact ⟨_,_,_,_,.full t h1 h2 h3 h4⟩
      · exact ⟨_,_,_,_,.ok t h1 h2 h3 (by omega)⟩
  · exact ⟨_,_,_,_,.bad ms k e h he⟩
theorem AddR.isOk {σ σ' : SetS} {s : ByteArray} {n : Nat} {k e : Int} (h : AddR σ s n k e σ') (hσ : σ.Ok) : σ'.Ok:=by
  cases h with
  | bad ms k e _ _ => exact hσ
  | full => exact hσ
  | ok t h1 h2 h3 h4 =>
    refine ⟨by simp; omega,?_,fun m hm => ?_,hσ.tri⟩
    · simp only
      rw [List.pairwise_append]
      refine ⟨hσ.rise,by simp,fun a ha b hb => ?_⟩
      rw [List.mem_singleton.1 hb]
      have:=(hσ.each a ha).2
      simp only
      omega
    · rcases List.mem_append.1 hm with hm | hm
      · exact ⟨(hσ.each m hm).1,by have:=(hσ.each m hm).2; simp only; omega⟩
      · rw [List.mem_singleton.1 hm]
        exact ⟨⟨by simp only; omega,h1,h2,h3⟩,Nat.le_refl _⟩
theorem AddR.last {σ σ' : SetS} {s : ByteArray} {n : Nat} {k e : Int} (h : AddR σ s n k e σ') : σ.last ≤ σ'.last ∧ σ'.last ≤ σ.last + 1:=by
  cases h <;> simp <;> omega
def SetS.has (σ : SetS) (n : Int) : Bool:=σ.ms.any (fun m => (m.id : Int) == n)
def SetS.delE (σ : SetS) (n : Int) : Int:=if σ.has n then 0 else 4
def SetS.del (σ : SetS) (n : Int) : SetS:=⟨σ.ms.filter (fun m => !((m.id : Int) == n)),σ.last,σ.on,σ.tried⟩
theorem SetS.del_no {σ : SetS} {n : Int} (h : σ.has n = false) : σ.del n = σ:=by
  unfold SetS.del
  have : σ.ms.filter (fun m => !((m.id : Int) == n)) = σ.ms:=by
    rw [List.filter_eq_self]
    intro m hm
    unfold SetS.has at h
    rw [List.any_eq_false] at h
    have:=h m hm
    simpa using this
  rw [this]
theorem SetS.Ok.del {σ : SetS} (h : σ.Ok) (n : Int) : (σ.del n).Ok :=
  ⟨Nat.le_trans (List.length_filter_le _ _) h.len,h.rise.filter _,fun m hm => h.each m (List.mem_filter.1 hm).1,h.tri⟩
def SetS.filt (σ : SetS) (b : Bool) : SetS:=⟨σ.ms,σ.last,b,σ.tried⟩
theorem SetS.Ok.filt {σ : SetS} (h : σ.Ok) (b : Bool) : (σ.filt b).Ok:=⟨h.len,h.rise,h.each,h.tri⟩
def SetS.items (σ : SetS) : List (Nat × ByteArray):=σ.ms.map (fun m => (m.id,m.text))
def Stnd (x s : List UInt8) : Prop:=∃ i,i + x.length ≤ s.length ∧ cut s i (i + x.length) = x
noncomputable def Mbr.try (m : Mbr) (s : List UInt8) : Bool:=@decide (Stnd m.pat.ned s) (Classical.propDecidable _)
noncomputable def triedL (on : Bool) (ms : List Mbr) (s : List UInt8) : Nat:=(ms.filter (fun m => m.try s || !on)).length
theorem triedL_le (on : Bool) (ms : List Mbr) (s : List UInt8) : triedL on ms s ≤ ms.length:=List.length_filter_le _ _
theorem triedL_snoc (on : Bool) (ms : List Mbr) (m : Mbr) (s : List UInt8) : triedL on (ms ++ [m]) s = triedL on ms s + (if m.try s || !on then 1 else 0):=by
  unfold triedL
  rw [List.filter_append,List.length_append]
  congr 1
  by_cases hc : (m.try s || !on) = true
  · rw [List.filter_cons,if_pos hc,if_pos hc]; simp
  · rw [List.filter_cons,if_neg hc,if_neg hc]; simp
inductive AllsR (s : List UInt8) : List Mbr → List (Nat × Nat × Nat) → Prop
  | nil : AllsR s [] []
  | cons (m : Mbr) (r : List Mbr) (l : List (Nat × Nat)) (h : List (Nat × Nat × Nat)) : AllR s m.pat 0 l → AllsR s r h → AllsR s (m :: r) (l.map (fun x => (m.id,x.1,x.2)) ++ h)
theorem alls_total (s : List UInt8) : ∀ ms : List Mbr,∃ h,AllsR s ms h
  | [] => ⟨[],.nil⟩
  | m :: r => by
    obtain ⟨l,hl⟩:=all_total s m.pat _ 0 (Nat.le_refl _)
    obtain ⟨h,hh⟩:=alls_total s r
    exact ⟨_,.cons m r l h hl hh⟩
theorem AllsR.uniq {s : List UInt8} {ms : List Mbr} {h h' : List (Nat × Nat × Nat)} (a : AllsR s ms h) (b : AllsR s ms h') : h = h':=by
  induction a generalizing h' with
  | nil => cases b; rfl
  | cons m r l h hl _ ih =>
    cases b with
    | cons _ _ l' h2 hl' hr' => rw [hl.uniq _ hl',ih hr']
theorem AllsR.one {s : List UInt8} (m : Mbr) {l : List (Nat × Nat)} (h : AllR s m.pat 0 l) : AllsR s [m] (l.map (fun x => (m.id,x.1,x.2))):=by
  have:=AllsR.cons m [] l [] h .nil
  rwa [List.append_nil] at this
theorem AllsR.len {s : List UInt8} {ms : List Mbr} {h : List (Nat × Nat × Nat)} (a : AllsR s ms h) : h.length ≤ ms.length * (s.length + 1):=by
  induction a with
  | nil => simp
  | cons m r l h hl _ ih =>
    have:=hl.len
    simp only [List.length_append,List.length_map,List.length_cons,Nat.succ_mul]
    omega
inductive ScanR (σ : SetS) (s : ByteArray) : Int → List (Nat × Nat × Nat) → SetS → Prop
  | full : 400 < s.size → ScanR σ s 3 [] σ
  | ok (h : List (Nat × Nat × Nat)) : s.size ≤ 400 → AllsR s.data.toList σ.ms h → ScanR σ s 0 h ⟨σ.ms,σ.last,σ.on,triedL σ.on σ.ms s.data.toList⟩
theorem scan_total (σ : SetS) (s : ByteArray) : ∃ e h σ',ScanR σ s e h σ':=by
  rcases Nat.lt_or_ge 400 s.size with h | h
  · exact ⟨_,_,_,.full h⟩
  · obtain ⟨l,hl⟩:=alls_total s.data.toList σ.ms
    exact ⟨_,_,_,.ok l h hl⟩
theorem ScanR.isOk {σ σ' : SetS} {s : ByteArray} {e : Int} {h : List (Nat × Nat × Nat)} (g : ScanR σ s e h σ') (hσ : σ.Ok) : σ'.Ok:=by
  cases g with
  | full => exact hσ
  | ok => exact ⟨hσ.len,hσ.rise,hσ.each,Nat.le_trans (triedL_le _ _ _) hσ.len⟩
theorem ScanR.last {σ σ' : SetS} {s : ByteArray} {e : Int} {h : List (Nat × Nat × Nat)} (g : ScanR σ s e h σ') : σ'.last = σ.last ∧ σ'.ms = σ.ms ∧ σ'.on = σ.on:=by
  cases g <;> exact ⟨rfl,rfl,rfl⟩
theorem ScanR.len {σ σ' : SetS} {s : ByteArray} {e : Int} {h : List (Nat × Nat × Nat)} (g : ScanR σ s e h σ') (hσ : σ.Ok) : h.length ≤ 4812:=by
  cases g with
  | full => simp
  | ok _ h1 h2 =>
    have h3:=h2.len
    have h4 : σ.ms.length * (s.data.toList.length + 1) ≤ 12 * 401:=Nat.mul_le_mul hσ.len (by simp; omega)
    omega
structure Stp3 where
  what : Int
  text : ByteArray
  n : Int
end Go.Proofs.YtcjghhedphmhkaaGreatDoor
