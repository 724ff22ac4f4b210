/- Own texts. -/
import Derived.Test.YtcjghhedphmhkaaGreatDoorY02
import Derived.KernelRfl
import Derived.Lib.IndexMore
import Derived.RangeFuncRecord
import Derived.Deep.RegionLaw
import Derived.Lib.BufferOwn
import Derived.Defers
import Derived.Recover
import Derived.Shelf.Strings.Builder1
import Derived.Shelf.Small.Strs
set_option linter.unusedSimpArgs false
set_option linter.unusedVariables false
set_option maxRecDepth 100000
set_option maxHeartbeats 8000000
namespace Go.Proofs.YtcjghhedphmhkaaGreatDoor
open Go.RowKit
def HtAt (w : World) (b off : Nat) (l : List (Nat × Nat × Nat)) : Prop:=∀ (i : Nat) (x : Nat × Nat × Nat),l[i]? = some x → w.cell? ⟨b,off + i * 3,none⟩ = some (.int .i64 (x.1 : Int)) ∧ w.cell? ⟨b,off + i * 3 + 1,none⟩ = some (.int .i64 (x.2.1 : Int)) ∧ w.cell? ⟨b,off + i * 3 + 2,none⟩ = some (.int .i64 (x.2.2 : Int))
def HtIn (w : World) (v : Value) (l : List (Nat × Nat × Nat)) : Prop:=∃ a cap,v = .slice a l.length cap ∧ l.length ≤ maxLen ∧ (l = [] ∨ ∃ b off,a = some ⟨b,off,none⟩ ∧ b < w.heap.size ∧ HtAt w b off l)
theorem HtAt.below {w w' : World} {B b off : Nat} {l : List (Nat × Nat × Nat)} (h : HtAt w b off l) (hb : Below B w w') (hlt : b < B) : HtAt w' b off l:=fun i n hn =>
  ⟨(hb.cell (p:=⟨b,_,none⟩) hlt).trans (h i n hn).1,(hb.cell (p:=⟨b,_,none⟩) hlt).trans (h i n hn).2.1,(hb.cell (p:=⟨b,_,none⟩) hlt).trans (h i n hn).2.2⟩
theorem HtIn.below {w w' : World} {v : Value} {l : List (Nat × Nat × Nat)} (h : HtIn w v l) (hb : Below w.heap.size w w') : HtIn w' v l:=by
  obtain ⟨a,cap,rfl,hm,h | ⟨b,off,rfl,hlt,hn⟩⟩:=h
  · exact ⟨a,cap,rfl,hm,Or.inl h⟩
  · exact ⟨_,cap,rfl,hm,Or.inr ⟨b,off,rfl,Nat.lt_of_lt_of_le hlt hb.size,hn.below hb hlt⟩⟩
theorem htIn_nil (w : World) : HtIn w (.slice none 0 0) []:=⟨none,0,rfl,by simp,Or.inl rfl⟩
def htCells : List (Nat × Nat × Nat) → List Value
  | [] => []
  | x :: r => .int .i64 (x.1 : Int) :: .int .i64 (x.2.1 : Int) :: .int .i64 (x.2.2 : Int) :: htCells r
theorem htCells_append : ∀ (x y : List (Nat × Nat × Nat)),htCells (x ++ y) = htCells x ++ htCells y
  | [],y => rfl
  | n :: r,y => by simp [htCells,htCells_append r y]
theorem htCells_len : ∀ (x : List (Nat × Nat × Nat)),(htCells x).length = x.length * 3
  | [] => rfl
  | n :: r => by simp [htCells,htCells_len r]; omega
theorem htCells_one : ∀ (x : List (Nat × Nat × Nat)),∀ u ∈ htCells x,u.oneCell' = true
  | [],u,h => by simp [htCells] at h
  | n :: r,u,h => by
    simp [htCells] at h
    rcases h with rfl | rfl | rfl | h
    · rfl
    · rfl
    · rfl
    · exact htCells_one r u h
theorem htCells_at : ∀ (l : List (Nat × Nat × Nat)) (i : Nat) (x : Nat × Nat × Nat),l[i]? = some x → (htCells l)[i * 3]? = some (.int .i64 (x.1 : Int)) ∧ (htCells l)[i * 3 + 1]? = some (.int .i64 (x.2.1 : Int)) ∧ (htCells l)[i * 3 + 2]? = some (.int .i64 (x.2.2 : Int))
  | [],i,n,h => by simp at h
  | m :: r,0,n,h => by
    simp at h
    subst h
    exact ⟨rfl,rfl,rfl⟩
  | m :: r,i + 1,n,h => by
    have:=htCells_at r i n (by simpa using h)
    rw [show (i + 1) * 3 = i * 3 + 1 + 1 + 1 by omega]
    simpa [htCells] using this
def HtOwn (w : World) (B : Nat) (v : Value) (l : List (Nat × Nat × Nat)) : Prop:=w.ownsRow B 56 3 v l.length (htCells l)
theorem HtOwn.nil (w : World) (B : Nat) : HtOwn w B (.slice none 0 0) []:=⟨rfl,Or.inl ⟨rfl,rfl⟩⟩
theorem HtOwn.isIn {w : World} {B : Nat} {v : Value} {l : List (Nat × Nat × Nat)} (h : HtOwn w B v l) (hm : l.length ≤ maxLen) : HtIn w v l:=by
  rcases h.2 with ⟨hv,h0⟩ | ⟨g,cap,cur,hv,hb,hg,hc,_⟩
  · have e : l = []:=List.eq_nil_of_length_eq_zero h0
    subst e
    rw [hv]
    exact htIn_nil w
  · refine ⟨_,_,hv,hm,Or.inr ⟨g,0,rfl,?_,?_⟩⟩
    · rcases Nat.lt_or_ge g w.heap.size with h' | h'
      · exact h'
      · rw [Array.getElem?_eq_none h'] at hg; cases hg
    · intro i x hx
      have hc:=htCells_at l i x hx
      have h1:=h.cells (g:=g) (by rw [hv]; rfl) (i * 3) _ hc.1
      have h2:=h.cells (g:=g) (by rw [hv]; rfl) (i * 3 + 1) _ hc.2.1
      have h3:=h.cells (g:=g) (by rw [hv]; rfl) (i * 3 + 2) _ hc.2.2
      rw [Addr.add_lit] at h1 h2 h3
      exact ⟨h1,h2,h3⟩
theorem HtOwn.kept {w w' : World} {B : Nat} {v : Value} {l : List (Nat × Nat × Nat)} (h : HtOwn w B v l) (hb : Below w.heap.size w w') : HtOwn w' B v l:=by
  refine World.ownsRow.kept (row:=none) h ⟨hb.os,hb.tape,hb.output,hb.size,fun k hk _ => hb.block k hk⟩ ?_
  cases hv : v.ownBlock with
  | none => exact Or.inl rfl
  | some x => exact Or.inr (by simp)
theorem HtOwn.form {w : World} {B : Nat} {v : Value} {l : List (Nat × Nat × Nat)} (h : HtOwn w B v l) : ∃ a cap,v = .slice a l.length cap:=by
  rcases h.2 with ⟨hv,h0⟩ | ⟨g,cap,cur,hv,_⟩
  · exact ⟨none,0,by rw [hv,h0]⟩
  · exact ⟨_,_,hv⟩
theorem HtOwn.grown {w w' : World} {B : Nat} {v : Value} {l : List (Nat × Nat × Nat)} (h : HtOwn w B v l) (hB : B ≤ w.heap.size) (hg : w.grownBy w' v.ownBlock) : Below B w w':=by
  refine ⟨hg.os,hg.tape,hg.output,hg.size,fun k hk => hg.block k (by omega) ?_⟩
  intro e
  rcases h.2 with ⟨hv,_⟩ | ⟨b,cap,cur,hv,hb,_⟩
  · rw [hv] at e; cases e
  · rw [hv] at e
    injection e with e
    simp only at e
    omega
theorem wpList_append_ht {ops : Array Oper} {rest : List Oper} {o : Oper} {a : Act} {Q : Exit → Act → World → Prop} {w : World} (hgd : o.guard = none) (s x : Operand)
    (ho : o.op = .call { callee:=.builtin .append,args:=#[s,x],argTypes:=#[43,43] })
    (B : Nat) (v : Value) (hs : a.eval s = v) (l : List (Nat × Nat × Nat)) (hown : HtOwn w B v l) (g2 c2 : Nat) (y : Nat × Nat × Nat) (hx : a.eval x = .slice (some ⟨g2,0,none⟩) 1 c2)
    (hnew : w.cell? ⟨g2,0,none⟩ = some (.int .i64 (y.1 : Int))) (hnew2 : w.cell? ⟨g2,1,none⟩ = some (.int .i64 (y.2.1 : Int))) (hnew3 : w.cell? ⟨g2,2,none⟩ = some (.int .i64 (y.2.2 : Int))) (hlen : l.length ≤ 1000000000) (hbase : B ≤ w.heap.size)
    (h : ∀ g cap w',HtOwn w' B (.slice (some ⟨g,0,none⟩) (l.length + 1) cap) (l ++ [y]) → w.grownBy w' v.ownBlock → B ≤ g → g < w'.heap.size → wpList Tryz.prog ops Q rest (a.put o.dst (.slice (some ⟨g,0,none⟩) (l.length + 1) cap)) w') : wpList Tryz.prog ops Q (o :: rest) a w:=by
  have hinfo : (Tryz.prog.info? 56).map (fun i => (i.zero,i.size,i.bytes)) = some (some (.agg #[.int .i64 0,.int .i64 0,.int .i64 0]),3,24):=by kernel_rfl
  obtain ⟨i0,hi,hz0,hz1,hz2⟩:=info_parts hinfo
  refine wpList_append_lies w hgd s x 43 ho B 56 i0 _ 3 24 Tryz.underlying43 hi hz0 hz1 hz2 rfl (by decide) v l.length (htCells l) hs hown ⟨g2,0,none⟩ 1 c2 (htCells [y]) hx rfl ?_ (htCells_one [y]) (by omega) (by unfold maxLen; omega) (by omega) hbase _ rfl ?_
  · intro j u hj
    match j,hj with
    | 0,hj =>
      simp [htCells] at hj
      subst hj
      rw [Addr.add_lit]
      exact hnew
    | 1,hj =>
      simp [htCells] at hj
      subst hj
      rw [Addr.add_lit]
      exact hnew2
    | 2,hj =>
      simp [htCells] at hj
      subst hj
      rw [Addr.add_lit]
      exact hnew3
    | j + 3,hj => simp [htCells] at hj
  · intro g cap w' h1 h2 h3 h4
    have e : HtOwn w' B (.slice (some ⟨g,0,none⟩) (l.length + 1) cap) (l ++ [y]):=by
      unfold HtOwn
      rw [htCells_append]
      simpa using h1
    have hg : B ≤ g:=by
      rcases h3 with h3 | h3
      · rcases hown.2 with ⟨hv,_⟩ | ⟨g',cap',cur,hv,hb,_⟩
        · rw [hv] at h3; cases h3
        · rw [hv] at h3
          injection h3 with h3
          simp at h3
          omega
      · omega
    exact h g cap w' e h2 hg h4
def HtOff (F : Nat → Prop) (w : World) (v : Value) (l : List (Nat × Nat × Nat)) : Prop:=∃ a cap,v = .slice a l.length cap ∧ l.length ≤ maxLen ∧ (l = [] ∨ ∃ b off,a = some ⟨b,off,none⟩ ∧ b < w.heap.size ∧ ¬ F b ∧ HtAt w b off l)
theorem HtOff.isIn {F : Nat → Prop} {w : World} {v : Value} {l : List (Nat × Nat × Nat)} (h : HtOff F w v l) : HtIn w v l:=by
  obtain ⟨a,cap,h1,h2,h3⟩:=h
  refine ⟨a,cap,h1,h2,?_⟩
  rcases h3 with h3 | ⟨b,off,h4,h5,_,h6⟩
  · exact Or.inl h3
  · exact Or.inr ⟨b,off,h4,h5,h6⟩
theorem HtOff.kept {F G F' : Nat → Prop} {w w' : World} {v : Value} {l : List (Nat × Nat × Nat)} (h : HtOff F w v l) (hb : But G w w') (hG : ∀ k,k < w.heap.size → G k → F k) (hF : ∀ k,k < w.heap.size → F' k → F k) : HtOff F' w' v l:=by
  obtain ⟨a,cap,h1,h2,h3⟩:=h
  refine ⟨a,cap,h1,h2,?_⟩
  rcases h3 with h3 | ⟨b,off,h4,h5,h7,h6⟩
  · exact Or.inl h3
  · have hbk:=hb.block b h5 (fun hg => h7 (hG b h5 hg))
    refine Or.inr ⟨b,off,h4,Nat.lt_of_lt_of_le h5 hb.size,fun hf => h7 (hF b h5 hf),fun i x hx => ?_⟩
    have:=h6 i x hx
    exact ⟨(World.cell?_of_block hbk).trans this.1,(World.cell?_of_block hbk).trans this.2.1,(World.cell?_of_block hbk).trans this.2.2⟩
def ItAt (w : World) (b off : Nat) (l : List (Nat × ByteArray)) : Prop:=∀ (i : Nat) (x : Nat × ByteArray),l[i]? = some x → w.cell? ⟨b,off + i * 2,none⟩ = some (.int .i64 (x.1 : Int)) ∧ w.cell? ⟨b,off + i * 2 + 1,none⟩ = some (.string x.2)
def ItIn (w : World) (v : Value) (l : List (Nat × ByteArray)) : Prop:=∃ a cap,v = .slice a l.length cap ∧ l.length ≤ maxLen ∧ (l = [] ∨ ∃ b off,a = some ⟨b,off,none⟩ ∧ b < w.heap.size ∧ ItAt w b off l)
theorem ItAt.below {w w' : World} {B b off : Nat} {l : List (Nat × ByteArray)} (h : ItAt w b off l) (hb : Below B w w') (hlt : b < B) : ItAt w' b off l:=fun i n hn =>
  ⟨(hb.cell (p:=⟨b,_,none⟩) hlt).trans (h i n hn).1,(hb.cell (p:=⟨b,_,none⟩) hlt).trans (h i n hn).2⟩
theorem ItIn.below {w w' : World} {v : Value} {l : List (Nat × ByteArray)} (h : ItIn w v l) (hb : Below w.heap.size w w') : ItIn w' v l:=by
  obtain ⟨a,cap,rfl,hm,h | ⟨b,off,rfl,hlt,hn⟩⟩:=h
  · exact ⟨a,cap,rfl,hm,Or.inl h⟩
  · exact ⟨_,cap,rfl,hm,Or.inr ⟨b,off,rfl,Nat.lt_of_lt_of_le hlt hb.size,hn.below hb hlt⟩⟩
theorem itIn_nil (w : World) : ItIn w (.slice none 0 0) []:=⟨none,0,rfl,by simp,Or.inl rfl⟩
def itCells : List (Nat × ByteArray) → List Value
  | [] => []
  | x :: r => .int .i64 (x.1 : Int) :: .string x.2 :: itCells r
theorem itCells_append : ∀ (x y : List (Nat × ByteArray)),itCells (x ++ y) = itCells x ++ itCells y
  | [],y => rfl
  | n :: r,y => by simp [itCells,itCells_append r y]
theorem itCells_one : ∀ (x : List (Nat × ByteArray)),∀ u ∈ itCells x,u.oneCell' = true
  | [],u,h => by simp [itCells] at h
  | n :: r,u,h => by
    simp [itCells] at h
    rcases h with rfl | rfl | h
    · rfl
    · rfl
    · exact itCells_one r u h
theorem itCells_at : ∀ (l : List (Nat × ByteArray)) (i : Nat) (x : Nat × ByteArray),l[i]? = some x → (itCells l)[i * 2]? = some (.int .i64 (x.1 : Int)) ∧ (itCells l)[i * 2 + 1]? = some (.string x.2)
  | [],i,n,h => by simp at h
  | m :: r,0,n,h => by
    simp at h
    subst h
    exact ⟨rfl,rfl⟩
  | m :: r,i + 1,n,h => by
    have:=itCells_at r i n (by simpa using h)
    rw [show (i + 1) * 2 = i * 2 + 1 + 1 by omega]
    simpa [itCells] using this
def ItOwn (w : World) (B : Nat) (v : Value) (l : List (Nat × ByteArray)) : Prop:=w.ownsRow B 59 2 v l.length (itCells l)
theorem ItOwn.nil (w : World) (B : Nat) : ItOwn w B (.slice none 0 0) []:=⟨rfl,Or.inl ⟨rfl,rfl⟩⟩
theorem ItOwn.isIn {w : World} {B : Nat} {v : Value} {l : List (Nat × ByteArray)} (h : ItOwn w B v l) (hm : l.length ≤ maxLen) : ItIn w v l:=by
  rcases h.2 with ⟨hv,h0⟩ | ⟨g,cap,cur,hv,hb,hg,hc,_⟩
  · have e : l = []:=List.eq_nil_of_length_eq_zero h0
    subst e
    rw [hv]
    exact itIn_nil w
  · refine ⟨_,_,hv,hm,Or.inr ⟨g,0,rfl,?_,?_⟩⟩
    · rcases Nat.lt_or_ge g w.heap.size with h' | h'
      · exact h'
      · rw [Array.getElem?_eq_none h'] at hg; cases hg
    · intro i x hx
      have hc:=itCells_at l i x hx
      have h1:=h.cells (g:=g) (by rw [hv]; rfl) (i * 2) _ hc.1
      have h2:=h.cells (g:=g) (by rw [hv]; rfl) (i * 2 + 1) _ hc.2
      rw [Addr.add_lit] at h1 h2
      exact ⟨h1,h2⟩
theorem ItOwn.kept {w w' : World} {B : Nat} {v : Value} {l : List (Nat × ByteArray)} (h : ItOwn w B v l) (hb : Below w.heap.size w w') : ItOwn w' B v l:=by
  refine World.ownsRow.kept (row:=none) h ⟨hb.os,hb.tape,hb.output,hb.size,fun k hk _ => hb.block k hk⟩ ?_
  cases hv : v.ownBlock with
  | none => exact Or.inl rfl
  | some x => exact Or.inr (by simp)
theorem ItOwn.form {w : World} {B : Nat} {v : Value} {l : List (Nat × ByteArray)} (h : ItOwn w B v l) : ∃ a cap,v = .slice a l.length cap:=by
  rcases h.2 with ⟨hv,h0⟩ | ⟨g,cap,cur,hv,_⟩
  · exact ⟨none,0,by rw [hv,h0]⟩
  · exact ⟨_,_,hv⟩
theorem ItOwn.grown {w w' : World} {B : Nat} {v : Value} {l : List (Nat × ByteArray)} (h : ItOwn w B v l) (hB : B ≤ w.heap.size) (hg : w.grownBy w' v.ownBlock) : Below B w w':=by
  refine ⟨hg.os,hg.tape,hg.output,hg.size,fun k hk => hg.block k (by omega) ?_⟩
  intro e
  rcases h.2 with ⟨hv,_⟩ | ⟨b,cap,cur,hv,hb,_⟩
  · rw [hv] at e; cases e
  · rw [hv] at e
    injection e with e
    simp only at e
    omega
theorem wpList_append_it {ops : Array Oper} {rest : List Oper} {o : Oper} {a : Act} {Q : Exit → Act → World → Prop} {w : World} (hgd : o.guard = none) (s x : Operand)
    (ho : o.op = .call { callee:=.builtin .append,args:=#[s,x],argTypes:=#[26,26] })
    (B : Nat) (v : Value) (hs : a.eval s = v) (l : List (Nat × ByteArray)) (hown : ItOwn w B v l) (g2 c2 : Nat) (y : Nat × ByteArray) (hx : a.eval x = .slice (some ⟨g2,0,none⟩) 1 c2)
    (hnew : w.cell? ⟨g2,0,none⟩ = some (.int .i64 (y.1 : Int))) (hnew2 : w.cell? ⟨g2,1,none⟩ = some (.string y.2)) (hlen : l.length ≤ 1000000000) (hbase : B ≤ w.heap.size)
    (h : ∀ g cap w',ItOwn w' B (.slice (some ⟨g,0,none⟩) (l.length + 1) cap) (l ++ [y]) → w.grownBy w' v.ownBlock → B ≤ g → g < w'.heap.size → wpList Tryz.prog ops Q rest (a.put o.dst (.slice (some ⟨g,0,none⟩) (l.length + 1) cap)) w') : wpList Tryz.prog ops Q (o :: rest) a w:=by
  have hinfo : (Tryz.prog.info? 59).map (fun i => (i.zero,i.size,i.bytes)) = some (some (.agg #[.int .i64 0,.string ByteArray.empty]),2,24):=by kernel_rfl
  obtain ⟨i0,hi,hz0,hz1,hz2⟩:=info_parts hinfo
  refine wpList_append_lies w hgd s x 26 ho B 59 i0 _ 2 24 Tryz.underlying26 hi hz0 hz1 hz2 rfl (by decide) v l.length (itCells l) hs hown ⟨g2,0,none⟩ 1 c2 (itCells [y]) hx rfl ?_ (itCells_one [y]) (by omega) (by unfold maxLen; omega) (by omega) hbase _ rfl ?_
  · intro j u hj
    match j,hj with
    | 0,hj =>
      simp [itCells] at hj
      subst hj
      rw [Addr.add_lit]
      exact hnew
    | 1,hj =>
      simp [itCells] at hj
      subst hj
      rw [Addr.add_lit]
      exact hnew2
    | j + 2,hj => simp [itCells] at hj
  · intro g cap w' h1 h2 h3 h4
    have e : ItOwn w' B (.slice (some ⟨g,0,none⟩) (l.length + 1) cap) (l ++ [y]):=by
      unfold ItOwn
      rw [itCells_append]
      simpa using h1
    have hg : B ≤ g:=by
      rcases h3 with h3 | h3
      · rcases hown.2 with ⟨hv,_⟩ | ⟨g',cap',cur,hv,hb,_⟩
        · rw [hv] at h3; cases h3
        · rw [hv] at h3
          injection h3 with h3
          simp at h3
          omega
      · omega
    exact h g cap w' e h2 hg h4
structure SetC (X : World → Prop) (Sv : (Nat → Prop) → World → Value → SetS → Prop) : Prop where
  lt : ∀ F w u σ,Sv F w u σ → ∀ k,F k → k < w.heap.size
  ptr : ∀ F w u σ,Sv F w u σ → ∃ a,u = .pointer (some a)
  keep : ∀ F G w w' u σ,Sv F w u σ → But G w w' → (∀ k,G k → ¬ F k) → Sv F w' u σ
  new : ∀ w,X w → Calls Tryz.prog 6 #[] w fun e w' => ∃ u F,e = .returned u ∧ Sv F w' u set0 ∧ Below w.heap.size w w' ∧ ∀ k,F k → w.heap.size ≤ k
  add : ∀ F w u σ (s : ByteArray) n k e σ',X w → Sv F w u σ → σ.Ok → σ.last ≤ 1000000 → s.size ≤ maxLen → AddR σ s n k e σ' → Calls Tryz.prog 8 #[u,.string s] w fun x w' => x = .returned (.tuple #[.int .i64 (n : Int),.int .i64 k,errV e]) ∧ Turns F w w' (fun F' => Sv F' w' u σ')
  remove : ∀ F w u σ (n : Int),X w → Sv F w u σ → σ.Ok → Calls Tryz.prog 11 #[u,.int .i64 n] w fun x w' => x = .returned (errV (σ.delE n)) ∧ Turns F w w' (fun F' => Sv F' w' u (σ.del n))
  list : ∀ F w u σ,X w → Sv F w u σ → σ.Ok → Calls Tryz.prog 17 #[u] w fun x w' => ∃ v,x = .returned v ∧ ItIn w' v σ.items ∧ Below w.heap.size w w'
  scan : ∀ F w u σ (s : ByteArray) e h σ',X w → Sv F w u σ → σ.Ok → s.size ≤ maxLen → ScanR σ s e h σ' → Calls Tryz.prog 14 #[u,.string s] w fun x w' => ∃ v,x = .returned (.tuple #[v,errV e]) ∧ Turns F w w' (fun F' => Sv F' w' u σ' ∧ HtOff F' w' v h)
  filter : ∀ F w u σ (b : Bool),X w → Sv F w u σ → σ.Ok → Calls Tryz.prog 12 #[u,.bool b] w fun x w' => x = .returned (.tuple #[]) ∧ Turns F w w' (fun F' => Sv F' w' u (σ.filt b))
theorem occ_stnd {x s : List UInt8} {i : Nat} (hi : i ≤ s.length) : Lib.occAt s x i = true ↔ (i + x.length ≤ s.length ∧ cut s i (i + x.length) = x):=by
  unfold Lib.occAt cut
  rw [List.isPrefixOf_iff_prefix,List.prefix_iff_eq_take]
  have e : i + x.length - i = x.length:=by omega
  rw [e]
  constructor
  · intro h
    refine ⟨?_,h.symm⟩
    have:=congrArg List.length h
    rw [List.length_take,List.length_drop] at this
    omega
  · rintro ⟨_,h⟩
    exact h.symm
theorem index_stnd (x s : List UInt8) : 0 ≤ Lib.index s x ↔ Stnd x s:=by
  rcases Lib.index_spec s x with ⟨h1,h2⟩ | ⟨i,h1,h2,h3,_⟩
  · rw [h1]
    constructor
    · intro h; omega
    · rintro ⟨i,h3,h4⟩
      have:=(occ_stnd (by omega)).2 ⟨h3,h4⟩
      rw [h2 i (by omega)] at this
      cases this
  · constructor
    · intro _
      exact ⟨i,(occ_stnd h2).1 h3⟩
    · intro _
      omega
theorem try_index (m : Mbr) (s : List UInt8) : m.try s = decide (0 ≤ Lib.index s m.pat.ned):=by
  unfold Mbr.try
  rw [Bool.eq_iff_iff,@decide_eq_true_iff _ (Classical.propDecidable _),decide_eq_true_iff,index_stnd]
theorem all_not (m : Mbr) (hm : m.ok) (s : List UInt8) (l : List (Nat × Nat)) (h : AllR s m.pat 0 l) (ht : m.try s = false) : l = []:=by
  have hn : ∀ i j,¬ Fit s m.pat i j:=by
    intro i j hf
    obtain ⟨p,q,hpq⟩:=ned_fit s m.pat hm.isOk (fun n hn => (hm.good.all n hn).1) i j hf
    obtain ⟨h1,h2⟩:=fit_le s m.pat i j hf
    have hlen:=congrArg List.length hpq
    rw [cut_len h1 h2] at hlen
    simp only [List.length_append] at hlen
    have : m.try s = true:=by
      unfold Mbr.try
      rw [@decide_eq_true_iff _ (Classical.propDecidable _)]
      refine ⟨i + p.length,by omega,?_⟩
      have e1 : cut s (i + p.length) (i + p.length + m.pat.ned.length) = ((cut s i j).drop p.length).take m.pat.ned.length:=by
        unfold cut
        rw [List.drop_take,List.take_take,List.drop_drop]
        congr 1
        omega
      rw [e1,hpq,List.append_assoc,List.drop_left,List.take_left]
    rw [ht] at this
    cases this
  exact h.uniq _ (.nil 0 (fun k _ _ j => hn k j))
theorem alls_try (on : Bool) (s : List UInt8) (ms : List Mbr) (h : List (Nat × Nat × Nat)) (hm : ∀ m ∈ ms,m.ok) (g : AllsR s ms h) : AllsR s (ms.filter (fun m => m.try s || !on)) h:=by
  induction g with
  | nil => exact .nil
  | cons m r l h hl hr ih =>
    have ih:=ih (fun x hx => hm x (by simp [hx]))
    by_cases hc : (m.try s || !on) = true
    · rw [List.filter_cons,if_pos hc]
      exact .cons m _ l h hl ih
    · rw [List.filter_cons,if_neg hc]
      have ht : m.try s = false:=by
        cases h' : m.try s
        · rfl
        · rw [h'] at hc; simp at hc
      rw [all_not m (hm m (by simp)) s l hl ht]
      exact ih
def Mbr.need (m : Mbr) : ByteArray:=⟨m.pat.ned.toArray⟩
def mbCells : List (Mbr × Value) → List Value
  | [] => []
  | x :: r => .int .i64 (x.1.id : Int) :: .string x.1.text :: x.2 :: .string x.1.need :: mbCells r
theorem mbCells_append : ∀ (x y : List (Mbr × Value)),mbCells (x ++ y) = mbCells x ++ mbCells y
  | [],y => rfl
  | n :: r,y => by simp [mbCells,mbCells_append r y]
theorem mbCells_len : ∀ (x : List (Mbr × Value)),(mbCells x).length = x.length * 4
  | [] => rfl
  | n :: r => by simp [mbCells,mbCells_len r]; omega
theorem mbCells_at : ∀ (l : List (Mbr × Value)) (i : Nat) (x : Mbr × Value),l[i]? = some x → (mbCells l)[i * 4]? = some (.int .i64 (x.1.id : Int)) ∧ (mbCells l)[i * 4 + 1]? = some (.string x.1.text) ∧ (mbCells l)[i * 4 + 2]? = some x.2 ∧ (mbCells l)[i * 4 + 3]? = some (.string x.1.need)
  | [],i,n,h => by simp at h
  | m :: r,0,n,h => by
    simp at h
    subst h
    exact ⟨rfl,rfl,rfl,rfl⟩
  | m :: r,i + 1,n,h => by
    have:=mbCells_at r i n (by simpa using h)
    rw [show (i + 1) * 4 = i * 4 + 1 + 1 + 1 + 1 by omega]
    simpa [mbCells] using this
theorem mbCells_take : ∀ (l : List (Mbr × Value)) (i : Nat),mbCells (l.take i) = (mbCells l).take (i * 4)
  | [],i => by simp [mbCells]
  | m :: r,0 => by simp [mbCells]
  | m :: r,i + 1 => by
    rw [show (i + 1) * 4 = i * 4 + 1 + 1 + 1 + 1 by omega]
    simp [mbCells,mbCells_take r i]
theorem mbCells_drop : ∀ (l : List (Mbr × Value)) (i : Nat),mbCells (l.drop i) = (mbCells l).drop (i * 4)
  | [],i => by simp [mbCells]
  | m :: r,0 => by simp
  | m :: r,i + 1 => by
    rw [show (i + 1) * 4 = i * 4 + 1 + 1 + 1 + 1 by omega]
    simp [mbCells,mbCells_drop r i]
def MbOwn (w : World) (B : Nat) (v : Value) (l : List (Mbr × Value)) : Prop:=w.ownsRow B 73 4 v l.length (mbCells l)
theorem MbOwn.nil (w : World) (B : Nat) : MbOwn w B (.slice none 0 0) []:=⟨rfl,Or.inl ⟨rfl,rfl⟩⟩
def FootL (mb : Nat) (v : Value) (ps : List (Mbr × Value)) (k : Nat) : Prop:=k = mb ∨ v.ownBlock = some k ∨ ∃ x ∈ ps,x.2.ownBlock = some k
abbrev boxL (v : Value) (σ : SetS) : Obj:=.cells #[v,.int .i64 (σ.last : Int),.bool σ.on,.int .i64 (σ.tried : Int)] 69 (0,0)
structure MsI (mb : Nat) (v : Value) (ps : List (Mbr × Value)) (σ : SetS) (w : World) : Prop where
  box : w.heap[mb]? = some (boxL v σ)
  row : MbOwn w 0 v ps
  pats : ∀ x ∈ ps,NsOwn w 0 x.2 x.1.pat.flat
  ms : σ.ms = ps.map (·.1)
theorem MsI.lt {mb : Nat} {v : Value} {ps : List (Mbr × Value)} {σ : SetS} {w : World} (h : MsI mb v ps σ w) {k : Nat} (hk : FootL mb v ps k) : k < w.heap.size:=by
  rcases hk with rfl | hk | ⟨x,hx,hk⟩
  · exact hp_lt h.box
  · exact (owns_block h.row hk).2.1
  · exact (owns_block (h.pats x hx) hk).2.1
theorem MsI.keep {mb : Nat} {v : Value} {ps : List (Mbr × Value)} {σ : SetS} {w w' : World} (h : MsI mb v ps σ w) {G : Nat → Prop} (hb : But G w w') (hG : ∀ k,G k → ¬ FootL mb v ps k) : MsI mb v ps σ w':=by
  have key : ∀ k,FootL mb v ps k → w'.heap[k]? = w.heap[k]?:=fun k hk => hb.block k (h.lt hk) (fun hg => hG k hg hk)
  exact ⟨(key mb (Or.inl rfl)).trans h.box,owns_same h.row (fun g e => key g (Or.inr (Or.inl e))),fun x hx => owns_same (h.pats x hx) (fun g e => key g (Or.inr (Or.inr ⟨x,hx,e⟩))),h.ms⟩
theorem MsI.below {mb : Nat} {v : Value} {ps : List (Mbr × Value)} {σ : SetS} {w w' : World} (h : MsI mb v ps σ w) (hb : Below w.heap.size w w') : MsI mb v ps σ w':=h.keep (But.below (F:=fun _ => False) hb) (fun _ h => h.elim)
theorem MsI.put {mb : Nat} {v : Value} {ps : List (Mbr × Value)} {σ σ' : SetS} {w w' : World} (h : MsI mb v ps σ w) (hg : w.grownBy w' (some mb)) (hm : σ'.ms = σ.ms) (hbox : w'.heap[mb]? = some (boxL v σ')) : MsI mb v ps σ' w' :=
  ⟨hbox,owns_other h.row h.box (by decide) hg,fun x hx => owns_other (h.pats x hx) h.box (by decide) hg,hm.trans h.ms⟩
theorem MsI.len {mb : Nat} {v : Value} {ps : List (Mbr × Value)} {σ : SetS} {w : World} (h : MsI mb v ps σ w) : ps.length = σ.ms.length:=by rw [h.ms,List.length_map]
theorem MsI.cells {mb : Nat} {v : Value} {ps : List (Mbr × Value)} {σ : SetS} {w : World} (h : MsI mb v ps σ w) : w.cell? ⟨mb,0,none⟩ = some v ∧ w.cell? ⟨mb,1,none⟩ = some (.int .i64 (σ.last : Int)) ∧ w.cell? ⟨mb,2,none⟩ = some (.bool σ.on) ∧ w.cell? ⟨mb,3,none⟩ = some (.int .i64 (σ.tried : Int)) ∧ ∀ j,w.frozen? ⟨mb,j,none⟩ = false:=by
  have c0:=Lib.cell_of_heap h.box 0
  have c1:=Lib.cell_of_heap h.box 1
  have c2:=Lib.cell_of_heap h.box 2
  have c3:=Lib.cell_of_heap h.box 3
  simp only [List.getElem?_toArray,List.getElem?_cons_zero,List.getElem?_cons_succ] at c0 c1 c2 c3
  exact ⟨c0,c1,c2,c3,fun j => Lib.frozen_of_heap h.box j⟩
def MbAt (w : World) (b : Nat) (l : List (Mbr × Value)) : Prop:=∀ (i : Nat) (x : Mbr × Value),l[i]? = some x → w.cell? ⟨b,i * 4,none⟩ = some (.int .i64 (x.1.id : Int)) ∧ w.cell? ⟨b,i * 4 + 1,none⟩ = some (.string x.1.text) ∧ w.cell? ⟨b,i * 4 + 2,none⟩ = some x.2 ∧ w.cell? ⟨b,i * 4 + 3,none⟩ = some (.string x.1.need)
theorem MbOwn.at {w : World} {B : Nat} {v : Value} {l : List (Mbr × Value)} (h : MbOwn w B v l) : ∃ a cap,v = .slice a l.length cap ∧ (l = [] ∨ ∃ b,a = some ⟨b,0,none⟩ ∧ MbAt w b l):=by
  rcases h.2 with ⟨hv,h0⟩ | ⟨g,cap,cur,hv,hb,hg,hc,_⟩
  · exact ⟨none,0,by rw [hv,h0],Or.inl (List.eq_nil_of_length_eq_zero h0)⟩
  · refine ⟨_,_,hv,Or.inr ⟨g,rfl,fun i x hx => ?_⟩⟩
    obtain ⟨e0,e1,e2,e3⟩:=mbCells_at l i x hx
    have h0:=World.ownsRow.cells h (g:=g) (by rw [hv]; rfl) (i * 4) _ e0
    have h1:=World.ownsRow.cells h (g:=g) (by rw [hv]; rfl) (i * 4 + 1) _ e1
    have h2:=World.ownsRow.cells h (g:=g) (by rw [hv]; rfl) (i * 4 + 2) _ e2
    have h3:=World.ownsRow.cells h (g:=g) (by rw [hv]; rfl) (i * 4 + 3) _ e3
    rw [Addr.add_lit,Nat.zero_add] at h0 h1 h2 h3
    exact ⟨h0,h1,h2,h3⟩
def SvL (F : Nat → Prop) (w : World) (u : Value) (σ : SetS) : Prop:=∃ mb v ps,u = .pointer (some ⟨mb,0,none⟩) ∧ MsI mb v ps σ w ∧ ∀ k,F k ↔ FootL mb v ps k
theorem SvL.lt {F : Nat → Prop} {w : World} {u : Value} {σ : SetS} (h : SvL F w u σ) : ∀ k,F k → k < w.heap.size:=by
  obtain ⟨mb,v,ps,rfl,hm,hF⟩:=h
  exact fun k hk => hm.lt ((hF k).1 hk)
theorem SvL.ptr {F : Nat → Prop} {w : World} {u : Value} {σ : SetS} (h : SvL F w u σ) : ∃ a,u = .pointer (some a):=by
  obtain ⟨mb,v,ps,rfl,hm,hF⟩:=h
  exact ⟨_,rfl⟩
theorem SvL.keep {F G : Nat → Prop} {w w' : World} {u : Value} {σ : SetS} (h : SvL F w u σ) (hb : But G w w') (hG : ∀ k,G k → ¬ F k) : SvL F w' u σ:=by
  obtain ⟨mb,v,ps,rfl,hm,hF⟩:=h
  exact ⟨mb,v,ps,rfl,hm.keep hb (fun k hk hf => hG k hk ((hF k).2 hf)),hF⟩
structure SetT (X : World → Prop) (Sv : (Nat → Prop) → World → Value → SetS → Prop) : Prop where
  tried : ∀ F w u σ,X w → Sv F w u σ → σ.Ok → Calls Tryz.prog 18 #[u] w fun x w' => x = .returned (.int .i64 (σ.tried : Int)) ∧ Below w.heap.size w w'
def NewAt (B : Nat) (v : Value) : Prop:=∀ k,v.ownBlock = some k → B ≤ k
structure SetN (X : World → Prop) (Sv : (Nat → Prop) → World → Value → SetS → Prop) : Prop where
  list : ∀ F w u σ,X w → Sv F w u σ → σ.Ok → Calls Tryz.prog 17 #[u] w fun x w' => ∃ v,x = .returned v ∧ (ItIn w' v σ.items ∧ NewAt w.heap.size v) ∧ Below w.heap.size w w'
  scan : ∀ F w u σ (s : ByteArray) e h σ',X w → Sv F w u σ → σ.Ok → s.size ≤ maxLen → ScanR σ s e h σ' → Calls Tryz.prog 14 #[u,.string s] w fun x w' => ∃ v,x = .returned (.tuple #[v,errV e]) ∧ NewAt w.heap.size v ∧ Turns F w w' (fun F' => Sv F' w' u σ' ∧ HtOff F' w' v h)
def ItOff (F : Nat → Prop) (w : World) (v : Value) (l : List (Nat × ByteArray)) : Prop:=∃ a cap,v = .slice a l.length cap ∧ l.length ≤ maxLen ∧ (l = [] ∨ ∃ b off,a = some ⟨b,off,none⟩ ∧ b < w.heap.size ∧ ¬ F b ∧ ItAt w b off l)
theorem ItOff.kept {F G F' : Nat → Prop} {w w' : World} {v : Value} {l : List (Nat × ByteArray)} (h : ItOff F w v l) (hb : But G w w') (hG : ∀ k,k < w.heap.size → G k → F k) (hF : ∀ k,k < w.heap.size → F' k → F k) : ItOff F' w' v l:=by
  obtain ⟨a,cap,h1,h2,h3⟩:=h
  refine ⟨a,cap,h1,h2,?_⟩
  rcases h3 with h3 | ⟨b,off,h4,h5,h7,h6⟩
  · exact Or.inl h3
  · have hbk:=hb.block b h5 (fun hg => h7 (hG b h5 hg))
    refine Or.inr ⟨b,off,h4,Nat.lt_of_lt_of_le h5 hb.size,fun hf => h7 (hF b h5 hf),fun i x hx => ?_⟩
    have:=h6 i x hx
    exact ⟨(World.cell?_of_block hbk).trans this.1,(World.cell?_of_block hbk).trans this.2⟩
theorem lnew_any (w : World) : Calls Tryz.prog 6 #[] w fun e w' => ∃ u F,e = .returned u ∧ SvL F w' u set0 ∧ Below w.heap.size w w' ∧ ∀ k,F k → w.heap.size ≤ k:=by
  go_enter Tryz.func6,Tryz.ntmps6
  go_wp2
  go_ret
  refine ⟨_,FootL w.heap.size (.slice none 0 0) [],rfl,⟨w.heap.size,.slice none 0 0,[],rfl,⟨?_,MbOwn.nil _ _,fun x hx => by simp at hx,rfl⟩,fun k => Iff.rfl⟩,(Below.refl _ _).alloc (Nat.le_refl _) _,?_⟩
  · exact World.alloc_heap_new w _
  · rintro k (rfl | hk | ⟨x,hx,_⟩)
    · exact Nat.le_refl _
    · cases hk
    · simp at hx
theorem lfilter_any (mb : Nat) (v : Value) (ps : List (Mbr × Value)) (σ : SetS) (w : World) (h : MsI mb v ps σ w) (b : Bool) : Calls Tryz.prog 12 #[.pointer (some ⟨mb,0,none⟩),.bool b] w fun e w' => e = .returned (.tuple #[]) ∧ MsI mb v ps (σ.filt b) w' ∧ But (FootL mb v ps) w w':=by
  obtain ⟨c0,c1,c2,c3,f⟩:=h.cells
  have f2:=f 2
  have H:=hid h
  clear h f
  go_enter Tryz.func12,Tryz.ntmps12
  go_wp2
  go_end0
  have hg:=grown_cellR w ⟨mb,2,none⟩ (.bool b)
  refine ⟨rfl,H.out.put hg rfl ?_,But.grown hg (fun k e => by injection e with e; exact Or.inl e.symm)⟩
  simp [World.setCell,Array.getElem?_modify,H.out.box,SetS.filt]
theorem ltried_any (mb : Nat) (v : Value) (ps : List (Mbr × Value)) (σ : SetS) (w : World) (h : MsI mb v ps σ w) : Calls Tryz.prog 18 #[.pointer (some ⟨mb,0,none⟩)] w fun e w' => e = .returned (.int .i64 (σ.tried : Int)) ∧ w' = w:=by
  obtain ⟨c0,c1,c2,c3,f⟩:=h.cells
  clear h f
  go_enter Tryz.func18,Tryz.ntmps18
  go_wp2
  go_ret
  exact ⟨rfl,rfl⟩
theorem items_take {σ : SetS} {ps : List (Mbr × Value)} (h : σ.ms = ps.map (·.1)) {i : Nat} {x : Mbr × Value} (hx : ps[i]? = some x) : σ.items.take (i + 1) = σ.items.take i ++ [(x.1.id,x.1.text)]:=by
  rw [List.take_add_one]
  congr 1
  unfold SetS.items
  rw [h,List.getElem?_map,List.getElem?_map,hx]
  rfl
theorem llist_any (mb : Nat) (v : Value) (ps : List (Mbr × Value)) (σ : SetS) (w : World) (h : MsI mb v ps σ w) (hσ : σ.Ok) : Calls Tryz.prog 17 #[.pointer (some ⟨mb,0,none⟩)] w fun e w' => ∃ u,e = .returned u ∧ ItOwn w' w.heap.size u σ.items ∧ Below w.heap.size w w':=by
  obtain ⟨c0,c1,c2,c3,f⟩:=h.cells
  have hl : ps.length ≤ 12:=by rw [h.len]; exact hσ.len
  have HIL : Hid (σ.items.length = ps.length):=by show _ = _; rw [h.len]; simp [SetS.items]
  obtain ⟨a,cap,rfl,hat⟩:=MbOwn.at h.row
  have H:=hid h
  have HAT:=hid hat
  have HI0 : Hid (ItOwn w w.heap.size (.slice none 0 0) (σ.items.take 0) ∧ Below w.heap.size w w):=⟨ItOwn.nil _ _,Below.refl _ _⟩
  clear h f hσ hat c1 c2 c3
  go_enter Tryz.func17,Tryz.ntmps17
  go_wp2_with fail
  go_loopw [3,11] (fun u v wr => ∃ i : Nat,i ≤ ps.length ∧ v = .int .i64 (i : Int) ∧ Hid (ItOwn wr w.heap.size u (σ.items.take i) ∧ Below w.heap.size w wr)) (fun _ v _ => ps.length - (intOf v).toNat)
  case atStart => exact ⟨0,by omega,rfl,HI0⟩
  case round =>
    clear HI0
    obtain ⟨i,hi,rfl,HA⟩:=hrel
    by_cases hil : i < ps.length
    · obtain ⟨x,hx⟩ : ∃ x,ps[i]? = some x:=⟨ps[i],List.getElem?_eq_getElem hil⟩
      have i0 : (0 : Int) ≤ (i : Int):=by omega
      have i1 : (i : Int) < (ps.length : Int):=by omega
      obtain ⟨b,hb⟩ : ∃ b,a = some ⟨b,0,none⟩:=by
        rcases HAT.out with h | ⟨b,h,_⟩
        · rw [h] at hil; simp at hil
        · exact ⟨b,h⟩
      subst hb
      have HRD : Hid (∀ w',Below w.heap.size w w' → MbAt w' b ps):=fun w' hb => by
        obtain ⟨a',c',e,h⟩:=MbOwn.at (H.out.below hb).row
        injection e with e _ _
        rcases h with h | ⟨b',h1,h2⟩
        · rw [h] at hil; simp at hil
        · rw [← e] at h1
          injection h1 with h1
          injection h1 with h1 _ _
          rw [h1]
          exact h2
      obtain ⟨za,zn,zc,hz⟩ : ∃ a n c,x.2 = .slice a n c:=by
        obtain ⟨a,c,e⟩:=owns_form (H.out.pats x (List.mem_of_getElem? hx))
        exact ⟨a,_,c,e⟩
      obtain ⟨m,z⟩:=x
      simp only at hz
      subst hz
      obtain ⟨x0,x1,x2,x3⟩:=HRD.out wr HA.out.2 i _ hx
      simp only at x0 x1 x2 x3
      obtain ⟨T,hT⟩ : ∃ T,T = σ.items.take i:=⟨_,rfl⟩
      have hTl : T.length ≤ 12:=by rw [hT,List.length_take]; omega
      have HST:=hid (items_take H.out.ms hx)
      rw [← hT] at HA HST
      obtain ⟨ua,uc,rfl⟩:=HA.out.1.form
      have hbA : Below wr.heap.size wr ((wr.alloc (.cells #[.int .i64 (m.id : Int),.string m.text,.slice za zn zc,.string m.need] 73)).alloc (.cells #[.int .i64 (m.id : Int),.string m.text] 59)):=((Below.refl _ _).alloc (Nat.le_refl _) _).alloc (by simp) _
      have HO:=hid (owns_below HA.out.1 hbA)
      have HBA:=hid hbA
      clear hx hT hbA c0
      go_wp2_with (at_builtin; refine wpList_append_it rfl _ _ rfl w.heap.size _ rfl T HO.out (wr.heap.size + 1) 1 (m.id,m.text) rfl (by rw [World.cell?_alloc_at (w:=wr.alloc _) _ _ (wr.heap.size + 1) 0 (by simp)]; rfl) (by rw [World.cell?_alloc_at (w:=wr.alloc _) _ _ (wr.heap.size + 1) 1 (by simp)]; rfl) (by omega) (by have:=HA.out.2.size; simp; omega) ?_; intro g2 cap2 w2 ho2 hg2 _ _)
      have HA2 : Hid (ItOwn w2 w.heap.size (.slice (some ⟨g2,0,none⟩) (T.length + 1) cap2) (σ.items.take (i + 1)) ∧ Below w.heap.size w w2):=⟨by rw [HST.out]; exact ho2,(HA.out.2.trans (HBA.out.mono HA.out.2.size)).trans (owns_grown HO.out (by have:=HA.out.2.size; simp; omega) hg2)⟩
      exact ⟨⟨i + 1,by omega,by go_num,HA2⟩,by simp [intOf]; omega⟩
    · have g1 : ¬ (i : Int) < (ps.length : Int):=by omega
      have HZ : Hid (ItOwn wr w.heap.size u3 σ.items ∧ Below w.heap.size w wr):=by
        have h:=HA.out
        rw [List.take_of_length_le (by have:=HIL.out; omega)] at h
        exact h
      clear HA
      go_wp2
      go_ret
      exact ⟨_,rfl,HZ.out.1,HZ.out.2⟩
theorem mbCells_one1 (y : Mbr × Value) (h : y.2.oneCell' = true) : ∀ u ∈ mbCells [y],u.oneCell' = true:=by
  intro u hu
  simp [mbCells] at hu
  rcases hu with rfl | rfl | rfl | rfl
  · rfl
  · rfl
  · exact h
  · rfl
theorem mbCells_lie {W : World} {g2 : Nat} {y : Mbr × Value} (h0 : W.cell? ⟨g2,0,none⟩ = some (.int .i64 (y.1.id : Int))) (h1 : W.cell? ⟨g2,1,none⟩ = some (.string y.1.text)) (h2 : W.cell? ⟨g2,2,none⟩ = some y.2) (h3 : W.cell? ⟨g2,3,none⟩ = some (.string y.1.need)) :
    ∀ j u,(mbCells [y])[j]? = some u → W.cell? ((⟨g2,0,none⟩ : Addr).add j) = some u:=by
  intro j u hj
  match j,hj with
  | 0,hj =>
    simp [mbCells] at hj
    subst hj
    rw [Addr.add_lit]
    exact h0
  | 1,hj =>
    simp [mbCells] at hj
    subst hj
    rw [Addr.add_lit]
    exact h1
  | 2,hj =>
    simp [mbCells] at hj
    subst hj
    rw [Addr.add_lit]
    exact h2
  | 3,hj =>
    simp [mbCells] at hj
    subst hj
    rw [Addr.add_lit]
    exact h3
  | j + 4,hj => simp [mbCells] at hj
theorem mb_info : (Tryz.prog.info? 73).map (fun i => (i.zero,i.size,i.bytes)) = some (some (.agg #[.int .i64 0,.string ByteArray.empty,.slice none 0 0,.string ByteArray.empty]),4,64):=by kernel_rfl
theorem step_append_mb {ops : Array Oper} {o : Oper} {a : Act} {K : Act → World → Prop} {Q : Exit → Act → World → Prop} {E : Prop} {w : World} (hgd : o.guard = none) (s x : Operand)
    (ho : o.op = .call { callee:=.builtin .append,args:=#[s,x],argTypes:=#[67,67] })
    (B : Nat) (v : Value) (hs : a.eval s = v) (l : List (Mbr × Value)) (hown : MbOwn w B v l) (g2 c2 : Nat) (y : Mbr × Value) (hy : y.2.oneCell' = true) (hx : a.eval x = .slice (some ⟨g2,0,none⟩) 1 c2)
    (h0 : w.cell? ⟨g2,0,none⟩ = some (.int .i64 (y.1.id : Int))) (h1 : w.cell? ⟨g2,1,none⟩ = some (.string y.1.text)) (h2 : w.cell? ⟨g2,2,none⟩ = some y.2) (h3 : w.cell? ⟨g2,3,none⟩ = some (.string y.1.need)) (hlen : l.length ≤ 1000000000) (hbase : B ≤ w.heap.size)
    (h : ∀ g cap w',MbOwn w' B (.slice (some ⟨g,0,none⟩) (l.length + 1) cap) (l ++ [y]) → w.grownBy w' v.ownBlock → (v.ownBlock = some g ∨ w.heap.size ≤ g) → g < w'.heap.size → K (a.put o.dst (.slice (some ⟨g,0,none⟩) (l.length + 1) cap)) w') :
    if Region.wanted o (yielded ops a.tmps) = true then Oper.wp Tryz.prog o a w K Q else E:=by
  obtain ⟨i0,hi,hz0,hz1,hz2⟩:=info_parts mb_info
  refine step_append_lies w hgd s x 67 ho B 73 i0 _ 4 64 Tryz.underlying67 hi hz0 hz1 hz2 rfl (by decide) v l.length (mbCells l) hs hown ⟨g2,0,none⟩ 1 c2 (mbCells [y]) hx rfl (mbCells_lie h0 h1 h2 h3) (mbCells_one1 y hy) (by omega) (by unfold maxLen; omega) (by omega) hbase w.heap.size rfl ?_
  intro g cap w' h1 h2 h3 h4
  refine h g cap w' ?_ h2 (h3.imp id (fun e => by omega)) h4
  unfold MbOwn
  rw [mbCells_append,List.length_append]
  exact h1
theorem wpList_append_mb {ops : Array Oper} {rest : List Oper} {o : Oper} {a : Act} {Q : Exit → Act → World → Prop} {w : World} (hgd : o.guard = none) (s x : Operand)
    (ho : o.op = .call { callee:=.builtin .append,args:=#[s,x],argTypes:=#[67,67] })
    (B : Nat) (v : Value) (hs : a.eval s = v) (l : List (Mbr × Value)) (hown : MbOwn w B v l) (g2 c2 : Nat) (y : Mbr × Value) (hy : y.2.oneCell' = true) (hx : a.eval x = .slice (some ⟨g2,0,none⟩) 1 c2)
    (h0 : w.cell? ⟨g2,0,none⟩ = some (.int .i64 (y.1.id : Int))) (h1 : w.cell? ⟨g2,1,none⟩ = some (.string y.1.text)) (h2 : w.cell? ⟨g2,2,none⟩ = some y.2) (h3 : w.cell? ⟨g2,3,none⟩ = some (.string y.1.need)) (hlen : l.length ≤ 1000000000) (hbase : B ≤ w.heap.size)
    (h : ∀ g cap w',MbOwn w' B (.slice (some ⟨g,0,none⟩) (l.length + 1) cap) (l ++ [y]) → w.grownBy w' v.ownBlock → wpList Tryz.prog ops Q rest (a.put o.dst (.slice (some ⟨g,0,none⟩) (l.length + 1) cap)) w') : wpList Tryz.prog ops Q (o :: rest) a w:=by
  obtain ⟨i0,hi,hz0,hz1,hz2⟩:=info_parts mb_info
  refine wpList_append_lies w hgd s x 67 ho B 73 i0 _ 4 64 Tryz.underlying67 hi hz0 hz1 hz2 rfl (by decide) v l.length (mbCells l) hs hown ⟨g2,0,none⟩ 1 c2 (mbCells [y]) hx rfl (mbCells_lie h0 h1 h2 h3) (mbCells_one1 y hy) (by omega) (by unfold maxLen; omega) (by omega) hbase w.heap.size rfl ?_
  intro g cap w' h1 h2 h3 h4
  refine h g cap w' ?_ h2
  unfold MbOwn
  rw [mbCells_append,List.length_append]
  exact h1
theorem has_any (k : C4) (x : Int) (w : World) (h : 0 ≤ x) (h2 : x < 256) :
    Calls Tryz.prog 141 #[k.v,.int .u8 x] w fun e w' => e = .returned (.bool (k.hasI x)) ∧ Below w.heap.size w w':=by
  have hw:=k.get (x/64).toNat (by omega)
  go_enter Tryz.func141,Tryz.ntmps141
  go_wp2
  go_ret
  exact ⟨rfl,(Below.refl _ _).alloc (Nat.le_refl _) _⟩
theorem with_any (k : C4) (x : Int) (w : World) (h : 0 ≤ x) (h2 : x < 256) :
    Calls Tryz.prog 128 #[k.v,.int .u8 x] w fun e w' => e = .returned (k.add x).v ∧ Below w.heap.size w w':=by
  have hw:=k.get (x/64).toNat (by omega)
  have hs:=k.set (x/64).toNat (by omega)
  go_enter Tryz.func128,Tryz.ntmps128
  go_wp2
  refine bodyPost_ret (v:=(k.add x).v) (by simp [results,Tryz.results128,go_sem]; exact ⟨rfl,rfl,rfl,rfl⟩) rfl ⟨rfl,?_⟩
  exact ((Below.refl _ _).alloc (Nat.le_refl _) _).alloc (by simp) _
theorem not1_any (x y : Int) (w : World) :
    Calls Tryz.prog 143 #[.int .u64 x,.int .u64 y] w fun e w' => e = .returned (.int .u64 (not64 x)) ∧ w' = w:=by
  have hs : ¬ IntKind.u64.signed = true:=by decide
  go_enter Tryz.func143,Tryz.ntmps143
  go_wp2
  all_goals first | (exfalso; exact hs ‹_›) | skip
  all_goals (go_ret; exact ⟨rfl,rfl⟩)
theorem ones_any (x : Int) (w : World) :
    Calls Tryz.prog 159 #[.int .u64 x] w fun e w' => e = .returned (.int .i64 (ones x)) ∧ w' = w:=by
  go_enter Tryz.func159,Tryz.ntmps159
  go_wp2
  go_ret
  exact ⟨rfl,rfl⟩
theorem join_any (g : Nat) (F : Int → Int → Int) (hg : ∀ (p q : Int) (w : World),Calls Tryz.prog g #[.int .u64 p,.int .u64 q] w fun e w' => e = .returned (.int .u64 (F p q)) ∧ w' = w)
    (he : ∀ args w,(callFunc g args).run Tryz.prog w = .ok (.enter g args) w) (x y : C4) (w : World) :
    Calls Tryz.prog 142 #[x.v,y.v,.func (.func g) #[] #[]] w fun e w' => e = .returned (jn F x y 4).v ∧ Below w.heap.size w w':=by
  have HG:=(show Hid _ from hg)
  clear hg
  go_enter Tryz.func142,Tryz.ntmps142
  go_wp2
  go_loopw [9] (fun i wr => ∃ k : Nat,k ≤ 4 ∧ i = .int .i64 k ∧ Below w.heap.size w wr ∧ Hb wr w.heap.size x ∧ Hb wr (w.heap.size + 1) y ∧ Hb wr (w.heap.size + 1 + 1) z4 ∧ Hb wr (w.heap.size + 1 + 1 + 1) (jn F x y k)) (fun i _ => 4 - (intOf i).toNat)
  case atStart =>
    refine ⟨0,by omega,rfl,?_,?_,?_,?_,?_⟩
    · exact ((((Below.refl _ _).alloc (Nat.le_refl _) _).alloc (by simp) _).alloc (by simp; omega) _).alloc (by simp; omega) _
    · exact (((Hb.new _ x _ rfl).alloc _).alloc _).alloc _
    · exact ((Hb.new _ y _ (by simp)).alloc _).alloc _
    · exact (Hb.new _ z4 _ (by simp)).alloc _
    · exact Hb.new _ (jn F x y 0) _ (by simp)
  case round =>
    obtain ⟨k,hk,rfl,hB,hX,hY,hZ,hJ⟩:=hrel
    by_cases hlt : k < 4
    · have cx:=hX.cell k hlt
      have cy:=hY.cell k hlt
      have cj:=hJ.cell k hlt
      have fj:=hJ.frozen k
      have i0 : (0 : Int) ≤ (k : Int):=by omega
      have i1 : (k : Int) < 4:=by omega
      have sx:=fun v => (hX.other ⟨w.heap.size + 1 + 1 + 1,k,none⟩ v (by simp only; omega)).cell k hlt
      have sy:=fun v => (hY.other ⟨w.heap.size + 1 + 1 + 1,k,none⟩ v (by simp only; omega)).cell k hlt
      go_wp2_with fail
      go_region_held3 (fun w' => w'.cell? ⟨w.heap.size,k,none⟩ = some (.int .u64 (x.w k)) ∧ w'.cell? ⟨w.heap.size + 1,k,none⟩ = some (.int .u64 (y.w k))) (go_keep)
        (first | (refine (HG.out _ _ _).mono ?_; rintro e w' ⟨rfl,rfl⟩))
      all_goals go_wp2
      refine ⟨⟨k + 1,by omega,by go_num,?_,?_,?_,?_,?_⟩,by simp [intOf]; omega⟩
      · exact (hB.setCell (by simp; omega) _).drew
      · exact (hX.other _ _ (by simp only; omega)).drew
      · exact (hY.other _ _ (by simp only; omega)).drew
      · exact (hZ.other _ _ (by simp only; omega)).drew
      · rw [← jn_put F x y k hlt]
        exact (hJ.store k hlt _).drew
    · have hk4 : k = 4:=by omega
      subst hk4
      have c0:=hJ.c0
      have c1:=hJ.c1
      have c2:=hJ.c2
      have c3:=hJ.c3
      have d0:=hZ.c0
      have d1:=hZ.c1
      have d2:=hZ.c2
      have d3:=hZ.c3
      have f0:=hZ.frozen 0
      have f1:=hZ.frozen 1
      have f2:=hZ.frozen 2
      have f3:=hZ.frozen 3
      go_wp2
      have hq:=hZ.put4 (jn F x y 4)
      refine bodyPost_ret (v:=(jn F x y 4).v) (by simp [results,Tryz.results142,go_sem,hq.c0,hq.c1,hq.c2,hq.c3]) rfl ⟨rfl,?_⟩
      exact (((hB.setCell (by simp; omega) _).setCell (by simp; omega) _).setCell (by simp; omega) _).setCell (by simp; omega) _
theorem enters_not1 : ∀ args w,(callFunc 143 args).run Tryz.prog w = .ok (.enter 143 args) w:=fun _ _ => by kernel_rfl
theorem either1_any (x y : Int) (w : World) :
    Calls Tryz.prog 154 #[.int .u64 x,.int .u64 y] w fun e w' => e = .returned (.int .u64 (bits .or .u64 x y)) ∧ w' = w:=by
  go_enter Tryz.func154,Tryz.ntmps154
  go_wp2
  go_ret
  exact ⟨rfl,rfl⟩
theorem enters_either1 : ∀ args w,(callFunc 154 args).run Tryz.prog w = .ok (.enter 154 args) w:=fun _ _ => by kernel_rfl
theorem either_any (x y : C4) (w : World) :
    Calls Tryz.prog 145 #[x.v,y.v] w fun e w' => e = .returned (x.or y).v ∧ Below w.heap.size w w':=by
  go_enter Tryz.func145,Tryz.ntmps145
  go_wp2_with fail
  refine (join_any 154 _ either1_any enters_either1 x y _).mono ?_
  rintro e w1 ⟨rfl,hb⟩
  have hB : Below w.heap.size w w1:=((((Below.refl _ _).alloc (Nat.le_refl _) _).alloc (by simp) _).alloc (by simp; omega) _).trans (hb.mono (by simp; omega))
  have hZ : Hb w1 (w.heap.size + 1 + 1) z4:=(Hb.new _ z4 _ (by simp)).below hb (by simp)
  obtain ⟨d0,d1,d2,d3,f0,f1,f2,f3⟩:=hZ.all
  go_wp2
  have hq:=hZ.put4 (x.or y)
  refine bodyPost_ret (v:=(x.or y).v) (by have g0:=hq.c0; have g1:=hq.c1; have g2:=hq.c2; have g3:=hq.c3; simp [jn,C4.and,C4.or,C4.not] at g0 g1 g2 g3 ⊢; simp [results,Tryz.results145,go_sem,C4.and,C4.or,g0,g1,g2,g3]) rfl ⟨rfl,?_⟩
  exact below_put4 hB (by omega) _
theorem wpList_append_ns {ops : Array Oper} {rest : List Oper} {o : Oper} {a : Act} {Q : Exit → Act → World → Prop} {w : World} (hgd : o.guard = none) (s x : Operand)
    (ho : o.op = .call { callee:=.builtin .append,args:=#[s,x],argTypes:=#[60,60] })
    (B : Nat) (v : Value) (hs : a.eval s = v) (ns : List Nd) (hown : NsOwn w B v ns) (g2 m2 c2 : Nat) (ms : List Nd) (hx : a.eval x = .slice (some ⟨g2,0,none⟩) m2 c2) (hm2 : m2 = ms.length)
    (hnews : ∀ j u,(nsCells ms)[j]? = some u → w.cell? ⟨g2,j,none⟩ = some u) (hm : 0 < ms.length) (hbytes : (ns.length + ms.length) * 40 ≤ 140737488355328) (hbase : B ≤ w.heap.size)
    (h : ∀ g cap w',NsOwn w' B (.slice (some ⟨g,0,none⟩) (ns.length + ms.length) cap) (ns ++ ms) → w.grownBy w' v.ownBlock → B ≤ g → g < w'.heap.size → wpList Tryz.prog ops Q rest (a.put o.dst (.slice (some ⟨g,0,none⟩) (ns.length + ms.length) cap)) w') : wpList Tryz.prog ops Q (o :: rest) a w:=by
  subst hm2
  have hinfo : (Tryz.prog.info? 106).map (fun i => (i.zero,i.size,i.bytes)) = some (some (.agg #[.int .i64 0,.int .u64 0,.int .u64 0,.int .u64 0,.int .u64 0]),5,40):=by kernel_rfl
  obtain ⟨i0,hi,hz0,hz1,hz2⟩:=info_parts hinfo
  refine wpList_append_lies w hgd s x 60 ho B 106 i0 _ 5 40 Tryz.underlying60 hi hz0 hz1 hz2 rfl (by decide) v ns.length (nsCells ns) hs hown ⟨g2,0,none⟩ ms.length c2 (nsCells ms) hx (nsCells_len ms) ?_ (nsCells_one ms) hm (by unfold maxLen; omega) hbytes hbase w.heap.size rfl ?_
  · intro j u hj
    have e : (⟨g2,0,none⟩ : Addr).add j = ⟨g2,j,none⟩:=by
      rcases j with _ | j <;> simp [Addr.add]
    rw [e]
    exact hnews j u hj
  · intro g cap w' h1 h2 h3 h4
    have e : NsOwn w' B (.slice (some ⟨g,0,none⟩) (ns.length + ms.length) cap) (ns ++ ms):=by
      unfold NsOwn
      rw [nsCells_append,List.length_append]
      exact h1
    have hg : B ≤ g:=by
      rcases h3 with h3 | h3
      · rcases hown.2 with ⟨hv,_⟩ | ⟨g',cap',cur,hv,hb,_⟩
        · rw [hv] at h3; cases h3
        · rw [hv] at h3
          injection h3 with h3
          simp at h3
          omega
      · omega
    exact h g cap w' e h2 hg h4
theorem NsOwn.keptG {w w' : World} {B g : Nat} {v : Value} {ns : List Nd} (h : NsOwn w B v ns) (hg : w.grownBy w' (some g)) (hlt : g < B) : NsOwn w' B v ns:=by
  refine World.ownsRow.kept h hg ?_
  rcases h.2 with ⟨hv,_⟩ | ⟨b,cap,cur,hv,hb,_⟩
  · rw [hv]; exact Or.inl rfl
  · rw [hv]
    refine Or.inr ?_
    intro e
    injection e with e
    simp only at e
    omega
def Rdr (w : World) (g : Nat) (s : ByteArray) (a : Int) (v : Value) (st : Bool) : Prop:=w.heap[g]? = some (.cells #[.string s,.int .i64 a,v,.bool st] 116 (0,0))
theorem Rdr.all {w : World} {g : Nat} {s : ByteArray} {a : Int} {v : Value} {st : Bool} (h : Rdr w g s a v st) : w.cell? ⟨g,0,none⟩ = some (.string s) ∧ w.cell? ⟨g,1,none⟩ = some (.int .i64 a) ∧ w.cell? ⟨g,2,none⟩ = some v ∧ w.cell? ⟨g,3,none⟩ = some (.bool st) ∧ w.frozen? ⟨g,1,none⟩ = false ∧ w.frozen? ⟨g,2,none⟩ = false ∧ w.frozen? ⟨g,3,none⟩ = false:=by
  refine ⟨?_,?_,?_,?_,Lib.frozen_of_heap h 1,Lib.frozen_of_heap h 2,Lib.frozen_of_heap h 3⟩ <;> (rw [Lib.cell_of_heap h]; rfl)
theorem Rdr.lt {w : World} {g : Nat} {s : ByteArray} {a : Int} {v : Value} {st : Bool} (h : Rdr w g s a v st) : g < w.heap.size:=by
  rcases Nat.lt_or_ge g w.heap.size with h' | h'
  · exact h'
  · simp [Rdr,Array.getElem?_eq_none h'] at h
theorem Rdr.setPlace {w : World} {g : Nat} {s : ByteArray} {a : Int} {v : Value} {st : Bool} (h : Rdr w g s a v st) (z : Int) : Rdr (w.setCell ⟨g,1,none⟩ (.int .i64 z)) g s z v st:=by
  simp only [Rdr] at h ⊢
  simp [World.setCell,Array.getElem?_modify,h]
theorem Rdr.setNodes {w : World} {g : Nat} {s : ByteArray} {a : Int} {v : Value} {st : Bool} (h : Rdr w g s a v st) (u : Value) : Rdr (w.setCell ⟨g,2,none⟩ u) g s a u st:=by
  simp only [Rdr] at h ⊢
  simp [World.setCell,Array.getElem?_modify,h]
theorem Rdr.setStuck {w : World} {g : Nat} {s : ByteArray} {a : Int} {v : Value} {st : Bool} (h : Rdr w g s a v st) (z : Bool) : Rdr (w.setCell ⟨g,3,none⟩ (.bool z)) g s a v z:=by
  simp only [Rdr] at h ⊢
  simp [World.setCell,Array.getElem?_modify,h]
theorem Rdr.below {w w' : World} {g : Nat} {s : ByteArray} {a : Int} {v : Value} {st : Bool} (h : Rdr w g s a v st) (hb : Below w.heap.size w w') : Rdr w' g s a v st:=(hb.block g h.lt).trans h
theorem Rdr.alloc {w : World} {g : Nat} {s : ByteArray} {a : Int} {v : Value} {st : Bool} (h : Rdr w g s a v st) (o : Obj) : Rdr (w.alloc o) g s a v st:=(Below.heap_alloc w o g h.lt).trans h
theorem Rdr.ca {w : World} {g : Nat} {s : ByteArray} {a : Int} {v : Value} {st : Bool} (h : Rdr w g s a v st) : (∀ o,(w.alloc o).cell? ⟨g,0,none⟩ = some (.string s)) ∧ (∀ o,(w.alloc o).cell? ⟨g,1,none⟩ = some (.int .i64 a)) ∧ (∀ o,(w.alloc o).cell? ⟨g,2,none⟩ = some v) ∧ (∀ o,(w.alloc o).cell? ⟨g,3,none⟩ = some (.bool st)) ∧ (∀ o,(w.alloc o).frozen? ⟨g,1,none⟩ = false) ∧ (∀ o,(w.alloc o).frozen? ⟨g,2,none⟩ = false) ∧ (∀ o,(w.alloc o).frozen? ⟨g,3,none⟩ = false) :=
  ⟨fun o => (h.alloc o).all.1,fun o => (h.alloc o).all.2.1,fun o => (h.alloc o).all.2.2.1,fun o => (h.alloc o).all.2.2.2.1,fun o => (h.alloc o).all.2.2.2.2.1,fun o => (h.alloc o).all.2.2.2.2.2.1,fun o => (h.alloc o).all.2.2.2.2.2.2⟩
theorem grown_cell (w : World) (g : Nat) (i : Nat) (v : Value) : w.grownBy (w.setCell ⟨g,i,none⟩ v) (some g):=Lib.grownBy_setB (World.grownBy.refl w _) i v
theorem grown_of_below {w w' : World} (hb : Below w.heap.size w w') (row : Option Nat) : w.grownBy w' row:=⟨hb.os,hb.tape,hb.output,hb.size,fun k hk _ => hb.block k hk⟩
theorem grown_trans {w w1 w2 : World} {row : Option Nat} (h1 : w.grownBy w1 row) (h2 : w1.grownBy w2 row) : w.grownBy w2 row :=
  ⟨h2.os.trans h1.os,h2.tape.trans h1.tape,h2.output.trans h1.output,Nat.le_trans h1.size h2.size,fun k hk hn => (h2.block k (Nat.lt_of_lt_of_le hk h1.size) hn).trans (h1.block k hk hn)⟩
theorem below_of_grown {w w' : World} {g B : Nat} (h : w.grownBy w' (some g)) (hB : B ≤ g) (hg : g ≤ w.heap.size) : Below B w w' :=
  ⟨h.os,h.tape,h.output,h.size,fun k hk => h.block k (by omega) (by intro e; injection e with e; omega)⟩
theorem str_len (s : ByteArray) : s.data.toList.length = s.size:=Array.length_toList
theorem str_idx (s : ByteArray) (a : Nat) (c : UInt8) (h : s.data.toList[a]? = some c) (w : World) : (Instr.index 9 (.string s) (.int .i64 (a : Int))).run Tryz.prog w = .ok (.int .u8 (c.toNat : Int)) w:=by
  have hl : a < s.data.toList.length:=by
    rcases Nat.lt_or_ge a s.data.toList.length with h' | h'
    · exact h'
    · rw [List.getElem?_eq_none h'] at h; cases h
  have hs : a < s.size:=by rw [← str_len]; exact hl
  rw [run_index_string w 9 s .i64 (a : Int) Tryz.underlying9,dif_pos ⟨by omega,by omega⟩]
  rw [List.getElem?_eq_getElem hl] at h
  have e : s[(a : Int).toNat]'(by simpa using hs) = c:=by
    exact Option.some.inj h
  rw [e]
theorem dropc (L : List UInt8) (a : Nat) (c : UInt8) (r : List UInt8) (h : L.drop a = c :: r) : L[a]? = some c ∧ L.drop (a + 1) = r ∧ a < L.length:=by
  have hl : a < L.length:=by
    rcases Nat.lt_or_ge a L.length with h' | h'
    · exact h'
    · rw [List.drop_eq_nil_of_le h'] at h; cases h
  rw [List.drop_eq_getElem_cons hl] at h
  injection h with h1 h2
  exact ⟨by rw [List.getElem?_eq_getElem hl,h1],h2,hl⟩
structure PA (w : World) (g : Nat) (s : ByteArray) (a : Nat) (v : Value) (l : List UInt8) : Prop where
  rd : Rdr w g s a v false
  at' : s.data.toList.drop a = l
  le : a + l.length = s.size
  small : s.size ≤ 200
theorem PA.below {w w' : World} {g : Nat} {s : ByteArray} {a : Nat} {v : Value} {l : List UInt8} (h : PA w g s a v l) (hb : Below w.heap.size w w') : PA w' g s a v l:=⟨h.rd.below hb,h.at',h.le,h.small⟩
theorem PA.lt {w : World} {g : Nat} {s : ByteArray} {a : Nat} {v : Value} {l : List UInt8} (h : PA w g s a v l) : g < w.heap.size:=h.rd.lt
theorem PA.next {w : World} {g : Nat} {s : ByteArray} {a : Nat} {v : Value} {c : UInt8} {r : List UInt8} (h : PA w g s a v (c :: r)) (z : Int) (hz : z = ((a + 1 : Nat) : Int)) : PA (w.setCell ⟨g,1,none⟩ (.int .i64 z)) g s (a + 1) v r:=by
  subst hz
  have:=h.le
  exact ⟨h.rd.setPlace _,(dropc _ _ _ _ h.at').2.1,by simp at this; omega,h.small⟩
def Stk (w : World) (g : Nat) : Prop:=∃ s a v,Rdr w g s a v true
theorem Stk.below {w w' : World} {g : Nat} (h : Stk w g) (hb : Below w.heap.size w w') : Stk w' g:=by
  obtain ⟨s,a,v,h⟩:=h
  exact ⟨s,a,v,h.below hb⟩
def mis (z : Int) : List PanicEntry:=[{ v:=.iface 113 (.agg #[.int .i64 z]),recovered:=false }]
theorem ret_bool {a b : Bool} (h : a = b) : Ending.returned (.bool a) = .returned (.bool b):=by rw [h]
theorem more_any (g : Nat) (s : ByteArray) (a : Nat) (v : Value) (l : List UInt8) (w : World) (h : PA w g s a v l) :
    Calls Tryz.prog 47 #[.pointer (some ⟨g,0,none⟩)] w fun e w' => e = .returned (.bool (decide (l ≠ []))) ∧ Below w.heap.size w w':=by
  obtain ⟨c0,c1,c2,c3,f1,f2,f3⟩:=h.rd.all
  have H : Hid (decide (a < s.size) = decide (l ≠ [])):=by
    show _ = _
    have:=h.le
    cases l with
    | nil => simp at this ⊢; omega
    | cons c r => simp at this ⊢; omega
  clear h
  go_enter Tryz.func47,Tryz.ntmps47
  go_wp2_with fail
  go_quiet (fail)
  go_wp2
  go_ret
  exact ⟨ret_bool H.out,below_drewN' w nq⟩
theorem misfitAt_any (g : Nat) (s : ByteArray) (a : Int) (v : Value) (st : Bool) (z : Int) (w : World) (h : Rdr w g s a v st) :
    Calls Tryz.prog 48 #[.pointer (some ⟨g,0,none⟩),.int .i64 z] w fun e w' => e = .returned (.agg #[.int .i64 z]) ∧ Stk w' g ∧ w.grownBy w' (some g):=by
  obtain ⟨c0,c1,c2,c3,f1,f2,f3⟩:=h.ca
  have hg:=h.lt
  have H:=hid h
  clear h
  have hne : ¬ g = w.heap.size:=by omega
  have hne2 : ¬ w.heap.size = g:=by omega
  go_enter Tryz.func48,Tryz.ntmps48
  go_wp2
  refine bodyPost_ret (v:=.agg #[.int .i64 z]) (by simp [results,Tryz.results48,go_sem]) rfl ⟨rfl,?_⟩
  exact ⟨⟨s,a,v,(H.out.setStuck true).alloc _⟩,grown_trans (grown_cell _ _ _ _) (grown_of_below ((Below.refl _ _).alloc (Nat.le_refl _) _) _)⟩
theorem more_nil (g : Nat) (s : ByteArray) (a : Nat) (v : Value) (w : World) (h : PA w g s a v []) :
    Calls Tryz.prog 47 #[.pointer (some ⟨g,0,none⟩)] w fun e w' => e = .returned (.bool false) ∧ Below w.heap.size w w':=(more_any g s a v _ w h).mono fun _ _ x => ⟨x.1.trans (ret_bool (by simp)),x.2⟩
theorem more_cons (g : Nat) (s : ByteArray) (a : Nat) (v : Value) (c : UInt8) (r : List UInt8) (w : World) (h : PA w g s a v (c :: r)) :
    Calls Tryz.prog 47 #[.pointer (some ⟨g,0,none⟩)] w fun e w' => e = .returned (.bool true) ∧ Below w.heap.size w w':=(more_any g s a v _ w h).mono fun _ _ x => ⟨x.1.trans (ret_bool (by simp)),x.2⟩
theorem rsees_any (g : Nat) (s : ByteArray) (a : Nat) (v : Value) (l : List UInt8) (b : UInt8) (z : Int) (hz : z = (b.toNat : Int)) (w : World) (h : PA w g s a v l) :
    Calls Tryz.prog 94 #[.pointer (some ⟨g,0,none⟩),.int .u8 z] w fun e w' => e = .returned (.bool (decide (l.head? = some b))) ∧ Below w.heap.size w w':=by
  subst hz
  obtain ⟨c0,c1,c2,c3,f1,f2,f3⟩:=h.rd.all
  have d0:=cell_regrown c0
  have d1:=cell_regrown c1
  clear c0 c1 c2 c3 f1 f2 f3
  cases l with
  | nil =>
    have HM:=hid fun d os => more_nil g s a v _ (h.below (below_regrown w d os))
    clear h
    go_enter Tryz.func94,Tryz.ntmps94
    go_wp2_with fail
    refine wp_region_quiet_below (by kernel_rfl) (by kernel_rfl) ?_
    repeat (go_big_quiet_step (first
      | (go_at_call 47; refine Calls.regrown_of (v:=.bool false) ?_; exact HM.out _ _)))
    refine wpQuiet_nil ?_
    intro _ hw'
    obtain ⟨⟨dq,osq⟩,hw''⟩:=hw'
    have hb:=below_regrown w dq osq
    subst hw''
    go_wp2
    go_ret
    exact ⟨rfl,hb⟩
  | cons c r =>
    obtain ⟨h1,_,h3⟩:=dropc _ _ _ _ h.at'
    have hi:=str_idx s a c h1
    have HM:=hid fun d os => more_cons g s a v c r _ (h.below (below_regrown w d os))
    clear h h1 h3
    by_cases hc : c = b
    · subst hc
      have e : ((c.toNat : Int) == (c.toNat : Int)) = true:=by simp
      have HX : Hid (decide ((c :: r).head? = some c) = true):=by show _ = _; simp
      rw [HX.out]
      go_enter Tryz.func94,Tryz.ntmps94
      go_wp2_with fail
      refine wp_region_quiet_below (by kernel_rfl) (by kernel_rfl) ?_
      repeat (go_big_quiet_step (first
        | (go_at_call 47; refine Calls.regrown_of (v:=.bool true) ?_; exact HM.out _ _)))
      refine wpQuiet_nil ?_
      intro _ hw'
      obtain ⟨⟨dq,osq⟩,hw''⟩:=hw'
      have hb:=below_regrown w dq osq
      subst hw''
      go_wp2
      go_ret
      exact ⟨rfl,hb⟩
    · have e : ((c.toNat : Int) == (b.toNat : Int)) = false:=by
        simp
        intro h
        exact hc (UInt8.toNat_inj.1 (by omega))
      have HX : Hid (decide ((c :: r).head? = some b) = false):=by show _ = _; simp [hc]
      rw [HX.out]
      go_enter Tryz.func94,Tryz.ntmps94
      go_wp2_with fail
      refine wp_region_quiet_below (by kernel_rfl) (by kernel_rfl) ?_
      repeat (go_big_quiet_step (first
        | (go_at_call 47; refine Calls.regrown_of (v:=.bool true) ?_; exact HM.out _ _)))
      refine wpQuiet_nil ?_
      intro _ hw'
      obtain ⟨⟨dq,osq⟩,hw''⟩:=hw'
      have hb:=below_regrown w dq osq
      subst hw''
      go_wp2
      go_ret
      exact ⟨rfl,hb⟩
theorem skip_no (g : Nat) (s : ByteArray) (a : Nat) (v : Value) (l : List UInt8) (b : UInt8) (z : Int) (hz : z = (b.toNat : Int)) (w : World) (h : PA w g s a v l) (hl : l.head? ≠ some b) :
    Calls Tryz.prog 68 #[.pointer (some ⟨g,0,none⟩),.int .u8 z] w fun e w' => e = .returned (.bool false) ∧ Below w.heap.size w w':=by
  subst hz
  have HM:=hid (rsees_any g s a v l b _ rfl w h)
  have HX : Hid (decide (l.head? = some b) = false):=by show _ = _; simp [hl]
  clear h hl
  go_enter Tryz.func68,Tryz.ntmps68
  go_wp2_with fail
  refine Calls.mono HM.out ?_
  rintro e w1 ⟨rfl,hb⟩
  rw [HX.out]
  go_wp2
  go_ret
  exact ⟨rfl,hb⟩
theorem skip_yes (g : Nat) (s : ByteArray) (a : Nat) (v : Value) (r : List UInt8) (b : UInt8) (z : Int) (hz : z = (b.toNat : Int)) (w : World) (h : PA w g s a v (b :: r)) :
    Calls Tryz.prog 68 #[.pointer (some ⟨g,0,none⟩),.int .u8 z] w fun e w' => e = .returned (.bool true) ∧ PA w' g s (a + 1) v r ∧ w.grownBy w' (some g):=by
  subst hz
  have HM:=hid (rsees_any g s a v _ b _ rfl w h)
  have HX : Hid (decide ((b :: r).head? = some b) = true):=by show _ = _; simp
  have HP:=hid h
  clear h
  go_enter Tryz.func68,Tryz.ntmps68
  go_wp2_with fail
  refine Calls.mono HM.out ?_
  rintro e w1 ⟨rfl,hb⟩
  rw [HX.out]
  have hp:=HP.out.below hb
  obtain ⟨c0,c1,c2,c3,f1,f2,f3⟩:=hp.rd.all
  have HP1:=hid hp
  clear hp
  have hadd : IntKind.i64.wrap ((a : Int) + 1) = ((a + 1 : Nat) : Int):=by
    have:=HP.out.le
    have:=HP.out.small
    rw [IntKind.wrap_i64]
    omega
  go_wp2
  go_ret
  exact ⟨rfl,HP1.out.next _ (by omega),grown_trans (grown_of_below hb _) (grown_cell _ _ _ _)⟩
theorem take_some (g : Nat) (s : ByteArray) (a : Nat) (v : Value) (c : UInt8) (r : List UInt8) (w : World) (h : PA w g s a v (c :: r)) :
    Calls Tryz.prog 147 #[.pointer (some ⟨g,0,none⟩)] w fun e w' => e = .returned (.int .u8 (c.toNat : Int)) ∧ PA w' g s (a + 1) v r ∧ w.grownBy w' (some g):=by
  have HM:=hid (more_cons g s a v c r w h)
  have HP:=hid h
  have hi:=str_idx s a c (dropc _ _ _ _ h.at').1
  clear h
  go_enter Tryz.func147,Tryz.ntmps147
  go_wp2_with fail
  refine Calls.mono HM.out ?_
  rintro e w1 ⟨rfl,hb⟩
  have hp:=HP.out.below hb
  obtain ⟨c0,c1,c2,c3,f1,f2,f3⟩:=hp.rd.all
  have HP1:=hid hp
  have hadd : IntKind.i64.wrap ((a : Int) + 1) = ((a + 1 : Nat) : Int):=by
    have:=HP.out.le
    have:=HP.out.small
    rw [IntKind.wrap_i64]
    omega
  clear hp
  go_wp2
  have hp2:=HP1.out.next ((a : Int) + 1) (by omega)
  have hg2:=grown_cell w1 g 1 (.int .i64 ((a : Int) + 1))
  generalize w1.setCell ⟨g,1,none⟩ (.int .i64 ((a : Int) + 1)) = w2 at *
  clear c0 c1 c2 c3 f1 f2 f3
  obtain ⟨c0,c1,c2,c3,f1,f2,f3⟩:=hp2.rd.all
  rw [show ((a + 1 : Nat) : Int) = (a : Int) + 1 from by omega] at c1
  have HP2:=hid hp2
  have hsub : IntKind.i64.wrap (a : Int) = (a : Int):=by
    have:=HP.out.le
    have:=HP.out.small
    rw [IntKind.wrap_i64]
    omega
  have hsub2 : (a : Int) + 1 - 1 = (a : Int):=by omega
  clear hp2
  go_quiet (fail)
  go_wp2
  go_ret
  exact ⟨rfl,HP2.out.below (below_drewN' w2 nq),grown_trans (grown_of_below hb _) (grown_trans hg2 (grown_of_below (below_drewN' w2 nq) _))⟩
theorem take_none (g : Nat) (s : ByteArray) (a : Nat) (v : Value) (w : World) (h : PA w g s a v []) :
    Calls Tryz.prog 147 #[.pointer (some ⟨g,0,none⟩)] w fun e w' => e = .panicked (mis s.size) ∧ Stk w' g ∧ w.grownBy w' (some g):=by
  have HM:=hid (more_nil g s a v w h)
  have HP:=hid h
  have HA : Hid ((a : Int) = s.size):=by
    have:=h.le
    simp at this
    show _ = _
    omega
  clear h
  go_enter Tryz.func147,Tryz.ntmps147
  go_wp2_with fail
  refine Calls.mono HM.out ?_
  rintro e w1 ⟨rfl,hb⟩
  have hp:=HP.out.below hb
  obtain ⟨c0,c1,c2,c3,f1,f2,f3⟩:=hp.rd.all
  have HQ:=hid (misfitAt_any g s a v false a w1 hp.rd)
  clear hp
  go_wp2_with fail
  refine Calls.mono HQ.out ?_
  rintro e w2 ⟨rfl,hs,hg⟩
  go_wp2
  refine ⟨rfl,?_,hs,grown_trans (grown_of_below hb _) hg⟩
  rw [HA.out]
  rfl
theorem close_stuck (g : Nat) (z : Int) (u : FrameMode) (w : World) (h : Stk w g) :
    CallsD Tryz.prog 144 #[.pointer (some ⟨g,0,none⟩),.int .u8 z] u w fun e u' w' => u' = u ∧ (e = .returned (.tuple #[]) ∧ Below w.heap.size w w'):=by
  obtain ⟨s,a,v,hr⟩:=h
  obtain ⟨c0,c1,c2,c3,f1,f2,f3⟩:=hr.all
  clear hr
  go_enter_d Tryz.func144,Tryz.ntmps144
  go_wp2_with fail
  go_end0
  exact ⟨rfl,Below.refl _ _⟩
theorem close_yes (g : Nat) (s : ByteArray) (a : Nat) (v : Value) (r : List UInt8) (b : UInt8) (u : FrameMode) (w : World) (h : PA w g s a v (b :: r)) :
    CallsD Tryz.prog 144 #[.pointer (some ⟨g,0,none⟩),.int .u8 (b.toNat : Int)] u w fun e u' w' => u' = u ∧ (e = .returned (.tuple #[]) ∧ PA w' g s (a + 1) v r ∧ w.grownBy w' (some g)):=by
  obtain ⟨c0,c1,c2,c3,f1,f2,f3⟩:=h.rd.all
  have HS:=hid (skip_yes g s a v r b _ rfl w h)
  clear h
  go_enter_d Tryz.func144,Tryz.ntmps144
  go_wp2_with fail
  refine Calls.mono HS.out ?_
  rintro e w1 ⟨rfl,hp,hg⟩
  go_wp2
  go_end0
  exact ⟨rfl,hp,hg⟩
theorem close_no (g : Nat) (s : ByteArray) (a : Nat) (v : Value) (l : List UInt8) (b : UInt8) (u : FrameMode) (w : World) (h : PA w g s a v l) (hl : l.head? ≠ some b) :
    CallsD Tryz.prog 144 #[.pointer (some ⟨g,0,none⟩),.int .u8 (b.toNat : Int)] u w fun e u' w' => u' = u ∧ (e = .panicked (mis ((s.size : Int) - (l.length : Int))) ∧ Stk w' g ∧ w.grownBy w' (some g)):=by
  obtain ⟨c0,c1,c2,c3,f1,f2,f3⟩:=h.rd.all
  have HS:=hid (skip_no g s a v l b _ rfl w h hl)
  have HP:=hid h
  have HA : Hid ((a : Int) = (s.size : Int) - (l.length : Int)):=by
    have:=h.le
    show _ = _
    omega
  clear h hl
  go_enter_d Tryz.func144,Tryz.ntmps144
  go_wp2_with fail
  refine Calls.mono HS.out ?_
  rintro e w1 ⟨rfl,hb⟩
  have hp:=HP.out.below hb
  clear c0 c1 c2 c3 f1 f2 f3
  obtain ⟨c0,c1,c2,c3,f1,f2,f3⟩:=hp.rd.all
  have HQ:=hid (misfitAt_any g s a v false a w1 hp.rd)
  clear hp
  go_wp2_with fail
  refine Calls.mono HQ.out ?_
  rintro e w2 ⟨rfl,hs,hg⟩
  go_wp2
  refine ⟨rfl,?_,hs,grown_trans (grown_of_below hb _) hg⟩
  rw [HA.out]
  rfl
end Go.Proofs.YtcjghhedphmhkaaGreatDoor
namespace Go.Proofs.YtcjghhedphmhkaaGreatDoor
open Go.Shelf Go.RowKit
def strRen : Go.Shelf.Ren:=⟨fun | 169 => 163 | n => n,fun | 70 => 251 | 9 => 9 | 0 => 0 | 72 => 253 | 37 => 147 | 127 => 259 | 3 => 3 | 5 => 5 | n => n,fun | n => n⟩
theorem strLays : Go.Proofs.Lays.n169 Tryz.prog strRen:={
  mixed:=by kernel_rfl
  f169:=Tryz.func163.trans (congrArg some (by kernel_rfl))
  t0:=Tryz.underlying0
  a0:=Tryz.isAgg0
  z0:=Tryz.sizeOf0
  v0:=Tryz.zeroValue0
  t3:=Tryz.underlying3
  a3:=Tryz.isAgg3
  z3:=Tryz.sizeOf3
  v3:=Tryz.zeroValue3
  t9:=Tryz.underlying9
  a9:=Tryz.isAgg9
  z9:=Tryz.sizeOf9
  v9:=Tryz.zeroValue9
  t37:=Tryz.underlying147
  a37:=Tryz.isAgg147
  z37:=Tryz.sizeOf147
  v37:=Tryz.zeroValue147
  t70:=Tryz.underlying251
  a70:=Tryz.isAgg251
  z70:=Tryz.sizeOf251
  v70:=Tryz.zeroValue251
  t72:=Tryz.underlying253
  a72:=Tryz.isAgg253
  z72:=Tryz.sizeOf253
  v72:=Tryz.zeroValue253
  t127:=Tryz.underlying259
  a127:=Tryz.isAgg259
  z127:=Tryz.sizeOf259
  v127:=Tryz.zeroValue259 }
theorem strExtra : Builder.Extra Tryz.prog strRen:={
  sizeBuilder:=by kernel_rfl
  liesBuilder:=by kernel_rfl
  t5:=Tryz.underlying5
  a5:=Tryz.isAgg5
  z5:=Tryz.sizeOf5
  v5:=Tryz.zeroValue5
  infoByte:=by kernel_rfl
  cellsByte:=by kernel_rfl
  sizeByte:=by kernel_rfl
  neB5:=by decide }
theorem string_any (B b : Nat) (l : List UInt8) (w : World) (h : Lib.IsBuilder 253 5 B b (Lib.byteCells l) w) (hBw : B ≤ w.heap.size) :
    Calls Tryz.prog 163 #[.pointer (some ⟨b,0,none⟩)] w fun e w' => e = .returned (.string ⟨l.toArray⟩) ∧ Below B w w':=Any.Builder_String_any strLays strExtra B b l w h hBw
def ixRen : Go.Shelf.Ren:=⟨fun | 137 => 156 | 217 => 113 | 266 => 129 | n => n,fun | 9 => 9 | 5 => 5 | 3 => 3 | n => n,fun | n => n⟩
theorem ixLays : Go.Proofs.Lays.n137 Tryz.prog ixRen:={
  mixed:=by kernel_rfl
  f137:=Tryz.func156.trans (congrArg some (by kernel_rfl))
  f217:=Tryz.func113.trans (congrArg some (by kernel_rfl))
  f266:=Tryz.func129.trans (congrArg some (by kernel_rfl))
  t3:=Tryz.underlying3
  a3:=Tryz.isAgg3
  z3:=Tryz.sizeOf3
  v3:=Tryz.zeroValue3
  t5:=Tryz.underlying5
  a5:=Tryz.isAgg5
  z5:=Tryz.sizeOf5
  v5:=Tryz.zeroValue5
  t9:=Tryz.underlying9
  a9:=Tryz.isAgg9
  z9:=Tryz.sizeOf9
  v9:=Tryz.zeroValue9 }
theorem indexByte_any (s : ByteArray) (c : Int) (w : World) :
    Calls Tryz.prog 156 #[.string s,.int .u8 c] w fun e w' => e = .returned (.int .i64 (Lib.indexByte s.data.toList c.toNat.toUInt8)) ∧ w' = w:=Any.strings_IndexByte ixLays s c w
/-! strings.Builder's writing: copyCheck,WriteString -/
theorem copyCheck_used (b : Nat) (w : World) (h0 : w.cell? ⟨b,0,none⟩ = some (.pointer (some ⟨b,0,none⟩))) :
    Calls Tryz.prog 164 #[.pointer (some ⟨b,0,none⟩)] w fun e w' => e = .returned (.tuple #[]) ∧ w' = w:=by
  obtain ⟨j,hj,_⟩:=Option.map_eq_some_iff.1 strExtra.sizeBuilder
  go_enter Tryz.func164,Tryz.ntmps164
  go_wp2
  rw [Lib.run_neq_ptr_same w _ Tryz.underlying251 hj]
  go_wp2
  go_end0
  exact ⟨rfl,rfl⟩
theorem copyCheck_fresh (b : Nat) (w : World) (h0 : w.cell? ⟨b,0,none⟩ = some (.pointer none)) (hsh : w.shape? b = some (253,2)) (hfz : w.frozen? ⟨b,0,none⟩ = false) :
    Calls Tryz.prog 164 #[.pointer (some ⟨b,0,none⟩)] w fun e w' => e = .returned (.tuple #[]) ∧ w' = w.setCell ⟨b,0,none⟩ (.pointer (some ⟨b,0,none⟩)):=by
  obtain ⟨j,hj,hjs⟩:=Option.map_eq_some_iff.1 strExtra.sizeBuilder
  go_enter Tryz.func164,Tryz.ntmps164
  go_wp2
  rw [Lib.run_to_unsafe w ⟨b,0,none⟩ Tryz.underlying251 Tryz.underlying133 hj (by rw [hjs]; decide) hsh (Nat.zero_lt_succ 1)]
  simp only [Result.andThen]
  rw [Oper.upon_value]
  go_wp2
  rw [run_callFunc_extern Tryz.func166 (by kernel_rfl) (by kernel_rfl) (by kernel_rfl) (e:=Extern.AbiNoEscape.same) (by kernel_rfl)]
  rw [Lib.run_noEscape]
  simp only [Result.andThen]
  rw [Oper.upon_value]
  go_wp2
  rw [Lib.run_from_unsafe w ⟨b,0,none⟩ Tryz.underlying133 Tryz.underlying251 hj hsh strExtra.liesBuilder]
  simp only [Result.andThen]
  rw [Oper.upon_value]
  go_wp2
  go_end0
  exact ⟨rfl,rfl⟩
theorem copyCheck_any (B b : Nat) (bs : List Value) (w : World) (h : Lib.IsBuilder 253 5 B b bs w) :
    Calls Tryz.prog 164 #[.pointer (some ⟨b,0,none⟩)] w fun e w' => e = .returned (.tuple #[]) ∧ (Lib.BuilderAt 253 5 B b (.pointer (some ⟨b,0,none⟩)) bs w' ∧ Below B w w'):=by
  rcases h with h | h
  · refine (copyCheck_fresh b w h.cell0 h.shape h.frozen0).mono ?_
    rintro e w' ⟨rfl,rfl⟩
    exact ⟨rfl,h.used _,(Below.refl B w).setCell (p:=⟨b,0,none⟩) h.1 _⟩
  · refine (copyCheck_used b w h.cell0).mono ?_
    rintro e w' ⟨rfl,rfl⟩
    exact ⟨rfl,h,Below.refl B _⟩
theorem writeString_any (B b : Nat) (bs : List Value) (s : ByteArray) (w : World) (h : Lib.IsBuilder 253 5 B b bs w) (hlen : bs.length + s.size ≤ 140737488355328) (hBw : B ≤ w.heap.size) :
    Calls Tryz.prog 161 #[.pointer (some ⟨b,0,none⟩),.string s] w fun e w' => e = .returned (.tuple #[.int .i64 s.size,.nilIface]) ∧ (Lib.BuilderAt 253 5 B b (.pointer (some ⟨b,0,none⟩)) (bs ++ Lib.strCells s) w' ∧ Below B w w'):=by
  obtain ⟨i0,hi,hz0,hz1,hz2⟩:=info_parts strExtra.infoByte
  go_enter Tryz.func161,Tryz.ntmps161
  go_wp2_with (go_at_call 164; refine (copyCheck_any B b bs _ h).mono ?_)
  rintro e w1 ⟨rfl,h1,hb1⟩
  obtain ⟨hB,v,hbk,hown,hne⟩:=h1
  have c0 : w1.cell? ⟨b,0,none⟩ = some (.pointer (some ⟨b,0,none⟩)):=by rw [Lib.cell_of_heap hbk]; rfl
  have c1 : w1.cell? ⟨b,1,none⟩ = some v:=by rw [Lib.cell_of_heap hbk]; rfl
  go_wp2_with (at_builtin; refine Lib.wpList_append_own_string _ rfl _ _ 147 9 rfl B 5 i0 Tryz.underlying147 Tryz.underlying9 hi hz0 hz1 hz2 _ _ _ rfl hown s rfl ?c3 ?c4 ?c5 ?_)
  case c3 => unfold maxLen; omega
  case c4 => omega
  case c5 => have:=hb1.size; omega
  intro v' w2 hown' hgrow _
  have hlt : b < w1.heap.size:=by
    rcases Nat.lt_or_ge b w1.heap.size with h' | h'
    · exact h'
    · simp [Array.getElem?_eq_none h'] at hbk
  have hb2 : w2.heap[b]? = some (.cells #[.pointer (some ⟨b,0,none⟩),v] 253 (0,0)):=by
    rw [hgrow.block b hlt (fun e => hne e.symm)]
    exact hbk
  have d0 : w2.cell? ⟨b,0,none⟩ = some (.pointer (some ⟨b,0,none⟩)):=by rw [Lib.cell_of_heap hb2]; rfl
  have d1 : w2.cell? ⟨b,1,none⟩ = some v:=by rw [Lib.cell_of_heap hb2]; rfl
  have f1 : w2.frozen? ⟨b,1,none⟩ = false:=Lib.frozen_of_heap hb2 1
  obtain ⟨ao,n',cap,rfl⟩ : ∃ ao n' cap,v' = .slice ao n' cap:=by
    rcases hown'.2 with ⟨hv,_⟩ | ⟨g,cap,cur,hv,_⟩
    · exact ⟨_,_,_,hv⟩
    · exact ⟨_,_,_,hv⟩
  go_wp2
  go_ret2
  refine ⟨rfl,?_,?_⟩
  · exact Lib.BuilderAt.put (T:=253) (e:=5) hB hb2 (bs':=bs ++ Lib.strCells s) (by simpa [Lib.strCells_length] using hown') strExtra.neB5
  · exact (hb1.grown hgrow (by have:=hb1.size; omega) (fun k hk => (hown.lt k hk).1)).setCell (p:=⟨b,1,none⟩) hB _
end Go.Proofs.YtcjghhedphmhkaaGreatDoor
namespace Go.Proofs.YtcjghhedphmhkaaGreatDoor
open Go.RowKit
def hexS : ByteArray:=⟨#[48,49,50,51,52,53,54,55,56,57,97,98,99,100,101,102]⟩
def hxI (c : UInt8) : Int:=match hx c with | some k => (k : Int) | none => -1
theorem hxI_idx_n : ∀ n : Nat,n < 256 → Lib.indexByte hexS.data.toList n.toUInt8 = hxI n.toUInt8:=by decide
theorem hxI_idx (c : UInt8) : Lib.indexByte hexS.data.toList (c.toNat : Int).toNat.toUInt8 = hxI c:=by
  have h:=hxI_idx_n c.toNat c.toNat_lt
  simpa using h
theorem digit_end (g : Nat) (s : ByteArray) (a : Nat) (v : Value) (f : Int) (w : World) (h : PA w g s a v []) :
    Calls Tryz.prog 148 #[.pointer (some ⟨g,0,none⟩),.int .i64 f] w fun e w' => e = .panicked (mis s.size) ∧ Stk w' g ∧ w.grownBy w' (some g):=by
  have HM:=hid (take_none g s a v w h)
  clear h
  go_enter Tryz.func148,Tryz.ntmps148
  go_wp2_with fail
  refine Calls.mono HM.out ?_
  rintro e w1 ⟨rfl,hs,hg⟩
  exact ⟨rfl,rfl,hs,hg⟩
theorem digit_ok (g : Nat) (s : ByteArray) (a : Nat) (v : Value) (c : UInt8) (r : List UInt8) (f : Int) (k : Nat) (hk : hx c = some k) (w : World) (h : PA w g s a v (c :: r)) :
    Calls Tryz.prog 148 #[.pointer (some ⟨g,0,none⟩),.int .i64 f] w fun e w' => e = .returned (.int .u8 (k : Int)) ∧ PA w' g s (a + 1) v r ∧ w.grownBy w' (some g):=by
  have HM:=hid (take_some g s a v c r w h)
  have hI : Hid (Lib.indexByte hexS.data.toList (c.toNat : Int).toNat.toUInt8 = (k : Int)):=by
    show _ = _
    rw [hxI_idx,hxI,hk]
  have hlt:=hx_lt _ _ hk
  clear h hk
  go_enter Tryz.func148,Tryz.ntmps148
  go_wp2_with fail
  refine Calls.mono HM.out ?_
  rintro e w1 ⟨rfl,hp,hg⟩
  go_wp2_with fail
  refine Calls.mono (indexByte_any hexS _ _) ?_
  rintro e w2 ⟨rfl,rfl⟩
  rw [hI.out]
  have hn : ¬ (k : Int) < 0:=by omega
  have hw : IntKind.u8.wrap (k : Int) = (k : Int):=by rw [IntKind.wrap_u8]; omega
  go_wp2
  go_ret
  exact ⟨rfl,hp,hg⟩
theorem digit_bad (g : Nat) (s : ByteArray) (a : Nat) (v : Value) (c : UInt8) (r : List UInt8) (f : Int) (hk : hx c = none) (w : World) (h : PA w g s a v (c :: r)) :
    Calls Tryz.prog 148 #[.pointer (some ⟨g,0,none⟩),.int .i64 f] w fun e w' => e = .panicked (mis f) ∧ Stk w' g ∧ w.grownBy w' (some g):=by
  have HM:=hid (take_some g s a v c r w h)
  have hI : Hid (Lib.indexByte hexS.data.toList (c.toNat : Int).toNat.toUInt8 = -1):=by
    show _ = _
    rw [hxI_idx,hxI,hk]
  clear h hk
  go_enter Tryz.func148,Tryz.ntmps148
  go_wp2_with fail
  refine Calls.mono HM.out ?_
  rintro e w1 ⟨rfl,hp,hg⟩
  go_wp2_with fail
  refine Calls.mono (indexByte_any hexS _ _) ?_
  rintro e w2 ⟨rfl,rfl⟩
  rw [hI.out]
  go_wp2_with fail
  refine Calls.mono (misfitAt_any g s _ v false f _ hp.rd) ?_
  rintro e w2 ⟨rfl,hs,hg2⟩
  go_wp2
  exact ⟨rfl,rfl,hs,grown_trans hg hg2⟩
theorem cnt_at (i : Nat) : ∀ n,cnt (fun j => decide (j = i)) n = if i < n then 1 else 0
  | 0 => by simp [cnt]
  | n + 1 => by
    rw [cnt,cnt_at i n]
    by_cases h : n = i
    · subst h; simp
    · have : i < n + 1 ↔ i < n:=by omega
      simp [h,this]
theorem single_has (i j : Nat) (hi : i < 256) (hj : j < 256) : (z4.add (i : Int)).has j = decide (j = i):=by
  rw [C4.has_add z4_ok i j hi hj,z4_has,Bool.false_or]
  exact decide_eq_decide.2 eq_comm
theorem text_single (c : UInt8) : textL (C4.ofL [c]) = bt c.toNat:=by
  have hc : c.toNat < 256:=c.toNat_lt
  have e : C4.ofL [c] = z4.add (c.toNat : Int):=rfl
  rw [e]
  have hk : (z4.add (c.toNat : Int)).ok:=C4.add_ok z4_ok _
  have hm : ((z4.add (c.toNat : Int)).many 4 == 1) = true:=by
    rw [many_cnt hk,cnt_congr _ (fun j => decide (j = c.toNat)) 256 (fun j hj => single_has _ _ hc hj),cnt_at,if_pos hc]
    rfl
  have hd : (z4.add (c.toNat : Int)).eqb dotC = false:=by
    cases h : (z4.add (c.toNat : Int)).eqb dotC
    · rfl
    · have h2:=(C4.eqb_iff _ _).1 h
      have h0:=single_has c.toNat 0 hc (by omega)
      have h1:=single_has c.toNat 1 hc (by omega)
      rw [h2] at h0 h1
      have d0 : dotC.has 0 = true:=by decide
      have d1 : dotC.has 1 = true:=by decide
      rw [d0] at h0
      rw [d1] at h1
      have a0:=of_decide_eq_true h0.symm
      have a1:=of_decide_eq_true h1.symm
      omega
  rw [textL_one _ hd hm]
  obtain ⟨b,hb,hr,hu⟩:=single_class hk hm
  rw [hr]
  have h1:=single_has c.toNat c.toNat hc hc
  rw [hu,single_has b c.toNat hb hc] at h1
  have : c.toNat = b:=by simpa using h1
  rw [this]
theorem bt_bare (c : UInt8) : (bt c.toNat = [c]) ↔ ¬ (c.toNat < 32 ∨ 126 < c.toNat ∨ c ∈ signL):=by
  have e : c.toNat.toUInt8 = c:=by simp
  unfold bt
  rw [e]
  by_cases h : c.toNat < 32 ∨ 126 < c.toNat
  · rw [if_pos h]
    constructor
    · intro h2; simp at h2
    · intro h2; omega
  · rw [if_neg h]
    by_cases h2 : c ∈ signL
    · rw [if_pos h2]; simp [h2]
    · rw [if_neg h2]; simp only [true_iff]; rintro (h3 | h3 | h3) <;> first | omega | exact h2 h3
theorem bt_esc (c : UInt8) : (bt c.toNat = [92,c]) ↔ c ∈ signL:=by
  have e : c.toNat.toUInt8 = c:=by simp
  unfold bt
  rw [e]
  by_cases h : c.toNat < 32 ∨ 126 < c.toNat
  · rw [if_pos h]
    constructor
    · intro h2; simp at h2
    · intro h2
      exfalso
      revert h h2
      have key : ∀ x ∈ signL,¬ (x.toNat < 32 ∨ 126 < x.toNat):=by decide
      intro h h2
      exact key c h2 h
  · rw [if_neg h]
    by_cases h2 : c ∈ signL
    · rw [if_pos h2]; simp [h2]
    · rw [if_neg h2]; simp [h2]
theorem of_any (s : ByteArray) (w : World) (hs : s.size ≤ maxLen) :
    Calls Tryz.prog 110 #[.string s] w fun e w' => e = .returned (C4.ofL s.data.toList).v ∧ Below w.heap.size w w':=by
  unfold maxLen at hs
  go_enter Tryz.func110,Tryz.ntmps110
  go_wp2
  go_loopw [7] (fun i wr => ∃ k : Nat,k ≤ s.size ∧ i = .int .i64 k ∧ Below w.heap.size w wr ∧ Hb wr w.heap.size z4 ∧ Hb wr (w.heap.size + 1) (C4.ofL (s.data.toList.take k))) (fun i _ => s.size - (intOf i).toNat)
  case atStart =>
    refine ⟨0,by omega,rfl,?_,?_,?_⟩
    · exact ((Below.refl _ _).alloc (Nat.le_refl _) _).alloc (by simp) _
    · exact (Hb.new _ z4 _ rfl).alloc _
    · exact Hb.new _ z4 _ (by simp)
  case round =>
    obtain ⟨k,hk,rfl,hB,hZ,hC⟩:=hrel
    by_cases hlt : k < s.size
    · obtain ⟨c0,c1,c2,c3,e0,e1,e2,e3⟩:=hC.all
      have i0 : (0 : Int) ≤ (k : Int):=by omega
      have i1 : (k : Int) < (s.size : Int):=by omega
      have hg : s.data.toList[k]? = some s[k]:=by
        rw [List.getElem?_eq_getElem (by simpa using hlt)]; rfl
      have hts : s.data.toList.take (k + 1) = s.data.toList.take k ++ [s[k]]:=by
        rw [List.take_succ_eq_append_getElem (by simpa using hlt)]; rfl
      have HT : Hid (C4.ofL (s.data.toList.take (k + 1)) = (C4.ofL (s.data.toList.take k)).add (s[k].toNat : Int)):=by rw [hts,C4.ofL_snoc]; exact rfl
      clear hts hg
      have hlb : (s[k].toNat : Int) < 256:=by have:=s[k].toNat_lt; omega
      have hl0 : (0 : Int) ≤ (s[k].toNat : Int):=by omega
      go_wp2_with fail
      go_region_with (first | (go_at_call 128; refine (with_any (C4.ofL (s.data.toList.take k)) _ _ hl0 hlb).mono ?_; rintro e w' ⟨rfl,hb⟩; have hC1:=Hb.below hC.drew hb hC.lt; obtain ⟨g0,g1,g2,g3,q0,q1,q2,q3⟩:=hC1.all))
      all_goals
        go_wp2
        refine ⟨⟨k + 1,by omega,by go_num,?_,?_,?_⟩,by simp [intOf]; omega⟩
        · exact below_put4 (hB.drew.trans (hb.mono hB.size)) (by omega) _
        · exact Hb.other4 (Hb.below hZ.drew hb hZ.lt) _ (by omega)
        · rw [HT.out]; exact hC1.put4 _
    · have hk4 : k = s.size:=by omega
      subst hk4
      have ht : s.data.toList.take s.size = s.data.toList:=List.take_of_length_le (by simp)
      rw [ht] at hC
      clear ht
      obtain ⟨c0,c1,c2,c3,e0,e1,e2,e3⟩:=hC.all
      obtain ⟨d0,d1,d2,d3,f0,f1,f2,f3⟩:=hZ.all
      go_wp2
      have hq:=hZ.put4 (C4.ofL s.data.toList)
      refine bodyPost_ret (v:=(C4.ofL s.data.toList).v) (by simp [results,Tryz.results110,go_sem,hq.c0,hq.c1,hq.c2,hq.c3]) rfl ⟨rfl,?_⟩
      exact below_put4 hB (by omega) _
theorem not_any (x : C4) (w : World) :
    Calls Tryz.prog 131 #[x.v] w fun e w' => e = .returned (x.not).v ∧ Below w.heap.size w w':=by
  go_enter Tryz.func131,Tryz.ntmps131
  go_wp2_with fail
  refine (join_any 143 (fun p _ => not64 p) not1_any enters_not1 x x _).mono ?_
  rintro e w1 ⟨rfl,hb⟩
  have hB : Below w.heap.size w w1:=(((Below.refl _ _).alloc (Nat.le_refl _) _).alloc (by simp) _).trans (hb.mono (by simp; omega))
  have hZ : Hb w1 (w.heap.size + 1) z4:=(Hb.new _ z4 _ (by simp)).below hb (by simp)
  obtain ⟨d0,d1,d2,d3,f0,f1,f2,f3⟩:=hZ.all
  go_wp2
  have hq:=hZ.put4 (x.not)
  refine bodyPost_ret (v:=(x.not).v) (by have g0:=hq.c0; have g1:=hq.c1; have g2:=hq.c2; have g3:=hq.c3; simp [jn,C4.not] at g0 g1 g2 g3 ⊢; simp [results,Tryz.results131,go_sem,C4.not,g0,g1,g2,g3]) rfl ⟨rfl,?_⟩
  exact below_put4 hB (by omega) _
theorem index4_0 (k : C4) (w : World) : (Instr.index 104 k.v (.int .i64 0)).run Tryz.prog w = .ok (.int .u64 k.a) w:=by kernel_rfl
theorem index4_1 (k : C4) (w : World) : (Instr.index 104 k.v (.int .i64 1)).run Tryz.prog w = .ok (.int .u64 k.b) w:=by kernel_rfl
theorem index4_2 (k : C4) (w : World) : (Instr.index 104 k.v (.int .i64 2)).run Tryz.prog w = .ok (.int .u64 k.c) w:=by kernel_rfl
theorem index4_3 (k : C4) (w : World) : (Instr.index 104 k.v (.int .i64 3)).run Tryz.prog w = .ok (.int .u64 k.d) w:=by kernel_rfl
theorem index4 (k : C4) (i : Nat) (h : i < 4) (w : World) : (Instr.index 104 k.v (.int .i64 i)).run Tryz.prog w = .ok (.int .u64 (k.w i)) w:=by
  match i,h with
  | 0,_ => exact index4_0 k w
  | 1,_ => exact index4_1 k w
  | 2,_ => exact index4_2 k w
  | 3,_ => exact index4_3 k w
theorem many_any (k : C4) (w : World) :
    Calls Tryz.prog 157 #[k.v] w fun e w' => e = .returned (.int .i64 (k.many 4)) ∧ Below w.heap.size w w':=by
  go_enter Tryz.func157,Tryz.ntmps157
  go_wp2
  go_loop [3,7] (fun n i => ∃ j : Nat,j ≤ 4 ∧ i = .int .i64 j ∧ n = .int .i64 (k.many j)) (fun _ i => 4 - (intOf i).toNat)
  case atStart => exact ⟨0,by omega,rfl,rfl⟩
  case round =>
    obtain ⟨j,hj,rfl,rfl⟩:=hrel
    by_cases hlt : j < 4
    · have hi:=index4 k j hlt
      go_wp2_with (first | (go_at_call 159; refine (ones_any _ _).mono ?_; rintro e w' ⟨rfl,rfl⟩))
      go_round
      case rel => exact ⟨j + 1,by omega,by go_num,rfl⟩
      case measure => simp [intOf]; omega
    · have hj4 : j = 4:=by omega
      subst hj4
      go_wp2
      go_ret
      exact ⟨rfl,(Below.refl _ _).alloc (Nat.le_refl _) _⟩
theorem byteText_hex (x : Int) (w : World) (h : 0 ≤ x) (h2 : x < 256) (h3 : x < 32 ∨ 126 < x) :
    Calls Tryz.prog 165 #[.int .u8 x] w fun e w' => e = .returned (.string ⟨(bt x.toNat).toArray⟩) ∧ Below w.heap.size w w':=by
  obtain ⟨n,rfl⟩:=Int.eq_ofNat_of_zero_le h
  have q1 : (0:Int) ≤ (n : Int) / 16:=by omega
  have q2 : (n : Int) / 16 < 16:=by omega
  have q3 : (0:Int) ≤ (n : Int) % 16:=by omega
  have q4 : (n : Int) % 16 < 16:=by omega
  have hb:=bt_hex n (by omega) (by omega)
  have HB:=(show Hid _ from hb)
  clear hb
  rcases h3 with h3 | h3
  · go_enter Tryz.func165,Tryz.ntmps165
    go_wp2
    go_quiet (fail)
    go_wp2
    go_ret
    exact ⟨ret_str HB.out,below_drewN' _ _⟩
  · have h4 : ¬ (n : Int) < 32:=by omega
    go_enter Tryz.func165,Tryz.ntmps165
    go_wp2
    go_quiet (fail)
    go_wp2
    go_ret
    exact ⟨ret_str HB.out,below_drewN' _ _⟩
theorem byteText_plain (x : Int) (w : World) (h : 32 ≤ x) (h2 : x ≤ 126) :
    Calls Tryz.prog 165 #[.int .u8 x] w fun e w' => e = .returned (.string ⟨(bt x.toNat).toArray⟩) ∧ Below w.heap.size w w':=by
  obtain ⟨n,rfl⟩:=Int.eq_ofNat_of_zero_le (show 0 ≤ x by omega)
  have h4 : ¬ (n : Int) < 32:=by omega
  have h5 : ¬ 126 < (n : Int):=by omega
  have hu:=enc_ascii n (by omega)
  by_cases hm : (0 : Int) ≤ Lib.indexByte [92,46,91,93,40,41,124,42,43,63,94,36,45] (UInt8.ofNat n)
  · have hb:=signs_in n (by omega) hm (by omega) (by omega)
    have HB:=(show Hid _ from hb)
    clear hb
    go_enter Tryz.func165,Tryz.ntmps165
    go_wp2_with (go_at_call 156; refine (indexByte_any _ _ _).mono ?_; rintro e w' ⟨rfl,rfl⟩)
    go_ret
    refine ⟨ret_str ?_,Below.refl _ _⟩
    rw [Int.toNat_natCast,HB.out]
    rfl
  · have hb:=signs_out n (by omega) hm (by omega) (by omega)
    have HB:=(show Hid _ from hb)
    have hm2 : decide ((0 : Int) ≤ Lib.indexByte [92,46,91,93,40,41,124,42,43,63,94,36,45] (UInt8.ofNat n)) = false:=by simpa using hm
    clear hb hm
    go_enter Tryz.func165,Tryz.ntmps165
    go_wp2_with fail
    refine (indexByte_any _ _ _).mono ?_
    rintro e w' ⟨rfl,rfl⟩
    go_wp2
    go_ret
    refine ⟨ret_str ?_,Below.refl _ _⟩
    rw [Int.toNat_natCast,HB.out]
theorem byteText_any (x : Int) (w : World) (h : 0 ≤ x) (h2 : x < 256) :
    Calls Tryz.prog 165 #[.int .u8 x] w fun e w' => e = .returned (.string ⟨(bt x.toNat).toArray⟩) ∧ Below w.heap.size w w':=by
  by_cases h3 : x < 32 ∨ 126 < x
  · exact byteText_hex x w h h2 h3
  · exact byteText_plain x w (by omega) (by omega)
theorem runText_any (i j : Int) (w : World) (h : 0 ≤ i) (h1 : i ≤ j) (h2 : j < 256) :
    Calls Tryz.prog 162 #[.int .i64 i,.int .i64 j] w fun e w' => e = .returned (.string ⟨(rt i.toNat j.toNat).toArray⟩) ∧ Below w.heap.size w w':=by
  have hl1 : (⟨(bt i.toNat).toArray⟩ : ByteArray).size ≤ 4:=by rw [size_str]; exact bt_len _
  have hl2 : (⟨(bt j.toNat).toArray⟩ : ByteArray).size ≤ 4:=by rw [size_str]; exact bt_len _
  have hl3 : (bt i.toNat).length ≤ 4:=bt_len _
  have hl4 : (bt j.toNat).length ≤ 4:=bt_len _
  by_cases e0 : j = i
  · subst e0
    have e1 : (j - j == 0) = true:=by simp
    go_enter Tryz.func162,Tryz.ntmps162
    go_wp2_with fail
    refine (byteText_any _ _ (by omega) (by omega)).mono ?_
    rintro e w1 ⟨rfl,hb⟩
    go_wp2
    go_ret
    exact ⟨ret_str (by simp [rt]),hb⟩
  · have e1 : (j - i == 0) = false:=by simp; omega
    by_cases e2 : j = i + 1
    · have e3 : (j - i == 1) = true:=by simp; omega
      have E2:=(show Hid _ from e2)
      clear e2
      go_enter Tryz.func162,Tryz.ntmps162
      go_wp2_with fail
      refine (byteText_any _ _ (by omega) (by omega)).mono ?_
      rintro e w1 ⟨rfl,hb⟩
      go_wp2_with fail
      refine (byteText_any _ _ (by omega) (by omega)).mono ?_
      rintro e w2 ⟨rfl,hb2⟩
      go_wp2
      go_ret
      refine ⟨ret_str ?_,hb.trans (hb2.mono hb.size)⟩
      have:=E2.out
      rw [cat_str,rt,if_neg (by omega),if_pos (by omega)]
    · have e3 : (j - i == 1) = false:=by simp; omega
      go_enter Tryz.func162,Tryz.ntmps162
      go_wp2_with fail
      refine (byteText_any _ _ (by omega) (by omega)).mono ?_
      rintro e w1 ⟨rfl,hb⟩
      go_wp2_with fail
      refine (byteText_any _ _ (by omega) (by omega)).mono ?_
      rintro e w2 ⟨rfl,hb2⟩
      go_wp2
      go_ret
      refine ⟨ret_str ?_,hb.trans (hb2.mono hb.size)⟩
      rw [rt,if_neg (by omega),if_neg (by omega)]
      have e5 : ({ data:=#[45] } : ByteArray) = ⟨([45] : List UInt8).toArray⟩:=rfl
      rw [e5,cat_str,cat_str]
      simp
end Go.Proofs.YtcjghhedphmhkaaGreatDoor
