/-
  Open: what it answers. Conditions: the disk stands, within bounds; groups of lengths within reach; the table of sums holds its numbers.
-/
import Derived.Test.YtblniomnhpedjaaGreatDoorP29TCommit
import Derived.Test.YtblniomnhpedjaaGreatDoorP23TGroups2
namespace Go.Proofs.YtblniomnhpedjaaGreatDoor
open Go.RowKit
theorem No : ∀ (gs : List (List Bs)) (l0 : List Af) (first : Bool) (l : List Af),Bb l0=true→(∀ p∈l0,okP p)→Dd l0 gs first=some l→Bb l=true∧∀ p∈l,okP p
 | [],l0,first,l,h1,h2,h=>by
  rw [Dd] at h
  injection h with h
  subst h
  exact ⟨h1,h2⟩
 | g :: r,l0,first,l,h1,h2,h=>by
  rw [Dd] at h
  cases ht : Co g with
  | none=>rw [ht] at h; cases h
  | some ps=>
   rw [ht] at h
   simp only at h
   split at h
   ·rename_i hc
    have hr : Bc ps=true:=by simp only [Bool.and_eq_true] at hc; first | exact hc.1.1 | exact hc.1
    have hf : Bb (Ai l0 ps)=true:=by simp only [Bool.and_eq_true] at hc; first | exact hc.2 | exact hc.1.2
    exact No r _ _ l hf (Gi ps h2 (Er hr).2.1) h
   ·cases h
theorem tabOf_ok {gs : List (List Bs)} {l : List Af} (h : Ct gs=some l) : Bb l=true∧∀ p∈l,okP p:=No gs [] true l (by decide) (fun p hp=>by cases hp) h
def E5 (B : Nat) (w : World) (F : Nat→Prop) (d : Nat) (S : Dk) (n : Nm) (e : Ending) (w' : World) : Prop:=
 match (Cu S n).2 with
 | none=>e = .returned (.tuple #[.pointer none, .int .i64 (oursT (Cu S n).1)])∧C2 B w F d S.begun w'
 | some y=>match Ct y.1 with
  | none=>e = .returned (.tuple #[.pointer none, .int .i64 132])∧C2 B w F d S.begun w'
  | some l=>∃ t b g F',e = .returned (.tuple #[.pointer (some ⟨t,0,none⟩), .int .i64 0])∧TabL B w' F' d g t b S.begun ⟨n,false,(y.2.1 : Int),(y.2.2 : Int)⟩ false l∧(∀ k,F' k→F k∨w.heap.size≤k)∧w.heap.size≤t∧w.heap.size≤b∧w.heap.size≤g∧Chg F w w'
section
variable {B : Nat} {w w' : World} {F : Nat→Prop} {d g t b : Nat} {S : Dk}
theorem C2.quiet (h : C2 B w F d S w') {w2 : World} (hc : Chg (fun _=>False) w' w2) : C2 B w F d S w2:=by
 obtain ⟨F',h1,h2,h3⟩:=h
 exact ⟨F',h1.keep hc (fun _ _ h=>h),h2,h3.trans hc (fun _ _ h=>h.elim)⟩
set_option maxRecDepth 40000 in
set_option maxHeartbeats 4000000 in
theorem Li (h : Bi B w F d S) (hB : B≤w.heap.size) (hB0 : 0<B) (hT : Bm w) (hb : S.bulk<1000000000) (n : Nm) (hn : Cj n=true) (hgs : ∀ y,(Cu S n).2=some y→∀ g∈y.1,g.length≤100000000∧∀ r∈g,r.length≤1000000000) :
  Calls Tryz.prog 14 #[.pointer (some ⟨d,0,none⟩), .string (Ae n)] w (E5 B w F d S n):=by
 have ho:=open_lg h hB hB0 hT hb n hn
 cases hl : Cu S n with
 | mk e0 y0=>
  rw [hl] at ho hgs
  cases y0 with
  | none=>
   have he:=Lh hl
   simp only at ho
   have HL:=Ab hl
   have heb : (e0 == 0)=false:=by simp [he]
   have hnb : (e0 != 0)=true:=by simp [he]
   clear hl
   go_enter Tryz.func14,Tryz.ntmps14
   go_wp2_with fail
   refine ho.mono ?_
   rintro e w1 ⟨x,v,rfl,rfl,rfl,hA⟩
   have hours:=Im w1 e0
   clear ho
   go_wp2_with fail
   refine hours.mono ?_
   rintro e w2 ⟨rfl,rfl⟩
   go_wp2
   go_ret2
   unfold E5
   rw [HL.out]
   exact ⟨rfl,hA⟩
  | some y=>
   have he:=(Lz hl).2.2
   subst he
   simp only at ho
   have HL:=Ab hl
   have hg:=hgs y rfl
   clear hgs hl
   go_enter Tryz.func14,Tryz.ntmps14
   go_wp2_with fail
   refine ho.mono ?_
   rintro e w1 ⟨x,v,rfl,g,F',b1,rfl,hgw,hLg,hF',k1,hGs,hb1,hlb,hFb⟩
   have htg:=Qd w1 v y.1 hGs.rs hg
   clear ho
   obtain ⟨av,cv,hvs⟩ : ∃ av cv,v = .slice av y.1.length cv:=by
    obtain ⟨ao,cap,e,-⟩:=hGs.rs
    exact ⟨ao,cap,e⟩
   subst hvs
   go_wp2_with fail
   refine htg.mono ?_
   rintro e w2 ⟨htv,q2⟩
   have hA1 : C2 B w F d S.begun w1:=⟨F',hLg.1,hF',k1⟩
   unfold tabV at htv
   cases hto : Ct y.1 with
   | none=>
    rw [hto] at htv
    simp only at htv
    subst htv
    have HTO:=Ab hto
    have HF:=Ab (hA1.quiet (q2.then (Cl w2 (.cells #[.map none, .int .i64 0] 97))))
    clear htg hLg hF' k1 hGs hb1 hlb hFb hA1 q2 hto
    go_wp2
    go_ret2
    unfold E5
    rw [HL.out]
    simp only [HTO.out]
    exact ⟨rfl,HF.out⟩
   | some l=>
    rw [hto] at htv
    simp only at htv
    have HTO:=Ab hto
    obtain ⟨u,rfl,bn,hbn,rfl,hmn,hrn⟩:=htv
    obtain ⟨hfl,hel⟩:=tabOf_ok hto
    have q3:=Cl w2 (.cells #[.map (some bn), .int .i64 (Ag l)] 97)
    have hx3:=Au w2 (.cells #[.map (some bn), .int .i64 (Ag l)] 97)
    have hz3 : (w2.alloc (.cells #[.map (some bn), .int .i64 (Ag l)] 97)).heap.size=w2.heap.size+1:=by simp
    have hm3:=hmn.keep q3 (fun h=>h)
    have q13:=q2.then q3
    generalize hw3 : w2.alloc (.cells #[.map (some bn), .int .i64 (Ag l)] 97)=w3 at *
    have y0:=Ad hx3 0
    have y1:=Ad hx3 1
    simp only [List.getElem?_toArray,List.getElem?_cons_zero,List.getElem?_cons_succ] at y0 y1
    have q4:=Cl w3 (.cells #[.map (some bn), .int .i64 (Ag l), .pointer (some ⟨g,0,none⟩), .bool false] 101)
    have hx4:=Au w3 (.cells #[.map (some bn), .int .i64 (Ag l), .pointer (some ⟨g,0,none⟩), .bool false] 101)
    have hz1:=k1.size
    have hz2:=q2.size
    have hbl:=hmn.lt
    have hFl : ∀ k,F' k→k<w1.heap.size:=fun k hk=>(hLg.1.2.1 k hk).2
    have hgl:=hLg.lt
    have HF:=Ab (show TabL B (w3.alloc (.cells #[.map (some bn), .int .i64 (Ag l), .pointer (some ⟨g,0,none⟩), .bool false] 101)) F' d g w3.heap.size bn S.begun ⟨n,false,(y.2.1 : Int),(y.2.2 : Int)⟩ false l∧(∀ k,F' k→F k∨w.heap.size≤k)∧w.heap.size≤w3.heap.size∧w.heap.size≤bn∧w.heap.size≤g∧Chg F w (w3.alloc (.cells #[.map (some bn), .int .i64 (Ag l), .pointer (some ⟨g,0,none⟩), .bool false] 101)) from
     ⟨⟨hLg.keep (q13.then q4) (fun _ _ h=>h) (fun h=>h),⟨hx4,hm3.keep q4 (fun h=>h),hrn⟩,fun q=>by have:=hFl _ q; omega,fun q=>by have:=hFl _ q; omega,by omega,by omega,by omega,hfl,hel⟩,hF',by omega,by omega,hgw,k1.trans (q13.then q4) (fun _ _ h=>h.elim)⟩)
    clear htg hLg hF' k1 hGs hb1 hlb hFb hA1 q2 hto hmn hm3 hx3 q13 q3 q4 hx4 hFl
    go_wp2_with fail
    try rw [hw3]
    go_wp2
    go_ret2
    unfold E5
    rw [HL.out]
    simp only [HTO.out]
    exact ⟨w3.heap.size,bn,g,F',by rw [hz3]; rfl,HF.out⟩
end
end Go.Proofs.YtblniomnhpedjaaGreatDoor
