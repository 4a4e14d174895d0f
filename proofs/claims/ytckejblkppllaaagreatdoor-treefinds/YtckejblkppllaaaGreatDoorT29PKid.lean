/-
  Texts joined: PKid, PREnds, PRAbove, PRLeaves, PRRight, PPairs.
-/
import Derived.Test.YtckejblkppllaaaGreatDoorT27PAskKid
import Derived.Test.YtckejblkppllaaaGreatDoorT28PLay
import Derived.Test.YtckejblkppllaaaGreatDoorT17PRow
import Derived.Test.YtckejblkppllaaaGreatDoorT21PRList
namespace Go.Proofs.YtckejblkppllaaaGreatDoor
open Go.RowKit
def kidM (n : A2) (key : Bs) : Option Ah:=n.2.2.find? (fun q=>!ltB q.1 key)
def valM (n : A2) (key : Bs) : Option Ag:=n.2.1.find? (fun p=>p.1 == key)
def kidV (o : Option Ah) : Value:=match o with | some k=>.tuple #[.agg #[.string (Ab k.1), .string (Ab k.2.1), .int .i64 k.2.2], .bool true] | none=>.tuple #[.agg #[.string (Ab []), .string (Ab []), .int .i64 0], .bool false]
def valV (o : Option Ag) : Value:=match o with | some k=>.tuple #[.string (Ab k.2), .bool true] | none=>.tuple #[.string (Ab []), .bool false]
theorem Ja {α : Type} {f : α→Bool} {l : List α} {k : Nat} (hk : k<l.length) (he : f l[k]=true) (h : ∀ o∈l.take k,f o=false) : l.find? f=some l[k]:=by
 rw [List.find?_eq_some_iff_getElem]
 refine ⟨he,k,hk,rfl,fun j hj=>?_⟩
 have hm : l[j]∈l.take k:=by rw [List.mem_take_iff_getElem]; exact ⟨j,by omega,rfl⟩
 rw [h _ hm]
 rfl
theorem I3 {α : Type} {f : α→Bool} {l : List α} (h : ∀ o∈l,f o=false) : l.find? f=none:=List.find?_eq_none.2 (fun o ho=>by rw [h o ho]; simp)
theorem Hv {α : Type} {f : α→Bool} {l : List α} {k : Nat} (hk : k<l.length) (he : f l[k]=false) (h : ∀ o∈l.take k,f o=false) : ∀ o∈l.take (k+1),f o=false:=by
 rw [List.take_succ_eq_append_getElem hk]
 intro o ho
 rcases List.mem_append.1 ho with ho | ho
 ·exact h o ho
 ·simp only [List.mem_singleton] at ho; subst ho; exact he
set_option maxRecDepth 20000 in
set_option maxHeartbeats 800000 in
theorem kidOf_any (w : World) (n : A2) (vk vp : Value) (key : Bs) (hk : Ls w.heap.size w 3 Au vk n.2.2) (hp : Ls w.heap.size w 2 Ak vp n.2.1) :
  Calls Tryz.prog 143 #[.agg #[.int .i64 n.1,vk,vp], .string (Ab key)] w fun e w'=>e = .returned (kidV (kidM n key))∧Below w.heap.size w w':=by
 obtain ⟨lv,ps,ks⟩:=n
 obtain ⟨R,hR⟩ : ∃ R,R=kidV (kidM (lv,ps,ks) key):=⟨_,rfl⟩
 rw [← hR]
 have hmiss:=fun (h : ∀ o∈ks,(fun q : Ah=>!ltB q.1 key) o=false)=>hR.trans (congrArg kidV (I3 h))
 have hhit:=fun (j : Nat) (hj : j<ks.length) (h1 : (fun q : Ah=>!ltB q.1 key) ks[j]=true) (h2 : ∀ o∈ks.take j,(fun q : Ah=>!ltB q.1 key) o=false)=>hR.trans (congrArg kidV (Ja hj h1 h2))
 simp only at hk hp
 have hb0 : Below w.heap.size w ((w.alloc (.cells #[.int .i64 lv,vk,vp] 240)).alloc (.cells #[.string ⟨#[]⟩, .string ⟨#[]⟩, .int .i64 0] 125)):=((Below.refl _ _).alloc (Nat.le_refl _) _).alloc (by simp) _
 have hx0 : ((w.alloc (.cells #[.int .i64 lv,vk,vp] 240)).alloc (.cells #[.string ⟨#[]⟩, .string ⟨#[]⟩, .int .i64 0] 125)).heap[w.heap.size]? = some (.cells #[.int .i64 lv,vk,vp] 240):=(heap_past _ _ _ (by simp)).trans (heap_last w _ _ rfl)
 have hy0 : ((w.alloc (.cells #[.int .i64 lv,vk,vp] 240)).alloc (.cells #[.string ⟨#[]⟩, .string ⟨#[]⟩, .int .i64 0] 125)).heap[w.heap.size+1]? = some (.cells #[.string ⟨#[]⟩, .string ⟨#[]⟩, .int .i64 0] 125):=heap_last _ _ _ (by simp)
 have hk0:=(hk.keep hb0).up hb0.size
 obtain ⟨ap,cp,rfl,-,-⟩:=Dp hp
 obtain ⟨ak,ck,rfl,k1,k2,k4⟩:=hk0
 unfold maxLen at k2
 generalize hw0 : (w.alloc (.cells #[.int .i64 lv, .slice ak ks.length ck, .slice ap ps.length cp] 240)).alloc (.cells #[.string ⟨#[]⟩, .string ⟨#[]⟩, .int .i64 0] 125)=w0 at *
 have c1:=cell_of_row w0 w.heap.size 1 _ _ _ hx0
 simp only [List.getElem?_toArray,List.getElem?_cons_zero,List.getElem?_cons_succ] at c1
 have HB:=Ac hb0
 have HY:=Ac hy0
 have HR:=Ac (And.intro hmiss hhit)
 clear hb0 hx0 hk hp hy0 hR hmiss hhit
 go_enter Tryz.func143,Tryz.ntmps143
 go_wp2_with fail
 try rw [hw0]
 go_wp2_with fail
 go_loopw [12] (fun t wr=>∃ k : Nat,k≤ks.length∧t = .int .i64 k∧(∀ o∈ks.take k,(fun q : Ah=>!ltB q.1 key) o=false)∧Below w0.heap.size w0 wr)
  (fun t _=>ks.length - (intOf t).toNat)
 case atStart=>exact ⟨0,by omega,rfl,by simp,Below.refl _ _⟩
 case round=>
  obtain ⟨k,hkk,rfl,hno,hb⟩:=hrel
  have HBr:=Ac hb
  by_cases hlt : k<ks.length
  ·obtain ⟨b,off,rfl,hbB,hc⟩:=k4 (by rintro rfl; simp at hlt)
   have d0:=(hb.cell (p:=⟨b,off+k * 3+0,none⟩) hbB).trans (hc k hlt 0 _ rfl)
   have d1:=(hb.cell (p:=⟨b,off+k * 3+1,none⟩) hbB).trans (hc k hlt 1 _ rfl)
   have d2:=(hb.cell (p:=⟨b,off+k * 3+2,none⟩) hbB).trans (hc k hlt 2 _ rfl)
   simp only [Nat.add_zero] at d0
   have hit:=fun h=>HR.out.2 k hlt h hno
   have miss:=fun h=>Hv (f:=fun q : Ah=>!ltB q.1 key) hlt h hno
   have HB1:=Ac (HBr.out.alloc HBr.out.size (.cells #[.string (Ab ks[k].1), .string (Ab ks[k].2.1), .int .i64 ks[k].2.2] 125))
   have hy1:=(HB1.out.block _ (Ad HY.out)).trans HY.out
   generalize ks[k]=x at *
   have hge:=Ex 9 x.1 key
   have y0:=cell_of_row _ (w.heap.size+1) 0 _ _ _ hy1
   have y1:=cell_of_row _ (w.heap.size+1) 1 _ _ _ hy1
   have y2:=cell_of_row _ (w.heap.size+1) 2 _ _ _ hy1
   simp only [List.getElem?_toArray,List.getElem?_cons_zero,List.getElem?_cons_succ] at y0 y1 y2
   have f0:=Af (j:=0) hy1
   have f1:=Af (j:=1) hy1
   have f2:=Af (j:=2) hy1
   have HHM:=Ac (And.intro hit miss)
   have HY1:=Ac hy1
   have hxl:=heap_last wr (.cells #[.string (Ab x.1), .string (Ab x.2.1), .int .i64 x.2.2] 125) _ rfl
   generalize hwx : wr.alloc (.cells #[.string (Ab x.1), .string (Ab x.2.1), .int .i64 x.2.2] 125)=wx at *
   have x0:=cell_of_row wx wr.heap.size 0 _ _ _ hxl
   have x1:=cell_of_row wx wr.heap.size 1 _ _ _ hxl
   have x2:=cell_of_row wx wr.heap.size 2 _ _ _ hxl
   simp only [List.getElem?_toArray,List.getElem?_cons_zero,List.getElem?_cons_succ] at x0 x1 x2
   clear hit miss hb hc k4 hno hy1 hxl
   cases hlb : ltB x.1 key with
   | false=>
    rw [hlb] at hge
    have HE:=Ac (HHM.out.1 (by simp only [hlb]; rfl))
    go_wp2
    refine bodyPost_ret (Aq rfl _ _ _ _ _ _ _ rfl (Bm HY1.out) Tryz.underlying125 rfl Tryz.infoLinkP) rfl ⟨by rw [HE.out]; rfl,?_⟩
    have hB1:=HB.out.trans (HB1.out.mono HB.out.size)
    exact ((hB1.setCell (p:=⟨w.heap.size+1,0,none⟩) (Nat.le_succ _) _).setCell (p:=⟨w.heap.size+1,1,none⟩) (Nat.le_succ _) _).setCell (p:=⟨w.heap.size+1,2,none⟩) (Nat.le_succ _) _
   | true=>
    rw [hlb] at hge
    have HE:=Ac (HHM.out.2 (by simp only [hlb]; rfl))
    go_wp2
    go_roundw
    case rel=>exact ⟨k+1,by omega,by go_num,HE.out,HB1.out⟩
    case measure=>simp [intOf]; omega
  ·obtain rfl : k=ks.length:=by omega
   rw [List.take_length] at hno
   have HE:=Ac (HR.out.1 hno)
   have hy1:=(hb.block _ (Ad HY.out)).trans HY.out
   have y0:=cell_of_row _ (w.heap.size+1) 0 _ _ _ hy1
   have y1:=cell_of_row _ (w.heap.size+1) 1 _ _ _ hy1
   have y2:=cell_of_row _ (w.heap.size+1) 2 _ _ _ hy1
   simp only [List.getElem?_toArray,List.getElem?_cons_zero,List.getElem?_cons_succ] at y0 y1 y2
   have f0:=Af (j:=0) hy1
   have f1:=Af (j:=1) hy1
   have f2:=Af (j:=2) hy1
   clear hb k4 hno
   go_wp2
   refine bodyPost_ret (Aq rfl _ _ _ _ _ _ _ rfl (Bm hy1) Tryz.underlying125 rfl Tryz.infoLinkP) rfl ⟨by rw [HE.out]; rfl,?_⟩
   have hB1:=HB.out.trans (HBr.out.mono HB.out.size)
   exact ((hB1.setCell (p:=⟨w.heap.size+1,0,none⟩) (Nat.le_succ _) _).setCell (p:=⟨w.heap.size+1,1,none⟩) (Nat.le_succ _) _).setCell (p:=⟨w.heap.size+1,2,none⟩) (Nat.le_succ _) _
set_option maxRecDepth 20000 in
set_option maxHeartbeats 800000 in
theorem valueOf_any (w : World) (n : A2) (vk vp : Value) (key : Bs) (hk : Ls w.heap.size w 3 Au vk n.2.2) (hp : Ls w.heap.size w 2 Ak vp n.2.1) :
  Calls Tryz.prog 145 #[.agg #[.int .i64 n.1,vk,vp], .string (Ab key)] w fun e w'=>e = .returned (valV (valM n key))∧Below w.heap.size w w':=by
 obtain ⟨lv,ps,ks⟩:=n
 obtain ⟨R,hR⟩ : ∃ R,R=valV (valM (lv,ps,ks) key):=⟨_,rfl⟩
 rw [← hR]
 have hmiss:=fun (h : ∀ o∈ps,(fun q : Ag=>q.1 == key) o=false)=>hR.trans (congrArg valV (I3 h))
 have hhit:=fun (j : Nat) (hj : j<ps.length) (h1 : (fun q : Ag=>q.1 == key) ps[j]=true) (h2 : ∀ o∈ps.take j,(fun q : Ag=>q.1 == key) o=false)=>hR.trans (congrArg valV (Ja hj h1 h2))
 simp only at hk hp
 have hb0 : Below w.heap.size w (w.alloc (.cells #[.int .i64 lv,vk,vp] 240)):=(Below.refl _ _).alloc (Nat.le_refl _) _
 have hx0:=heap_last w (.cells #[.int .i64 lv,vk,vp] 240) _ rfl
 have hp0:=(hp.keep hb0).up hb0.size
 obtain ⟨ak,ck,rfl,-,-⟩:=Dp hk
 obtain ⟨ap,cp,rfl,k1,k2,k4⟩:=hp0
 unfold maxLen at k2
 generalize hw0 : w.alloc (.cells #[.int .i64 lv, .slice ak ks.length ck, .slice ap ps.length cp] 240)=w0 at *
 have c1:=cell_of_row w0 w.heap.size 2 _ _ _ hx0
 simp only [List.getElem?_toArray,List.getElem?_cons_zero,List.getElem?_cons_succ] at c1
 have HB:=Ac hb0
 have HR:=Ac (And.intro hmiss hhit)
 have tk:=toL key
 clear hb0 hx0 hk hp hR hmiss hhit
 go_enter Tryz.func145,Tryz.ntmps145
 go_wp2_with fail
 try rw [hw0]
 go_wp2_with fail
 go_loopw [11] (fun t wr=>∃ k : Nat,k≤ps.length∧t = .int .i64 k∧(∀ o∈ps.take k,(fun q : Ag=>q.1 == key) o=false)∧Below w0.heap.size w0 wr)
  (fun t _=>ps.length - (intOf t).toNat)
 case atStart=>exact ⟨0,by omega,rfl,by simp,Below.refl _ _⟩
 case round=>
  obtain ⟨k,hkk,rfl,hno,hb⟩:=hrel
  have HBr:=Ac hb
  by_cases hlt : k<ps.length
  ·obtain ⟨b,off,rfl,hbB,hc⟩:=k4 (by rintro rfl; simp at hlt)
   have d0:=(hb.cell (p:=⟨b,off+k * 2+0,none⟩) hbB).trans (hc k hlt 0 _ rfl)
   have d1:=(hb.cell (p:=⟨b,off+k * 2+1,none⟩) hbB).trans (hc k hlt 1 _ rfl)
   simp only [Nat.add_zero] at d0
   have hit:=fun h=>HR.out.2 k hlt h hno
   have miss:=fun h=>Hv (f:=fun q : Ag=>q.1 == key) hlt h hno
   have HB1:=Ac (HBr.out.alloc HBr.out.size (.cells #[.string (Ab ps[k].1), .string (Ab ps[k].2)] 135))
   generalize ps[k]=x at *
   have tx:=toL x.1
   have HHM:=Ac (And.intro hit miss)
   have hxl:=heap_last wr (.cells #[.string (Ab x.1), .string (Ab x.2)] 135) _ rfl
   generalize hwx : wr.alloc (.cells #[.string (Ab x.1), .string (Ab x.2)] 135)=wx at *
   have x0:=cell_of_row wx wr.heap.size 0 _ _ _ hxl
   have x1:=cell_of_row wx wr.heap.size 1 _ _ _ hxl
   simp only [List.getElem?_toArray,List.getElem?_cons_zero,List.getElem?_cons_succ] at x0 x1
   clear hit miss hb hc k4 hno hxl
   cases hlb : (x.1 == key) with
   | true=>
    have HE:=Ac (HHM.out.1 hlb)
    go_wp2
    go_ret2
    exact ⟨by rw [HE.out]; rfl,HB.out.trans (HB1.out.mono HB.out.size)⟩
   | false=>
    have HE:=Ac (HHM.out.2 hlb)
    go_wp2
    go_roundw
    case rel=>exact ⟨k+1,by omega,by go_num,HE.out,HB1.out⟩
    case measure=>simp [intOf]; omega
  ·obtain rfl : k=ps.length:=by omega
   rw [List.take_length] at hno
   have HE:=Ac (HR.out.1 hno)
   clear hb k4 hno
   go_wp2
   go_ret2
   exact ⟨by rw [HE.out]; rfl,HB.out.trans (HBr.out.mono HB.out.size)⟩
end Go.Proofs.YtckejblkppllaaaGreatDoor
namespace Go.Proofs.YtckejblkppllaaaGreatDoor
open Go.RowKit
end Go.Proofs.YtckejblkppllaaaGreatDoor
namespace Go.Proofs.YtckejblkppllaaaGreatDoor
open Go.RowKit
structure Gat {α : Type} (e : Nat→α→Bool) (ks : List α) (done : List (List α)) (cur rest : List α) : Prop where
 all : ks=done.flatten++(cur++rest)
 grp : Bp e [] ks=done++Bp e cur rest
 fin : rest = []→cur = []
 small : cur.length<64
theorem Gat.start {α : Type} (e : Nat→α→Bool) (ks : List α) : Gat e ks [] [] ks:=⟨rfl,rfl,fun _=>rfl,by simp⟩
theorem Gat.next {α : Type} {e : Nat→α→Bool} {ks : List α} {done : List (List α)} {cur r : List α} {x : α} (h : Gat e ks done cur (x :: r)) (h64 : ∀ y,e 64 y=true) (he : ¬ (e (cur.length+1) x=true∨r = [])) : Gat e ks done (cur ++ [x]) r:=by
 have h1 : ¬ e (cur.length+1) x=true:=fun q=>he (.inl q)
 refine ⟨by rw [h.all]; simp,by rw [h.grp,Bp,if_neg h1],fun q=>absurd (.inr q) he,?_⟩
 have : cur.length+1≠64:=fun q=>h1 (by rw [q]; exact h64 x)
 have:=h.small
 simp
 omega
theorem Gat.stop {α : Type} {e : Nat→α→Bool} {ks : List α} {done : List (List α)} {cur : List α} (h : Gat e ks done cur []) : Bp e [] ks=done:=by
 rw [h.grp,h.fin rfl,Bp]
 simp
theorem Gat.rest {α : Type} {e : Nat→α→Bool} {ks : List α} {done : List (List α)} {cur rest : List α} (h : Gat e ks done cur rest) {i : Nat} (hi : i=done.flatten.length+cur.length) : rest=ks.drop i:=by
 have : ks=(done.flatten++cur)++rest:=by rw [h.all]; simp
 rw [this,hi,← List.length_append,List.drop_left]
theorem Gat.few {α : Type} {e : Nat→α→Bool} {ks : List α} {done : List (List α)} {cur rest : List α} (h : Gat e ks done cur rest) : done.length≤ks.length:=by
 have h1:=gath_le e ks []
 rw [h.grp,List.length_append] at h1
 simp at h1
 omega
structure AbL (B : Nat) (w : World) (g : Nat) (level : Int) (vk : Value) (cur : List Ah) (vp : Value) (ks : List Ah) (vo : Value) (os : List Ag) : Prop where
 le : B≤g
 cell : w.heap[g]? = some (.cells #[.int .i64 level,vk] 129)
 kids : Rw B w 125 3 Au vk cur
 links : Rw B w 125 3 Au vp ks
 objs : Rw B w 38 2 Ak vo os
 ne : vk.ownBlock=none∨vk.ownBlock≠vp.ownBlock
theorem AbL.below {B : Nat} {w w' : World} {g : Nat} {level : Int} {vk : Value} {cur : List Ah} {vp : Value} {ks : List Ah} {vo : Value} {os : List Ag} (h : AbL B w g level vk cur vp ks vo os) (hb : Below w.heap.size w w') : AbL B w' g level vk cur vp ks vo os:=
 ⟨h.le,(hb.block _ (Ad h.cell)).trans h.cell,A0 h.kids hb,A0 h.links hb,A0 h.objs hb,h.ne⟩
end Go.Proofs.YtckejblkppllaaaGreatDoor
namespace Go.Proofs.YtckejblkppllaaaGreatDoor
open Go.RowKit
end Go.Proofs.YtckejblkppllaaaGreatDoor
namespace Go.Proofs.YtckejblkppllaaaGreatDoor
open Go.RowKit
theorem rise_snoc : ∀ (l : List Bs) (a b : Bs),Bd ltB (l ++ [a,b])=(Bd ltB (l ++ [a]) && ltB a b)
 | [],a,b=>by simp [Bd]
 | [c],a,b=>by simp [Bd]
 | c :: d :: l,a,b=>by
  have:=rise_snoc (d :: l) a b
  simp only [List.cons_append,Bd] at this ⊢
  rw [this,Bool.and_assoc]
def Gm (l : List Ag) (i : Nat) (x : Ag) : Bool:=A3 x && (decide (i=0) || ltB ((l[i - 1]?.map (·.1)).getD []) x.1)
theorem Nh (l : List Ag) (i : Nat) (h : i<l.length) : Ce (l.take (i+1))=(Ce (l.take i) && Gm l i l[i]):=by
 unfold Ce Gm
 rw [List.take_succ_eq_append_getElem h,List.all_append,List.map_append]
 cases i with
 | zero=>simp [Bd]
 | succ k=>
  have hk : k<l.length:=by omega
  rw [List.take_succ_eq_append_getElem hk,List.map_append,List.append_assoc]
  have:=rise_snoc ((l.take k).map (·.1)) l[k].1 l[k+1].1
  simp only [List.map_cons,List.map_nil,List.singleton_append,List.all_cons,List.all_nil,Bool.and_true,Nat.add_sub_cancel,List.getElem?_eq_getElem hk,Option.map_some,Option.getD_some,Nat.add_eq_zero_iff,Nat.one_ne_zero,and_false,decide_false,Bool.false_or] at this ⊢
  rw [this]
  simp only [Bool.and_assoc,Bool.and_left_comm]
theorem pairsOk_take {l : List Ag} (h : Ce l=true) (k : Nat) : Ce (l.take k)=true:=by
 unfold Ce at h ⊢
 simp only [Bool.and_eq_true,List.all_eq_true] at h ⊢
 exact ⟨fun p hp=>h.1 p (List.mem_of_mem_take hp),(Fb _).2 (((Fb _).1 h.2).sublist ((List.take_sublist k l).map _))⟩
theorem nextOk_no {l : List Ag} {i : Nat} {x : Ag} (h : A3 x=false) : Gm l i x=false:=by unfold Gm; rw [h]; rfl
end Go.Proofs.YtckejblkppllaaaGreatDoor
namespace Go.Proofs.YtckejblkppllaaaGreatDoor
open Go.RowKit
theorem ltB_le : ∀ (a b : Bs),(ltB a b || a == b) = !ltB b a
 | [],[]=>by rw [Gh]; rfl
 | [],b :: m=>by rw [Gi,Gh]; rfl
 | a :: l,[]=>by rw [Gi,Gh]; rfl
 | a :: l,b :: m=>by
  have ih:=ltB_le l m
  rw [Gu,Gu]
  by_cases h : a=b
  ·subst h
   have h1 : ¬ a<a:=UInt8.lt_irrefl a
   simp [h1,ih]
  ·have h1 : (a == b)=false:=by simpa using h
   have h2 : (b == a)=false:=by simpa using fun e=>h e.symm
   have h3 : (a :: l == b :: m)=false:=by simp [h]
   rw [h1,h2,h3]
   by_cases h4 : a<b
   ·have h5 : ¬ b<a:=UInt8.lt_asymm h4
    simp [h4,h5]
   ·have h5 : b<a:=by
     rcases UInt8.lt_or_lt_of_ne h with q | q
     ·exact absurd q h4
     ·exact q
    simp [h4,h5]
theorem leq_str (t : TypeId) (a b : Bs) : binOp .leq t (.string (Ab a)) (.string (Ab b))=pure (.bool (!ltB b a)):=by
 have:=ltB_le a b
 unfold ltB at this
 simp [binOp,Op.stringOp,toLr,ltB,this]
theorem Nu (l : List Ag) (k : Nat) (hk : k<l.length) : By (l.take (k+1))=l[k].1:=by
 unfold By
 rw [List.take_succ_eq_append_getElem hk,List.getLast?_concat]
 rfl
theorem nextOk_last {l : List Ag} {k : Nat} {x : Ag} (hx : A3 x=true) (hk : k≤l.length) : Gm l k x=ltB (By (l.take k)) x.1:=by
 unfold Gm
 rw [hx]
 cases k with
 | zero=>
  have : 1≤x.1.length:=by
   unfold A3 As at hx
   simp at hx
   omega
  cases hq : x.1 with
  | nil=>rw [hq] at this; simp at this
  | cons a r=>simp [By,Gi]
 | succ k=>
  rw [Nu l k (by omega)]
  have : (k+1 - 1)=k:=by omega
  simp [this,List.getElem?_eq_getElem (show k<l.length by omega)]
theorem pairsOk_no {l : List Ag} {k : Nat} (hk : k<l.length) (h : Gm l k l[k]=false) : Ce l=false:=by
 have h1:=Nh l k hk
 rw [h,Bool.and_false] at h1
 cases hq : Ce l with
 | false=>rfl
 | true=>rw [pairsOk_take hq (k+1)] at h1; cases h1
set_option maxRecDepth 20000 in
set_option maxHeartbeats 800000 in
theorem Ot (w : World) (l : List Ag) (v : Value) (hv : Ls w.heap.size w 2 Ak v l) :
  Calls Tryz.prog 64 #[v] w fun e w'=>e = .returned (.bool (Ce l))∧Below w.heap.size w w':=by
 obtain ⟨ao,cap,rfl,h1,h2,h4⟩:=hv
 unfold maxLen at h2
 have hnil : Ab (By (l.take 0))=⟨#[]⟩:=rfl
 go_enter Tryz.func64,Tryz.ntmps64
 go_wp2_with fail
 go_loopw [8,3] (fun t u wr=>∃ k : Nat,k≤l.length∧t = .int .i64 k∧u = .string (Ab (By (l.take k)))∧Ce (l.take k)=true∧Below w.heap.size w wr)
  (fun t _ _=>l.length - (intOf t).toNat)
 case atStart=>exact ⟨0,by omega,rfl,rfl,rfl,Below.refl _ _⟩
 case round=>
  obtain ⟨k,hk,rfl,rfl,hok,hb⟩:=hrel
  have HB:=Ac hb
  have HOK:=Ac hok
  clear hok
  by_cases hlt : k<l.length
  ·obtain ⟨b,off,rfl,hbB,hc⟩:=h4 (by rintro rfl; simp at hlt)
   have c0:=(hb.cell (p:=⟨b,off+k * 2+0,none⟩) hbB).trans (hc k hlt 0 _ rfl)
   have c1:=(hb.cell (p:=⟨b,off+k * 2+1,none⟩) hbB).trans (hc k hlt 1 _ rfl)
   simp only [Nat.add_zero] at c0
   have hstep:=Nh l k hlt
   have hno:=fun h=>pairsOk_no (l:=l) hlt h
   have hlast:=Nu l k hlt
   have hnx:=fun (h : A3 (l[k]'hlt)=true)=>nextOk_last (l:=l) (k:=k) h hk
   have HB1:=Ac (HB.out.alloc HB.out.size (.cells #[.string (Ab l[k].1), .string (Ab l[k].2)] 135))
   generalize l[k]=x at *
   have HX:=Ac (And.intro hstep (And.intro hno (And.intro hlast hnx)))
   have hx2:=A1 x.2
   have hleq:=leq_str 9 x.1 (By (l.take k))
   generalize By (l.take k)=last at *
   clear hstep hno hlast hnx hc hb
   cases hkey : As x.1 with
   | false=>
    have HN:=Ac (HX.out.2.1 (nextOk_no (Gv (.inl hkey))))
    go_wp2_with fail
    refine (G3 _ x.1).mono ?_
    rintro e w1 ⟨rfl,rfl⟩
    rw [hkey]
    go_wp2
    go_ret
    exact ⟨Al HN.out.symm,HB1.out⟩
   | true=>
    by_cases hv : 128<x.2.length
    ·have HN:=Ac (HX.out.2.1 (nextOk_no (Gv (.inr hv))))
     have hgt : decide ((128 : Int)<(x.2.length : Int))=true:=by simp; omega
     cases hlb : ltB last x.1 with
     | false=>
      rw [hlb] at hleq
      go_wp2_with fail
      refine (G3 _ x.1).mono ?_
      rintro e w1 ⟨rfl,rfl⟩
      rw [hkey]
      go_wp2
      go_ret
      exact ⟨Al HN.out.symm,HB1.out⟩
     | true=>
      rw [hlb] at hleq
      go_wp2_with fail
      refine (G3 _ x.1).mono ?_
      rintro e w1 ⟨rfl,rfl⟩
      rw [hkey]
      go_wp2
      go_ret
      exact ⟨Al HN.out.symm,HB1.out⟩
    ·have hpo : A3 x=true:=by unfold A3; rw [hkey]; simp; omega
     have hgt : decide ((128 : Int)<(x.2.length : Int))=false:=by simp; omega
     have hnx:=HX.out.2.2.2 hpo
     have HPO:=Ac hpo
     clear hpo
     cases hlb : ltB last x.1 with
     | false=>
      rw [hlb] at hnx hleq
      have HN:=Ac (HX.out.2.1 hnx)
      clear hnx
      go_wp2_with fail
      refine (G3 _ x.1).mono ?_
      rintro e w1 ⟨rfl,rfl⟩
      rw [hkey]
      go_wp2
      go_ret
      exact ⟨Al HN.out.symm,HB1.out⟩
     | true=>
      rw [hlb] at hnx hleq
      have HN:=Ac (show Ce (l.take (k+1))=true by rw [HX.out.1,HOK.out,hnx]; rfl)
      clear hnx
      go_wp2_with fail
      refine (G3 _ x.1).mono ?_
      rintro e w1 ⟨rfl,rfl⟩
      rw [hkey]
      go_wp2
      go_roundw
      case rel=>exact ⟨k+1,by omega,by go_num,by rw [HX.out.2.2.1],HN.out,HB1.out⟩
      case measure=>simp [intOf]; omega
  ·obtain rfl : k=l.length:=by omega
   rw [List.take_length] at HOK
   clear hb
   go_wp2
   go_ret
   exact ⟨Al HOK.out.symm,HB.out⟩
end Go.Proofs.YtckejblkppllaaaGreatDoor
