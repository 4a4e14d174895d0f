/-
  Texts joined: PRange, PShown, PListP, YGet, ASmall, AEach.
-/
import Derived.Test.YtckejblkppllaaaGreatDoorT37PGoing2
import Derived.Maps.AppendAt
import Derived.Test.YtckejblkppllaaaGreatDoorT30PFind
import Derived.Test.YtckejblkppllaaaGreatDoorT34PBuild
import Derived.Test.YtckejblkppllaaaGreatDoorT21PRList
import Derived.Test.YtckejblkppllaaaGreatDoorT35APlain
import Derived.Test.YtckejblkppllaaaGreatDoorT31PRDone
import Derived.Laws.IdiomStrings
import Derived.RangeFuncNested
import Derived.RangeFuncBound
import Derived.RangeFuncCalls
import Derived.RangeFuncLeaves
import Derived.RangeFuncBox
import Derived.Shelf.Abstract
import Derived.Shelf.RegionOpen
import Derived.WalkKit
import Derived.OwnWalkIn
import Derived.TacticsInMore
import Derived.LoopNIn
import Derived.LoopIn
import Derived.Test.YtckejblkppllaaaGreatDoorProg
namespace Go.Proofs.YtckejblkppllaaaGreatDoor
open Go.RowKit
attribute [local go_sem] Oper.semAt_some
def leaveX : Option Nat→Exit
 | none=>.ret
 | some id=>.exit id
def leaveC : Option Nat→Code
 | none=>.ret
 | some id=>.exit id
abbrev D4 (x : Ag) : Obj:=.cells #[.string (Ab x.1), .string (Ab x.2)] 135
theorem Mv.put {B : Nat} {ts : List TypeId} {r : Option Nat} {W : World} {k : Nat} {o o' : Obj} (h : W.heap[k]? = some o) (ho : isRec o=true) (hB : B≤k) : Mv B ts r W (W.putObj k o'):=by
 have hlt:=Ad h
 refine ⟨⟨rfl,rfl,rfl,by simp [World.putObj],fun i hi=>World.putObj_heap_other (by omega)⟩,fun i cs t fr hi _ _=>?_⟩
 refine (World.putObj_heap_other ?_).trans hi
 rintro rfl
 rw [h] at hi
 injection hi with hi
 subst hi
 cases ho
set_option maxHeartbeats 1600000 in
theorem wp_told {σ : Type} {P : Program} {g : Operand} {p q : Tmp} {assign body : Code} {Q : Exit→Act→World→Prop} {a : Act} {w : World} {gf : Nat} {lb : Array Value}
  (hPP : P=Tryz.prog) (hg : a.eval g = .func (.func gf) #[] lb) (henter : ∀ args w,(callFunc gf args).run P w = .ok (.enter gf args) w)
  (k : Sink σ) (B : Nat) (sts : List TypeId) (hBw : B≤w.heap.size) (J0 Jn Jc : Value→σ→World→Prop) (lv : σ→Option Nat)
  (kJ : ∀ {v : Value} {s : σ} {W W' : World},J0 v s W→Mv B jts Option.none W W'→J0 v s W') (kn : ∀ {v : Value} {s : σ} {W W' : World},Jn v s W→Mv B [] Option.none W W'→Jn v s W') (kc : ∀ {v : Value} {s : σ} {W W' : World},Jc v s W→Mv B [] Option.none W W'→Jc v s W')
  (row : ∀ {v : Value} {s : σ} {W : World} {b : Nat},J0 v s W→v.ownBlock=some b→∃ cs fr,W.heap[b]? = some (.cells cs 135 fr))
  (apart : 255 ∉ sts∧135 ∉ sts∧125 ∉ sts∧240 ∉ sts)
  (olds : List (Nat × Obj)) (ho : ∀ p∈olds,w.heap[p.1]? = some p.2∧isRec p.2=true) (start : Nat→Ag→Int→Act)
  (hassign : ∀ (l : Nat) (x : Ag) (er : Int) (W : World) (K : Act→World→Prop),K (start W.heap.size x er) (W.alloc (D4 x)) →
   assign.wpIn (Fence.wide.inRound l) 0 P (Exit.then K (fun _ _ _=>False)) { tmps:=(a.tmps.setIfInBounds p (.agg #[.string (Ab x.1), .string (Ab x.2)])).setIfInBounds q (.int .i64 er),defers:=[] } W)
  (hbody : ∀ (l b : Nat) (v : Value) (s : σ) (x : Ag) (er : Int) (W : World),J0 v s W→W.heap[b]? = some (D4 x)→some b≠v.ownBlock→(er=0→k.cap s≤1000000)→(er≠0→x=([],[])) →
   body.wpIn (Fence.wide.inRound l) 0 P (fun e _ W'=>KO W W'∧∃ v',Mv B sts v.ownBlock W W'∧Nx W v.ownBlock v'.ownBlock ∧
    ((e = .normal∧((er=0∧(k.st s x).2=true∧J0 v' (k.st s x).1 W')∨(er≠0∧Jn v' (k.er s er) W')))∨(∃ s',e=leaveX (lv s')∧((er=0∧(k.st s x).2=false∧s'=(k.st s x).1)∨(er≠0∧s'=k.er s er))∧Jc v' s' W'))) (start b x er) W)
  (v0 : Value) (s0 : σ) (h0 : J0 v0 s0 w) (T : Tst σ × Bool) (X : World→Prop) (kX : ∀ {W W' : World},X W→Mv B [] Option.none W W'→X W')
  (hiter : ∀ (l : Nat) (J Jx : Value→σ→World→Prop) (W : World),YieldOk l k B sts J Jx→J v0 s0 W→Below w.heap.size w W→Calls P gf (#[.func (.yield l) #[] #[]]++lb) W fun e W'=>(∃ x,e = .returned x)∧∃ v',(T.2=true→J v' T.1.s W')∧(T.2=false→Jx v' T.1.s W')∧X W')
  (hall : ∀ (D : Nat) (W : World) (v' : Value),w.heap.size≤D→(T.2=true∧J0 v' T.1.s W∨T.2=false∧Jn v' T.1.s W)→X W→W.heap[D]? = some (.deferred (some []))→(∀ p∈olds,W.heap[p.1]? = some p.2)→Q .normal { a with defers:={ target:=.collected D,args:=#[] } :: a.defers } W)
  (hleft : ∀ (D : Nat) (W : World) (v' : Value),w.heap.size≤D→T.2=false→Jc v' T.1.s W→X W→W.heap[D]? = some (.deferred (some []))→(∀ p∈olds,W.heap[p.1]? = some p.2)→(leaveC (lv T.1.s)).wpIn Fence.wide 0 P Q { a with defers:={ target:=.collected D,args:=#[] } :: a.defers } W) :
  (Code.rangeFunc g #[p,q] assign body).wpIn Fence.wide 0 P Q a w:=by
 subst hPP
 refine wpIn_rangeFunc fun fn hfn=>?_
 let D:=w.heap.size
 let R : LoopState→Option Code→Obj:=fun st pe=>.loop { state:=st,pending:=pe,fn,tmps:=a.tmps,params:=#[p,q],assign,body,defers:=D }
 let wl:=(w.alloc (.deferred (some []))).alloc (R .ready none)
 have hD : wl.heap[D]? = some (.deferred (some [])):=(Below.heap_alloc _ _ _ (by simp [D])).trans (World.alloc_heap_new w _)
 have hL : wl.heap[D+1]? = some (R .ready none):=by
  have:=World.alloc_heap_new (w.alloc (.deferred (some []))) (R .ready none)
  rwa [World.size_alloc] at this
 have hbl : Below w.heap.size w wl:=((Below.refl _ w).alloc (Nat.le_refl _) _).alloc (by simp) _
 have turn : ∀ (ts : List TypeId) (r : Option Nat) (W : World) st pe st' pe',W.heap[D+1]? = some (R st pe)→Mv B ts r W (W.putObj (D+1) (R st' pe')):=
  fun ts r W st pe st' pe' h=>Mv.put h rfl (Nat.le_trans hBw (Nat.le_succ _))
 refine ⟨D+1,[{ target:=.collected D,args:=#[] }],wl,{ target:=.fn (.func gf) lb,args:=#[] ++ #[.func (.yield (D+1)) #[] #[]] },wl,gf,
  #[.func (.yield (D+1)) #[] #[]]++lb,wl,run_enterLoop_outer _ _ _ _ _,?_,fun _ _=>trivial,?_,(fun h=>by cases h),?_⟩
 ·simp only [resolve,hg]
  simp [Deferred.ofValue,go_sem]
 ·simp [invoke,henter]
 -- a round
 have hround : ∀ (v : Value) (s : σ) (x : Ag) (er : Int) (W : World),(J0 v s W∧W.heap[D+1]? = some (R .ready none)∧W.heap[D]? = some (.deferred (some []))∧∀ p∈olds,W.heap[p.1]? = some p.2)→(er=0→k.cap s≤1000000)→(er≠0→x=([],[])) →
   YieldAt Fence.wide 0 Tryz.prog (D+1) #[.agg #[.string (Ab x.1), .string (Ab x.2)], .int .i64 er] W fun e W'=>∃ v',Mv B sts v.ownBlock W W'∧Nx W v.ownBlock v'.ownBlock∧(W'.heap[D]? = some (.deferred (some []))∧∀ p∈olds,W'.heap[p.1]? = some p.2) ∧
    ((e = .returned (.bool true)∧W'.heap[D+1]? = some (R .ready none)∧((er=0∧(k.st s x).2=true∧J0 v' (k.st s x).1 W')∨(er≠0∧Jn v' (k.er s er) W')))∨(∃ s',e = .returned (.bool false)∧W'.heap[D+1]? = some (R .done (some (leaveC (lv s'))))∧((er=0∧(k.st s x).2=false∧s'=(k.st s x).1)∨(er≠0∧s'=k.er s er))∧Jc v' s' W')):=by
  rintro v s x er W ⟨hj,hl,hd,hold⟩ hcap hx
  have hlt : D+1<W.heap.size:=(Array.getElem?_eq_some_iff.1 hl).1
  refine ⟨fn,(a.tmps.setIfInBounds p (.agg #[.string (Ab x.1), .string (Ab x.2)])).setIfInBounds q (.int .i64 er),assign,body,(run_yield (args:=#[.agg #[.string (Ab x.1), .string (Ab x.2)], .int .i64 er]) hl rfl).trans (by simp),roundIn_of_wpIn hfn ?_⟩
  refine hassign (D+1) x er W (fun a1 w1=>∃ w2,(Instr.beginRound (D+1)).run Tryz.prog w1 = .ok () w2∧body.wpIn (Fence.wide.inRound (D+1)) 0 Tryz.prog _ a1 w2) ?_
  have hlA : (W.alloc (D4 x)).heap[D+1]? = some (R .ready none):=(heap_past _ _ _ hlt).trans hl
  have hdA : (W.alloc (D4 x)).heap[D]? = some (.deferred (some [])):=(heap_past _ _ _ (Ad hd)).trans hd
  have hoA : ∀ p∈olds,(W.alloc (D4 x)).heap[p.1]? = some p.2:=fun p hp=>(heap_past _ _ _ (Ad (hold p hp))).trans (hold p hp)
  have hbA : Below W.heap.size W (W.alloc (D4 x)):=(Below.refl _ _).alloc (Nat.le_refl _) _
  have hBW : B≤W.heap.size:=by omega
  have hMA : Mv B sts v.ownBlock W (W.alloc (D4 x)):=Mv.of hbA hBW
  have hjA:=kJ hj (Mv.of hbA hBW)
  have hxA:=heap_last W (D4 x) _ rfl
  have hvlt : ∀ b,v.ownBlock=some b→b<W.heap.size:=fun b hb=>by obtain ⟨cs,fr,h⟩:=row hj hb; exact Ad h
  have hsA : (W.alloc (D4 x)).heap.size=W.heap.size+1:=by simp
  generalize W.alloc (D4 x)=wa at *
  refine ⟨_,run_beginRound hlA rfl,?_⟩
  have hl1 : (wa.putObj (D+1) (R .busy none)).heap[D+1]? = some (R .busy none):=World.putObj_heap_same (by omega)
  have hd1 : (wa.putObj (D+1) (R .busy none)).heap[D]? = some (.deferred (some [])):=(World.putObj_heap_other (by omega)).trans hdA
  have ho1 : ∀ p∈olds,(wa.putObj (D+1) (R .busy none)).heap[p.1]? = some p.2:=fun p hp=>(World.putObj_heap_other (by have:=Ad (ho p hp).1; omega)).trans (hoA p hp)
  have hM1 : Mv B sts v.ownBlock W (wa.putObj (D+1) (R .busy none)):=hMA.trans (turn sts v.ownBlock wa _ _ _ _ hlA) (Nx.refl _ _)
  have hj1:=kJ hjA (turn jts Option.none wa _ _ .busy Option.none hlA)
  have hx1 : (wa.putObj (D+1) (R .busy none)).heap[W.heap.size]? = some (D4 x):=(World.putObj_heap_other (by omega)).trans hxA
  have hs1 : (wa.putObj (D+1) (R .busy none)).heap.size=wa.heap.size:=by simp [World.putObj]
  refine wpIn_mono (hbody (D+1) W.heap.size v s x er (wa.putObj (D+1) (R .busy none)) hj1 hx1 (fun e=>by have:=hvlt _ e.symm; omega) hcap hx) fun e b V2 hp=>?_
  obtain ⟨hk2,v',hm2,hn2,hcs⟩:=hp
  have hl2:=hk2 _ _ hl1 rfl
  have hd2:=hk2 _ _ hd1 rfl
  have ho2:=fun p (hp : p∈olds)=>hk2 _ _ (ho1 p hp) (ho p hp).2
  have ho3:=fun (o : Obj) p (hp : p∈olds)=>(World.putObj_heap_other (w:=V2) (o:=o) (show p.1≠D+1 by have:=Ad (ho p hp).1; omega)).trans (ho2 p hp)
  have hN : Nx W v.ownBlock v'.ownBlock:=(Nx.refl W v.ownBlock).trans hn2 hM1.size
  rcases hcs with ⟨rfl,hcs⟩ | ⟨s',rfl,hcs,hjc⟩
  ·refine ⟨_,_,run_endRound none hl2,v',(hM1.trans hm2 (Nx.refl _ _)).trans ((turn sts v.ownBlock V2 _ _ _ _ hl2)) (Nx.refl _ _),hN,⟨(World.putObj_heap_other (by omega)).trans hd2,ho3 _⟩, .inl ⟨rfl,World.putObj_heap_same (Array.getElem?_eq_some_iff.1 hl2).1,?_⟩⟩
   rcases hcs with ⟨h1,h2,h3⟩ | ⟨h1,h3⟩
   ·exact .inl ⟨h1,h2,kJ h3 (turn jts Option.none V2 _ _ _ _ hl2)⟩
   ·exact .inr ⟨h1,kn h3 (turn [] Option.none V2 _ _ _ _ hl2)⟩
  ·cases hlv : lv s' with
   | none=>
    exact ⟨_,_,run_endRound (some .ret) hl2,v',(hM1.trans hm2 (Nx.refl _ _)).trans ((turn sts v.ownBlock V2 _ _ _ _ hl2)) (Nx.refl _ _),hN,⟨(World.putObj_heap_other (by omega)).trans hd2,ho3 _⟩, .inr ⟨s',rfl,by rw [hlv]; exact World.putObj_heap_same (Array.getElem?_eq_some_iff.1 hl2).1,hcs,kc hjc (turn [] Option.none V2 _ _ _ _ hl2)⟩⟩
   | some id=>
    exact ⟨_,_,run_endRound (some (.exit id)) hl2,v',(hM1.trans hm2 (Nx.refl _ _)).trans ((turn sts v.ownBlock V2 _ _ _ _ hl2)) (Nx.refl _ _),hN,⟨(World.putObj_heap_other (by omega)).trans hd2,ho3 _⟩, .inr ⟨s',rfl,by rw [hlv]; exact World.putObj_heap_same (Array.getElem?_eq_some_iff.1 hl2).1,hcs,kc hjc (turn [] Option.none V2 _ _ _ _ hl2)⟩⟩
 let J : Value→σ→World→Prop:=fun v s W=>J0 v s W∧W.heap[D+1]? = some (R .ready none)∧W.heap[D]? = some (.deferred (some []))∧∀ p∈olds,W.heap[p.1]? = some p.2
 let Jx : Value→σ→World→Prop:=fun v s W=>(Jn v s W∧W.heap[D+1]? = some (R .ready none)∧W.heap[D]? = some (.deferred (some []))∧∀ p∈olds,W.heap[p.1]? = some p.2)∨(Jc v s W∧W.heap[D+1]? = some (R .done (some (leaveC (lv s))))∧W.heap[D]? = some (.deferred (some []))∧∀ p∈olds,W.heap[p.1]? = some p.2)
 have hY : YieldOk (D+1) k B sts J Jx:=by
  refine ⟨fun h hm hk=>⟨kJ h.1 hm,hk _ _ h.2.1 rfl,hk _ _ h.2.2.1 rfl,fun p hp=>hk _ _ (h.2.2.2 p hp) (ho p hp).2⟩,fun h hb=>row h.1 hb,fun v s x W hj hcap=>?_,fun v s er W hj her=>?_,apart⟩
  ·obtain ⟨f1,t1,a1,b1,hy,hR⟩:=hround v s x 0 W hj (fun _=>hcap) (fun h=>absurd rfl h)
   refine ⟨f1,t1,a1,b1,hy,hR.mono fun e W' hp=>?_⟩
   obtain ⟨v',hm,hn,hd,hcs⟩:=hp
   rcases hcs with ⟨rfl,hl,⟨-,h2,h3⟩ | ⟨h1,-⟩⟩ | ⟨s',rfl,hl,⟨-,h2,rfl⟩ | ⟨h1,-⟩,h3⟩
   ·exact ⟨v',by rw [h2],hm,hn,fun _=>⟨h3,hl,hd.1,hd.2⟩,fun h=>by rw [h2] at h; cases h⟩
   ·exact absurd rfl h1
   ·exact ⟨v',by rw [h2],hm,hn,(fun h=>by rw [h2] at h; cases h),fun _=>.inr ⟨h3,hl,hd.1,hd.2⟩⟩
   ·exact absurd rfl h1
  ·obtain ⟨f1,t1,a1,b1,hy,hR⟩:=hround v s ([],[]) er W hj (fun h=>absurd h her) (fun _=>rfl)
   refine ⟨f1,t1,a1,b1,hy,hR.mono fun e W' hp=>?_⟩
   obtain ⟨v',hm,hn,hd,hcs⟩:=hp
   rcases hcs with ⟨rfl,hl,⟨h1,-,-⟩ | ⟨-,h3⟩⟩ | ⟨s',rfl,hl,⟨h1,-,-⟩ | ⟨-,rfl⟩,h3⟩
   ·exact absurd h1 her
   ·exact ⟨v',true,rfl,hm,hn, .inl ⟨h3,hl,hd.1,hd.2⟩⟩
   ·exact absurd h1 her
   ·exact ⟨v',false,rfl,hm,hn, .inr ⟨h3,hl,hd.1,hd.2⟩⟩
 have hit:=hiter (D+1) J Jx wl hY ⟨kJ h0 (Mv.of hbl hBw),hL,hD,fun p hp=>(hbl.block _ (Ad (ho p hp).1)).trans (ho p hp).1⟩ hbl
 refine (callsIn_wide.2 hit).mono ?_
 rintro e V ⟨⟨v,rfl⟩,v',hJ,hJx,hX⟩
 cases hT : T.2 with
 | true=>
  obtain ⟨hj,hl,hd,hold⟩:=hJ hT
  exact ⟨none,_,run_endLoop hl (by simp),hall D _ v' (Nat.le_refl _) (.inl ⟨hT,kJ hj (turn jts Option.none V _ _ _ _ hl)⟩) (kX hX (turn [] Option.none V _ _ _ _ hl)) ((World.putObj_heap_other (by omega)).trans hd) (fun p hp=>(World.putObj_heap_other (show p.1≠D+1 by have:=Ad (ho p hp).1; omega)).trans (hold p hp))⟩
 | false=>
  rcases hJx hT with ⟨hj,hl,hd,hold⟩ | ⟨hj,hl,hd,hold⟩
  ·exact ⟨none,_,run_endLoop hl (by simp),hall D _ v' (Nat.le_refl _) (.inr ⟨hT,kn hj (turn [] Option.none V _ _ _ _ hl)⟩) (kX hX (turn [] Option.none V _ _ _ _ hl)) ((World.putObj_heap_other (by omega)).trans hd) (fun p hp=>(World.putObj_heap_other (show p.1≠D+1 by have:=Ad (ho p hp).1; omega)).trans (hold p hp))⟩
  ·exact ⟨some (leaveC (lv T.1.s)),_,run_endLoop hl (by simp),hleft D _ v' (Nat.le_refl _) hT (kc hj (turn [] Option.none V _ _ _ _ hl)) (kX hX (turn [] Option.none V _ _ _ _ hl)) ((World.putObj_heap_other (by omega)).trans hd) (fun p hp=>(World.putObj_heap_other (show p.1≠D+1 by have:=Ad (ho p hp).1; omega)).trans (hold p hp))⟩
end Go.Proofs.YtckejblkppllaaaGreatDoor
namespace Go.Proofs.YtckejblkppllaaaGreatDoor
open Go.RowKit
theorem Oe {P : Program} {f : FuncId} {fn : Func} {c : Code} (h1 : P.funcs[f]? = some fn) (h2 : (fn.name == "runtime.NumGoroutine")=false) (h3 : fn.body=some c) (args : Array Value) (w : World) : (callFunc f args).run P w = .ok (.enter f args) w:=by
 have h4 : fn.name ≠ "runtime.NumGoroutine":=by simpa using h2
 simp [callFunc,h1,h4,h3,mark]
theorem get_from {w2 : World} {c : Nat} {v : Value} {objs : List Ag} (ts : List TypeId) (hn : 240∈ts) (hc : w2.heap[c]? = some (.cells #[v] 22)) (hv : Ls w2.heap.size w2 2 Ak v objs) (hs : ∀ o∈objs,o.2.length≤140737488351232) :
  GetOk 28 #[.pointer (some ⟨c,0,none⟩)] (Aj objs) w2.heap.size ts (fun W _=>Below w2.heap.size w2 W) where
 eg:=Oe Tryz.func28 (by kernel_rfl) rfl
 le W a h:=h.size
 mv h hm:=h.trans hm.b
 call W a id h _:=(from1_any W c v objs id ((h.block c (Ad hc)).trans hc) ((hv.keep h).up h.size)).mono fun e w' hq=>⟨hq.1,hq.2 ▸ h,hq.2 ▸ Mv.refl _ _ _ _,hq.2 ▸ KO.refl _⟩
 node:=hn
 short id b h:=Ji hs id b h
set_option maxRecDepth 20000 in
theorem Le (w : World) (ao : Option Addr) (m c : Nat) : Calls Tryz.prog 8 #[.slice ao m c] w fun e w'=>e = .returned (.func (.func 28) #[] #[.pointer (some ⟨w.heap.size,0,none⟩)])∧w'=w.alloc (.cells #[.slice ao m c] 22):=by
 have hmf : ∀ (fn : Fn) (first cap : Array Value) (w : World),(Instr.makeFunc fn first cap).run Tryz.prog w = .ok (.func fn first cap) w:=fun _ _ _ _=>rfl
 go_enter Tryz.func8,Tryz.ntmps8
 go_wp2
 go_ret
 exact ⟨rfl,rfl⟩
end Go.Proofs.YtckejblkppllaaaGreatDoor
namespace Go.Proofs.YtckejblkppllaaaGreatDoor
open Go.RowKit Go.Shelf
attribute [local go_sem] Oper.semAt_some
theorem O4 {F : Fence} {n : Nat} {P : Program} {ops : Array Oper} {Q : Exit→Act→World→Prop} {rest : List Oper} {o : Oper} {a : Act} {w : World} (hg : o.guard=none) (s x : Operand) (t : TypeId)
  (ho : o.op = .call { callee:=.builtin .append,args:=#[s,x],argTypes:=#[t,t] }) {v1 v2 v' : Value} {w' : World} (hs : a.eval s=v1) (hx : a.eval x=v2)
  (hrun : (Builtin.append_ #[t,t] o.type #[v1,v2]).run P w = .ok v' w') (hK : wpListIn F n P ops Q rest (a.put o.dst v') w') : wpListIn F n P ops Q (o :: rest) a w:=by
 refine wpListIn_plain hg fun K hK'=>?_
 unfold Oper.wpIn
 refine ⟨?_,?_⟩
 ·simp [Oper.about,ho,resolve,Target.leads,Sem.run_pure]
 ·rw [Oper.semAt_plain F _ _ (by rw [ho]; intro c hc'; cases hc')]
  simp [execOp,ho,resolve,invoke,builtin,hs,hx,hrun,Result.andThen,Oper.uponIn]
  exact hK' _ _ hK
abbrev sts1 : List TypeId:=[126,28]
abbrev kts1 : List TypeId:=[240,135,255,126,28]
def ListJ (r : Nat) (v : Value) (s : List Ag × Int) (W : World) : Prop:=
 W.heap[r]? = some (.cells #[.slice none 0 0] 126)∧W.heap[r+1]? = some (.cells #[.int .i64 0] 28)∧W.heap[r+1+1]? = some (.cells #[v] 126)∧Rw r W 135 2 Ak v s.1∧s.2=0
def ListX (r : Nat) (_ : Value) (s : List Ag × Int) (W : World) : Prop:=
 W.heap[r]? = some (.cells #[.slice none 0 0] 126)∧W.heap[r+1]? = some (.cells #[.int .i64 s.2] 28)∧s.2≠0
theorem ListJ.mv {B r : Nat} {ts : List TypeId} {v : Value} {s : List Ag × Int} {W W' : World} (h : ListJ r v s W) (hm : Mv B ts Option.none W W') (h1 : 126 ∉ ts) (h2 : 28 ∉ ts) (h3 : 135 ∉ ts) : ListJ r v s W':=
 ⟨hm.k _ _ _ _ h.1 h1 (by simp),hm.k _ _ _ _ h.2.1 h2 (by simp),hm.k _ _ _ _ h.2.2.1 h1 (by simp),hm.own0 h.2.2.2.1 h3,h.2.2.2.2⟩
theorem ListX.mv {B r : Nat} {v : Value} {s : List Ag × Int} {W W' : World} (h : ListX r v s W) (hm : Mv B [] Option.none W W') : ListX r v s W':=
 ⟨hm.k _ _ _ _ h.1 (by simp) (by simp),hm.k _ _ _ _ h.2.1 (by simp) (by simp),h.2.2⟩
set_option maxRecDepth 100000 in
set_option maxHeartbeats 3200000 in
theorem list_prog (w : World) (g : Nat) (caps : Array Value) (fd : Bs→Option Bs) (B : Nat) (I : World→List Bs→Prop) (hG : GetOk g caps fd B kts1 I) (root lo hi : Bs) (asked : List Bs) (hI : I w asked) (hal : asked.length≤1000) :
  Calls Tryz.prog 61 #[.func (.func g) #[] caps, .string (Ab root), .string (Ab lo), .string (Ab hi)] w fun e w'=>∃ vp,e = .returned (.tuple #[vp, .int .i64 (goM fd lo hi 21 (A8 root) (-1) ⟨asked,[],0⟩).bad])∧Rw w.heap.size w' 135 2 Ak vp (Es (goM fd lo hi 21 (A8 root) (-1) ⟨asked,[],0⟩))∧I w' (goM fd lo hi 21 (A8 root) (-1) ⟨asked,[],0⟩).asked∧Mv B (gts sts1) none w w':=by
 have hB:=hG.le _ _ hI
 have hsame:=goT_same fd hG.short lo hi 21 (A8 root) (-1) asked [] [] (.inl ⟨rfl,by omega⟩) rfl
 obtain ⟨L,hL⟩ : ∃ L,L=goM fd lo hi 21 (A8 root) (-1) ⟨asked,[],0⟩:=⟨_,rfl⟩
 rw [← hL] at hsame ⊢
 have HSA:=Ac hsame
 have HG:=Ac hG
 have HI:=Ac hI
 clear hL hsame
 have hthr:=fun W=>through_any W (.func (.func g) #[] caps) rfl root lo hi
 refine (callsIn_wide (n:=0)).1 ?_
 refine callsIn_of_wp_marks Tryz.func61 rfl trivial ?_ rfl
 simp only [Tryz.ntmps61,List.size_toArray,List.length_cons,List.length_nil,Nat.reduceAdd,Nat.reduceSub,Array.replicate_succ,Array.replicate_zero,List.push_toArray,List.append_toArray,List.nil_append,List.cons_append]
 gi_wp2_with fail
 refine ⟨trivial,rfl,?_⟩
 refine (callsIn_wide.2 (hthr _)).mono ?_
 rintro e w1 ⟨rfl,rfl⟩
 gi_wp2
 obtain ⟨a1,ha1⟩ : ∃ a1,w.alloc (.cells #[.slice none 0 0] 126)=a1:=⟨_,rfl⟩
 rw [ha1]
 have hba1 : Below w.heap.size w a1:=by rw [← ha1]; exact (Below.refl _ _).alloc (Nat.le_refl _) _
 have hsa1 : a1.heap.size=w.heap.size+1:=by rw [← ha1,World.size_alloc]
 have hla1 : a1.heap[w.heap.size]? = some (.cells #[.slice none 0 0] 126):=by rw [← ha1]; exact heap_last _ _ _ rfl
 obtain ⟨a2,ha2⟩ : ∃ a2,a1.alloc (.cells #[.int .i64 0] 28)=a2:=⟨_,rfl⟩
 rw [ha2]
 have hba2 : Below a1.heap.size a1 a2:=by rw [← ha2]; exact (Below.refl _ _).alloc (Nat.le_refl _) _
 have hsa2 : a2.heap.size=w.heap.size+1+1:=by rw [← ha2,World.size_alloc]; rw [hsa1]
 have hla2 : a2.heap[a1.heap.size]? = some (.cells #[.int .i64 0] 28):=by rw [← ha2]; exact heap_last _ _ _ rfl
 rw [hsa1] at hla2
 obtain ⟨a3,ha3⟩ : ∃ a3,a2.alloc (.cells #[.slice none 0 0] 126)=a3:=⟨_,rfl⟩
 rw [ha3]
 have hba3 : Below a2.heap.size a2 a3:=by rw [← ha3]; exact (Below.refl _ _).alloc (Nat.le_refl _) _
 have hsa3 : a3.heap.size=w.heap.size+1+1+1:=by rw [← ha3,World.size_alloc]; rw [hsa2]
 have hla3 : a3.heap[a2.heap.size]? = some (.cells #[.slice none 0 0] 126):=by rw [← ha3]; exact heap_last _ _ _ rfl
 rw [hsa2] at hla3
 obtain ⟨a4,ha4⟩ : ∃ a4,a3.alloc (.cells #[.func (.func g) #[] caps] 24)=a4:=⟨_,rfl⟩
 rw [ha4]
 have hba4 : Below a3.heap.size a3 a4:=by rw [← ha4]; exact (Below.refl _ _).alloc (Nat.le_refl _) _
 have hsa4 : a4.heap.size=w.heap.size+1+1+1+1:=by rw [← ha4,World.size_alloc]; rw [hsa3]
 have hla4 : a4.heap[a3.heap.size]? = some (.cells #[.func (.func g) #[] caps] 24):=by rw [← ha4]; exact heap_last _ _ _ rfl
 rw [hsa3] at hla4
 obtain ⟨a5,ha5⟩ : ∃ a5,a4.alloc (.cells #[.string (Ab root)] 9)=a5:=⟨_,rfl⟩
 rw [ha5]
 have hba5 : Below a4.heap.size a4 a5:=by rw [← ha5]; exact (Below.refl _ _).alloc (Nat.le_refl _) _
 have hsa5 : a5.heap.size=w.heap.size+1+1+1+1+1:=by rw [← ha5,World.size_alloc]; rw [hsa4]
 have hla5 : a5.heap[a4.heap.size]? = some (.cells #[.string (Ab root)] 9):=by rw [← ha5]; exact heap_last _ _ _ rfl
 rw [hsa4] at hla5
 obtain ⟨a6,ha6⟩ : ∃ a6,a5.alloc (.cells #[.string (Ab lo), .string (Ab hi)] 199)=a6:=⟨_,rfl⟩
 rw [ha6]
 have hba6 : Below a5.heap.size a5 a6:=by rw [← ha6]; exact (Below.refl _ _).alloc (Nat.le_refl _) _
 have hsa6 : a6.heap.size=w.heap.size+1+1+1+1+1+1:=by rw [← ha6,World.size_alloc]; rw [hsa5]
 have hla6 : a6.heap[a5.heap.size]? = some (.cells #[.string (Ab lo), .string (Ab hi)] 199):=by rw [← ha6]; exact heap_last _ _ _ rfl
 rw [hsa5] at hla6
 have hbw : Below w.heap.size w a6:=hba1.trans ((hba2.trans ((hba3.trans ((hba4.trans ((hba5.trans (hba6.mono (by omega))).mono (by omega))).mono (by omega))).mono (by omega))).mono (by omega))
 have f1:=((hba6.block _ (Ad ((hba5.block _ (Ad ((hba4.block _ (Ad ((hba3.block _ (Ad ((hba2.block _ (Ad hla1)).trans hla1))).trans ((hba2.block _ (Ad hla1)).trans hla1)))).trans ((hba3.block _ (Ad ((hba2.block _ (Ad hla1)).trans hla1))).trans ((hba2.block _ (Ad hla1)).trans hla1))))).trans ((hba4.block _ (Ad ((hba3.block _ (Ad ((hba2.block _ (Ad hla1)).trans hla1))).trans ((hba2.block _ (Ad hla1)).trans hla1)))).trans ((hba3.block _ (Ad ((hba2.block _ (Ad hla1)).trans hla1))).trans ((hba2.block _ (Ad hla1)).trans hla1)))))).trans ((hba5.block _ (Ad ((hba4.block _ (Ad ((hba3.block _ (Ad ((hba2.block _ (Ad hla1)).trans hla1))).trans ((hba2.block _ (Ad hla1)).trans hla1)))).trans ((hba3.block _ (Ad ((hba2.block _ (Ad hla1)).trans hla1))).trans ((hba2.block _ (Ad hla1)).trans hla1))))).trans ((hba4.block _ (Ad ((hba3.block _ (Ad ((hba2.block _ (Ad hla1)).trans hla1))).trans ((hba2.block _ (Ad hla1)).trans hla1)))).trans ((hba3.block _ (Ad ((hba2.block _ (Ad hla1)).trans hla1))).trans ((hba2.block _ (Ad hla1)).trans hla1)))))
 have f2:=((hba6.block _ (Ad ((hba5.block _ (Ad ((hba4.block _ (Ad ((hba3.block _ (Ad hla2)).trans hla2))).trans ((hba3.block _ (Ad hla2)).trans hla2)))).trans ((hba4.block _ (Ad ((hba3.block _ (Ad hla2)).trans hla2))).trans ((hba3.block _ (Ad hla2)).trans hla2))))).trans ((hba5.block _ (Ad ((hba4.block _ (Ad ((hba3.block _ (Ad hla2)).trans hla2))).trans ((hba3.block _ (Ad hla2)).trans hla2)))).trans ((hba4.block _ (Ad ((hba3.block _ (Ad hla2)).trans hla2))).trans ((hba3.block _ (Ad hla2)).trans hla2))))
 have f3:=((hba6.block _ (Ad ((hba5.block _ (Ad ((hba4.block _ (Ad hla3)).trans hla3))).trans ((hba4.block _ (Ad hla3)).trans hla3)))).trans ((hba5.block _ (Ad ((hba4.block _ (Ad hla3)).trans hla3))).trans ((hba4.block _ (Ad hla3)).trans hla3)))
 have f4:=((hba6.block _ (Ad ((hba5.block _ (Ad hla4)).trans hla4))).trans ((hba5.block _ (Ad hla4)).trans hla4))
 have f5:=((hba6.block _ (Ad hla5)).trans hla5)
 have f6:=hla6
 have h0 : ListJ w.heap.size (.slice none 0 0) ([],0) a6:=⟨f1,f2,f3,World.ownsRow_nil _ _ _ _,rfl⟩
 have hI6:=HG.out.below HI.out hbw
 have hs6 : w.heap.size≤a6.heap.size:=hbw.size
 have HF:=Ac (And.intro f4 (And.intro f5 (And.intro f6 (And.intro hI6 hbw))))
 clear f1 f2 f3 f4 f5 f6 hla1 hla2 hla3 hla4 hla5 hla6 hba1 hba2 hba3 hba4 hba5 hba6 hsa1 hsa2 hsa3 hsa4 hsa5 hsa6 ha1 ha2 ha3 ha4 ha5 ha6 a1 a2 a3 a4 a5 hthr hI6 hbw
 refine wp_told (σ:=List Ag × Int) rfl rfl (Oe Tryz.func150 (by kernel_rfl) rfl) Ek B sts1 (by omega) (ListJ w.heap.size) (fun _ _ _=>False) (ListX w.heap.size) (fun _=>none)
  (fun h hm=>h.mv hm (by decide) (by decide) (by decide)) (fun h _=>h.elim) (fun h hm=>h.mv hm)
  (fun h hb=>by obtain ⟨cs,fr,h1⟩:=Lib.ownsRow_kind h.2.2.2.1 _ hb; exact ⟨cs,fr,h1⟩) (by decide) [] (by simp)
  (fun b x er=>{ tmps:=#[.func (.func g) #[] caps, .string (Ab root), .string (Ab lo), .string (Ab hi),undef,undef,undef,undef, .pointer (some ⟨w.heap.size,0,none⟩), .pointer (some ⟨w.heap.size+1,0,none⟩), .pointer (some ⟨w.heap.size+1+1,0,none⟩), .pointer (some ⟨b,0,none⟩), .int .i64 er, .func (.func g) #[] caps, .string (Ab root), .string (Ab lo), .string (Ab hi), .agg #[.string (Ab lo), .string (Ab hi)],
   .func (.func 150) #[] #[.pointer (some ⟨w.heap.size+1+1+1,0,none⟩), .pointer (some ⟨w.heap.size+1+1+1+2,0,none⟩), .pointer (some ⟨w.heap.size+1+1+1+1,0,none⟩)], .agg #[.string (Ab x.1), .string (Ab x.2)], .int .i64 er,undef,undef,undef,undef,undef,undef,undef,undef],defers:=[] })
  ?assign ?body (.slice none 0 0) ([],0) h0 (goT Ek fd lo hi 21 (A8 root) (-1) ⟨asked,[],([],0)⟩) (fun W=>I W L.asked∧Mv B (gts sts1) none w W) (fun hX hm=>⟨HG.out.mv hX.1 (hm.types (by simp)),hX.2.trans (hm.types (by simp)) (Nx.refl _ _)⟩) ?iter ?all ?left
 case assign=>
  intro l x er W K hK
  gi_wp2
  exact hK
 case body=>
  intro l b v s x er W hJ hx hbv hcap hxe
  obtain ⟨hr0,hr1,hr2,hrow,hs0⟩:=hJ
  have hsW : w.heap.size+1+1<W.heap.size:=Ad hr2
  by_cases he : er=0
  ·have q0 : (er != 0)=false:=by rw [he]; rfl
   have hc:=hcap he
   obtain ⟨v',w1,hrun,hrow1,hgr,hnx⟩:=Kb W w.heap.size v s.1 x hrow (by omega) (by simp only [Ek] at hc; omega)
   have hbA : Below W.heap.size W (W.alloc (D4 x)):=(Below.refl _ _).alloc (Nat.le_refl _) _
   have hrowA : Rw w.heap.size (W.alloc (D4 x)) 135 2 Ak v s.1:=World.ownsRow.alloc hrow _
   have h01:=Ej hrowA hgr ((heap_past W (D4 x) _ (Ad hr0)).trans hr0) (by decide)
   have h11:=Ej hrowA hgr ((heap_past W (D4 x) _ (Ad hr1)).trans hr1) (by decide)
   have h21:=Ej hrowA hgr ((heap_past W (D4 x) _ (Ad hr2)).trans hr2) (by decide)
   have hk1 : KO W w1:=((KO.refl W).more hbA).grown hrowA hgr
   have hm1 : Mv B sts1 v.ownBlock W w1:=(Mv.of hbA (by omega)).grownRow (Fv hrowA hB) hgr (Nx.refl _ _) (by simp; omega)
   have hN : Nx W v.ownBlock v'.ownBlock:=by
    rcases hnx with h | h
    ·exact .inl h
    ·exact .inr ⟨_,h,by omega⟩
   have c2:=cell_of_row W (w.heap.size+1+1) 0 _ _ _ hr2
   have x0:=cell_of_row W b 0 _ _ _ hx
   have x1:=cell_of_row W b 1 _ _ _ hx
   have e2:=cell_of_row w1 (w.heap.size+1+1) 0 _ _ _ h21
   simp only [List.getElem?_toArray,List.getElem?_cons_zero,List.getElem?_cons_succ] at c2 x0 x1 e2
   have g2:=Af (j:=0) h21
   have hfin : KO W (w1.setCell ⟨w.heap.size+1+1,0,none⟩ v')∧Mv B sts1 v.ownBlock W (w1.setCell ⟨w.heap.size+1+1,0,none⟩ v')∧ListJ w.heap.size v' (s.1 ++ [x],s.2) (w1.setCell ⟨w.heap.size+1+1,0,none⟩ v'):=by
    refine ⟨hk1.set h21 _,hm1.set h21 (by decide) (by omega) _,(Bc (by omega)).trans h01,(Bc (by omega)).trans h11,?_,Ap hrow1 h21 (by decide) _,hs0⟩
    rw [heap_setCell _ _ _ _ _ _ _ h21]
    simp
   obtain ⟨va,vm,vc,rfl⟩:=Av hrow
   obtain ⟨va',vm',vc',rfl⟩:=Av hrow1
   have HFI:=Ac (And.intro hfin hN)
   have HRUN:=Ac hrun
   clear hfin hN hrun hr0 hr1 hr2 hrow hrow1 hgr hnx hbA hrowA h01 h11 h21 hk1 hm1 hx hc hs0
   gi_wp2_with (gi_at_builtin; refine O4 rfl (.tmp 24) (.tmp 26) 126 rfl rfl rfl HRUN.out ?_)
   gi_wp2
   exact ⟨HFI.out.1.1,HFI.out.1.2.1,_,HFI.out.2, .inl ⟨rfl,HFI.out.1.2.2⟩⟩
  ·have q0 : (er != 0)=true:=by simpa using he
   have c0:=cell_of_row W w.heap.size 0 _ _ _ hr0
   have c1:=cell_of_row W (w.heap.size+1) 0 _ _ _ hr1
   simp only [List.getElem?_toArray,List.getElem?_cons_zero] at c0 c1
   have g0:=Af (j:=0) hr0
   have g1:=Af (j:=0) hr1
   have h0' : (W.setCell ⟨w.heap.size,0,none⟩ (.slice none 0 0)).heap[w.heap.size]? = some (.cells #[.slice none 0 0] 126):=by rw [heap_setCell _ _ _ _ _ _ _ hr0]; simp
   have h1' : (W.setCell ⟨w.heap.size,0,none⟩ (.slice none 0 0)).heap[w.heap.size+1]? = some (.cells #[.int .i64 0] 28):=(Bc (by omega)).trans hr1
   have hfin : KO W ((W.setCell ⟨w.heap.size,0,none⟩ (.slice none 0 0)).setCell ⟨w.heap.size+1,0,none⟩ (.int .i64 er))∧Mv B sts1 v.ownBlock W ((W.setCell ⟨w.heap.size,0,none⟩ (.slice none 0 0)).setCell ⟨w.heap.size+1,0,none⟩ (.int .i64 er))∧ListX w.heap.size v (s.1,er) ((W.setCell ⟨w.heap.size,0,none⟩ (.slice none 0 0)).setCell ⟨w.heap.size+1,0,none⟩ (.int .i64 er)):=by
    refine ⟨((KO.refl W).set hr0 _).set h1' _,((Mv.refl B sts1 v.ownBlock W).set hr0 (by decide) hB _).set h1' (by decide) (by omega) _,(Bc (by omega)).trans h0',?_,he⟩
    rw [heap_setCell _ _ _ _ _ _ _ h1']
    simp
   have HFI:=Ac hfin
   clear hfin hr0 hr1 hr2 hrow hx h0' h1' hs0
   gi_wp2
   exact ⟨HFI.out.1,_,HFI.out.2.1,Nx.refl _ _, .inr ⟨_,rfl, .inr ⟨he,rfl⟩,HFI.out.2.2⟩⟩
 case iter=>
  intro l J Jx W hY hJ hbW
  have hbW' : Below w.heap.size w W:=HF.out.2.2.2.2.trans (hbW.mono (by omega))
  have hit:=through1_any W l Ek g caps fd B sts1 kts1 J Jx hY I HG.out (by decide) (w.heap.size+1+1+1) (w.heap.size+1+1+1+2) (w.heap.size+1+1+1+1) root lo hi asked (.slice none 0 0) ([],0) ((hbW.block _ (Ad HF.out.1)).trans HF.out.1) ((hbW.block _ (Ad HF.out.2.2.1)).trans HF.out.2.2.1) ((hbW.block _ (Ad HF.out.2.1)).trans HF.out.2.1) (Nat.le_trans hB hbW'.size) hJ (HG.out.below HF.out.2.2.2.1 hbW) (by omega) (by simp [Ek])
  refine hit.mono ?_
  rintro e W' ⟨hx,v',h1,h2,h3,h4,h5⟩
  exact ⟨hx,v',h1,h2,by rw [HSA.out.1]; exact h3,(Mv.of hbW' hB).trans h4 (Nx.refl _ _)⟩
 case all=>
  rintro D W v' hD hc hX hK -
  obtain ⟨hT,hJ⟩ : (goT Ek fd lo hi 21 (A8 root) (-1) ⟨asked,[],([],0)⟩).2=true∧ListJ w.heap.size v' (goT Ek fd lo hi 21 (A8 root) (-1) ⟨asked,[],([],0)⟩).1.s W:=by
   rcases hc with h | h
   ·exact h
   ·exact h.2.elim
  obtain ⟨hr0,hr1,hr2,hrow,hs0⟩:=hJ
  have hbad : L.bad=0:=HSA.out.2.2.2.1.1 hT
  have hout : Es L=(goT Ek fd lo hi 21 (A8 root) (-1) ⟨asked,[],([],0)⟩).1.s.1:=by unfold Es; rw [if_pos hbad]; exact HSA.out.2.1
  rw [← hout] at hrow
  have c2:=cell_of_row W (w.heap.size+1+1) 0 _ _ _ hr2
  have c0:=cell_of_row W w.heap.size 0 _ _ _ hr0
  simp only [List.getElem?_toArray,List.getElem?_cons_zero] at c0 c2
  have g0:=Af (j:=0) hr0
  have h0' : (W.setCell ⟨w.heap.size,0,none⟩ v').heap[w.heap.size]? = some (.cells #[v'] 126):=by rw [heap_setCell _ _ _ _ _ _ _ hr0]; simp
  have h1' : (W.setCell ⟨w.heap.size,0,none⟩ v').heap[w.heap.size+1]? = some (.cells #[.int .i64 0] 28):=(Bc (by omega)).trans hr1
  have e1:=cell_of_row _ (w.heap.size+1) 0 _ _ _ h1'
  simp only [List.getElem?_toArray,List.getElem?_cons_zero] at e1
  have g1:=Af (j:=0) h1'
  have h0f : ((W.setCell ⟨w.heap.size,0,none⟩ v').setCell ⟨w.heap.size+1,0,none⟩ (.int .i64 0)).heap[w.heap.size]? = some (.cells #[v'] 126):=(Bc (by omega)).trans h0'
  have h1f : ((W.setCell ⟨w.heap.size,0,none⟩ v').setCell ⟨w.heap.size+1,0,none⟩ (.int .i64 0)).heap[w.heap.size+1]? = some (.cells #[.int .i64 0] 28):=by rw [heap_setCell _ _ _ _ _ _ _ h1']; simp
  have hkf : KO W ((W.setCell ⟨w.heap.size,0,none⟩ v').setCell ⟨w.heap.size+1,0,none⟩ (.int .i64 0)):=((KO.refl W).set hr0 _).set h1' _
  have hmf : Mv B sts1 none W ((W.setCell ⟨w.heap.size,0,none⟩ v').setCell ⟨w.heap.size+1,0,none⟩ (.int .i64 0)):=((Mv.refl B sts1 none W).set hr0 (by decide) hB _).set h1' (by decide) (by omega) _
  have hof:=Ap (j:=0) (Ap (j:=0) hrow hr0 (by decide) v') h1' (by decide) (.int .i64 0)
  obtain ⟨va',vm',vc',rfl⟩:=Av hrow
  gi_wp2
  have hK':=hkf D _ hK rfl
  have hmp:=Mv.put (B:=B) (ts:=[]) (r:=none) (o':=.deferred none) hK' rfl (by omega)
  refine ⟨by simp, .inl ⟨_,_,rfl,run_takeDeferred hK',?_⟩⟩
  have z0:=cell_of_row _ w.heap.size 0 _ _ _ (hmp.k _ _ _ _ h0f (by simp) (by simp))
  have z1:=cell_of_row _ (w.heap.size+1) 0 _ _ _ (hmp.k _ _ _ _ h1f (by simp) (by simp))
  simp only [List.getElem?_toArray,List.getElem?_cons_zero] at z0 z1
  refine ⟨.tuple #[.slice va' vm' vc', .int .i64 0],?_,⟨_,by rw [hbad],hmp.own0 hof (by simp),HG.out.mv hX.1 ((hmf.types (by decide)).trans (hmp.types (by simp)) (Nx.refl _ _)),hX.2.trans ((hmf.types (by decide)).trans (hmp.types (by simp)) (Nx.refl _ _)) (Nx.refl _ _)⟩⟩
  simp [results,Tryz.f61,go_sem,z0,z1]
 case left=>
  rintro D W v' hD hT hJ hX hK -
  obtain ⟨hr0,hr1,hs0⟩:=hJ
  have hbad : L.bad=(goT Ek fd lo hi 21 (A8 root) (-1) ⟨asked,[],([],0)⟩).1.s.2:=HSA.out.2.2.1
  have hout : Es L = []:=by unfold Es; rw [if_neg (by rw [hbad]; exact hs0)]
  change Code.ret.wpIn _ _ _ _ _ _
  gi_wp2
  have hmp:=Mv.put (B:=B) (ts:=[]) (r:=none) (o':=.deferred none) hK rfl (by omega)
  refine ⟨by simp, .inl ⟨_,_,rfl,run_takeDeferred hK,?_⟩⟩
  have z0:=cell_of_row _ w.heap.size 0 _ _ _ (hmp.k _ _ _ _ hr0 (by simp) (by simp))
  have z1:=cell_of_row _ (w.heap.size+1) 0 _ _ _ (hmp.k _ _ _ _ hr1 (by simp) (by simp))
  simp only [List.getElem?_toArray,List.getElem?_cons_zero] at z0 z1
  refine ⟨.tuple #[.slice none 0 0, .int .i64 (goT Ek fd lo hi 21 (A8 root) (-1) ⟨asked,[],([],0)⟩).1.s.2],?_,⟨_,by rw [hbad],by rw [hout]; exact World.ownsRow_nil _ _ _ _,HG.out.mv hX.1 (hmp.types (by simp)),hX.2.trans (hmp.types (by simp)) (Nx.refl _ _)⟩⟩
  simp [results,Tryz.f61,go_sem,z0,z1]
end Go.Proofs.YtckejblkppllaaaGreatDoor
namespace Go.Proofs.YtckejblkppllaaaGreatDoor
open Go.RowKit
structure Gf (B : Nat) (w : World) (c : Nat) (v : Value) (objs : List Ag) : Prop where
 lt : c<B
 cell : w.heap[c]? = some (.cells #[v] 22)
 ls : Ls B w 2 Ak v objs
 short : ∀ o∈objs,o.2.length≤140737488351232
theorem Gf.below {B : Nat} {w w' : World} {c : Nat} {v : Value} {objs : List Ag} (h : Gf B w c v objs) (hb : Below B w w') : Gf B w' c v objs:=
 ⟨h.lt,(hb.block _ h.lt).trans h.cell,h.ls.keep hb,h.short⟩
theorem Gf.up {B B' : Nat} {w : World} {c : Nat} {v : Value} {objs : List Ag} (h : Gf B w c v objs) (hB : B≤B') : Gf B' w c v objs:=
 ⟨Nat.lt_of_lt_of_le h.lt hB,h.cell,h.ls.up hB,h.short⟩
abbrev Cf (c : Nat) : Value:=.func (.func 28) #[] #[.pointer (some ⟨c,0,none⟩)]
theorem Gf.ok {B : Nat} {w : World} {c : Nat} {v : Value} {objs : List Ag} (h : Gf B w c v objs) (hB : B≤w.heap.size) (ts : List TypeId) (hn : 240∈ts) :
  GetOk 28 #[.pointer (some ⟨c,0,none⟩)] (Aj objs) w.heap.size ts (fun W _=>Below w.heap.size w W):=
 get_from ts hn h.cell (h.ls.up hB) h.short
theorem Fy {objs : List Ag} (hs : ∀ o∈objs,o.2.length≤140737488351232) : ∀ id b,Aj objs id=some b→b.length≤140737488355328:=fun _ _ h=>Ji hs _ _ h
section
variable {fd : Bs→Option Bs} (hs : ∀ id b,fd id=some b→b.length≤140737488355328)
theorem leafOk_pair {l : List Ag} (h : A5 ltB l=true) {p : Ag} (hp : p∈l) : A3 p=true:=by
 simp only [A5,Bool.and_eq_true,List.all_eq_true] at h
 have:=h.1.2 p hp
 unfold A3
 simpa using this
theorem Na {n : A2} (h : RightM n) {p : Ag} (hp : p∈n.2.1) : A3 p=true:=by
 by_cases h0 : n.1=0
 ·exact leafOk_pair (h.leaf h0).2 hp
 ·rw [(h.branch (by have:=h.lo; omega)).1] at hp
  cases hp
include hs
theorem restM_val : ∀ (d : Nat) (key : Bs) (k : Ah) (level : Int) (asked : List Bs),(Du fd key d (Ao fd k level) asked).1.length≤128
 | 0,_,_,_,_=>by rw [Du]; simp
 | d+1,key,k,level,asked=>by
  rw [Du]
  split
  ·simp
  ·rename_i h
   have hr:=(Eg hs (by simpa using h)).1
   split
   ·unfold leafF
    cases hv : valM (Ao fd k level).2 key with
    | none=>simp
    | some p=>
     have hp : p∈(Ao fd k level).2.2.1:=List.mem_of_find?_eq_some hv
     have:=Na hr hp
     unfold A3 at this
     simp only [Bool.and_eq_true,decide_eq_true_eq] at this
     exact this.2
   ·split
    ·simp
    ·exact restM_val d key _ _ _
theorem findF_val (root key : Bs) : (Cq fd root key []).1.length≤128:=by
 unfold Cq
 split
 ·simp
 ·exact restM_val hs _ _ _ _ _
omit hs in
theorem Lr (lo hi : Bs) : ∀ (ps : List Ag) (s : LsS),(∀ p∈ps,A3 p=true)→(∀ p∈s.out,A3 p=true)→∀ p∈(Ct lo hi ps s).out,A3 p=true
 | [],_,_,h=>h
 | x :: r,s,hp,h=>by
  rw [Ct]
  split
  ·split
   ·exact h
   ·refine Lr lo hi r _ (fun p hq=>hp p (by simp [hq])) (fun p hq=>?_)
    rcases List.mem_append.1 hq with hq | hq
    ·exact h p hq
    ·rw [List.mem_singleton.1 hq]; exact hp x (by simp)
  ·exact Lr lo hi r s (fun p hq=>hp p (by simp [hq])) h
omit hs in
theorem My {f : Ah→LsS→LsS} {lo hi : Bs} (hf : ∀ k s,(∀ p∈s.out,A3 p=true)→∀ p∈(f k s).out,A3 p=true) : ∀ (ks : List Ah) (s : LsS),(∀ p∈s.out,A3 p=true)→∀ p∈(Cd f lo hi ks s).out,A3 p=true
 | [],_,h=>h
 | k :: r,s,h=>by
  have h1 : ∀ p∈(if s.bad=0∧ltB k.1 lo=false then f k s else s).out,A3 p=true:=by
   split
   ·exact hf k s h
   ·exact h
  rw [Cd]
  split
  ·exact h1
  ·exact My hf r _ h1
theorem goM_pairs (lo hi : Bs) : ∀ (d : Nat) (k : Ah) (level : Int) (s : LsS),(∀ p∈s.out,A3 p=true)→∀ p∈(goM fd lo hi d k level s).out,A3 p=true
 | 0,_,_,_,h=>h
 | d+1,k,level,s,h=>by
  rw [goM]
  split
  ·exact h
  ·rename_i he
   have hr:=(Eg hs (by simpa using he)).1
   exact My (fun q t ht=>goM_pairs lo hi d q _ t ht) _ _ (Lr lo hi _ _ (fun p hp=>Na hr hp) h)
theorem N5 (root : Bs) : ∀ p∈(Co fd root [] []).out,A3 p=true:=goM_pairs hs _ _ _ _ _ _ (by simp)
omit hs in
end
theorem gfind_any (w : World) (B c : Nat) (v : Value) (objs : List Ag) (hG : Gf B w c v objs) (hB : B≤w.heap.size) (root key : Bs) (hk : As key=true) :
  Calls Tryz.prog 100 #[Cf c, .string (Ab root), .string (Ab key)] w fun e w'=>e = .returned (.tuple #[.string (Ab (Cq (Aj objs) root key []).1), .bool (Cq (Aj objs) root key []).2.1, .int .i64 (Cq (Aj objs) root key []).2.2.2])∧Below w.heap.size w w':=
 (find_prog w _ _ _ _ _ _ (hG.ok hB [240] (by decide)) root key hk [] (Below.refl _ _) (by simp)).mono fun _ _ h=>⟨h.1,h.2.2.b⟩
theorem glist_any (w : World) (B c : Nat) (v : Value) (objs : List Ag) (hG : Gf B w c v objs) (hB : B≤w.heap.size) (root : Bs) :
  Calls Tryz.prog 61 #[Cf c, .string (Ab root), .string ⟨#[]⟩, .string ⟨#[]⟩] w fun e w'=>∃ vp,e = .returned (.tuple #[vp, .int .i64 (Co (Aj objs) root [] []).bad])∧Rw w.heap.size w' 135 2 Ak vp (Es (Co (Aj objs) root [] []))∧Below w.heap.size w w':=
 (list_prog w _ _ _ _ _ (hG.ok hB kts1 (by decide)) root [] [] [] (Below.refl _ _) (by simp)).mono fun _ _ ⟨vp,h1,h2,_,h4⟩=>⟨vp,h1,h2,h4.b⟩
end Go.Proofs.YtckejblkppllaaaGreatDoor
namespace Go.Proofs.YtckejblkppllaaaGreatDoor.Pa
open Go.RowKit
theorem toL (l : List UInt8) : (Ab l).toList=l:=by rw [ByteArray.toList_eq]; exact B0 l
theorem Al {a b : Bool} (h : a=b) : Ending.returned (.bool a) = .returned (.bool b):=by rw [h]
theorem ret_int {a b : Int} (h : a=b) : Ending.returned (.int .i64 a) = .returned (.int .i64 b):=by rw [h]
set_option maxRecDepth 20000 in
theorem Ld (w : World) (l : List UInt8) :
  Calls Tryz.prog 140 #[.string (Ab l)] w fun e w'=>e = .returned (.bool (Pt.name l))∧w'=w:=by
 have hsz:=A1 l
 have hl:=toL l
 by_cases h1 : l.length<1
 ·go_enter Tryz.func140,Tryz.ntmps140
  go_wp2
  go_ret
  exact ⟨Al (by simp [Pt.name]; omega),rfl⟩
 by_cases h2 : 64<l.length
 ·go_enter Tryz.func140,Tryz.ntmps140
  go_wp2
  go_ret
  exact ⟨Al (by simp [Pt.name]; omega),rfl⟩
 by_cases h3 : l = [46]
 ·subst h3
  go_enter Tryz.func140,Tryz.ntmps140
  go_wp2
  go_ret
  exact ⟨Al (by simp [Pt.name]),rfl⟩
 by_cases h4 : l = [46,46]
 ·subst h4
  go_enter Tryz.func140,Tryz.ntmps140
  go_wp2
  go_ret
  exact ⟨Al (by simp [Pt.name]),rfl⟩
 have e1 : Lib.indexByte (Ab l).data.toList (47 : Int).toNat.toUInt8=Lib.indexByte l 47:=by rw [B0]; rfl
 have e2 : Lib.indexByte (Ab l).data.toList (0 : Int).toNat.toUInt8=Lib.indexByte l 0:=by rw [B0]; rfl
 have b3 : (l == [46])=false:=by simp [h3]
 have b4 : (l == [46,46])=false:=by simp [h4]
 have n1:=Pt.indexByte_neg l 47
 have n2:=Pt.indexByte_neg l 0
 by_cases h5 : 47∈l
 ·have h6 : ¬ Lib.indexByte l 47<0:=by simpa [h5] using n1
  go_enter Tryz.func140,Tryz.ntmps140
  go_wp2_with fail
  refine (Tryz.strings_IndexByte (Ab l) 47 w).mono ?_
  rintro e w' ⟨rfl,rfl⟩
  rw [e1]
  go_wp2
  go_ret
  exact ⟨Al (by simp [Pt.name,h5]),rfl⟩
 ·have h6 : Lib.indexByte l 47<0:=by simpa [h5] using n1
  go_enter Tryz.func140,Tryz.ntmps140
  go_wp2_with fail
  refine (Tryz.strings_IndexByte (Ab l) 47 w).mono ?_
  rintro e w' ⟨rfl,rfl⟩
  rw [e1]
  go_wp2_with fail
  refine (Tryz.strings_IndexByte (Ab l) 0 w').mono ?_
  rintro e w ⟨rfl,rfl⟩
  rw [e2]
  go_wp2
  go_ret
  refine ⟨Al ?_,rfl⟩
  have q1 : 1≤l.length:=by omega
  have q2 : l.length≤64:=by omega
  simp [Pt.name,h3,h4,h5,q1,q2]
theorem Gr (t : TypeId) (ht : t=9∨t=186) (w : World) (l : List UInt8) (kd : IntKind) (k : Nat) (h : k<l.length) : (Instr.index t (.string (Ab l)) (.int kd (k : Int))).run Tryz.prog w = .ok (.int .u8 ((l[k]'h).toNat : Int)) w:=by
 have a1 : (0 : Int)≤(k : Int):=by omega
 have h1 : (Ab l)[k]? = some (l[k]'h):=by
  have hs : k<(Ab l).size:=by rw [A1]; exact h
  rw [getElem?_pos (Ab l) k hs]
  rfl
 unfold Instr.index
 rcases ht with rfl | rfl
 ·simp only [asIntOf,Sem.run_bind,Sem.run_pure,Result.andThen_ok,run_underlying Tryz.underlying9 w]
  rw [if_pos a1,Int.toNat_natCast,h1]
  rfl
 ·simp only [asIntOf,Sem.run_bind,Sem.run_pure,Result.andThen_ok,run_underlying Tryz.underlying186 w]
  rw [if_pos a1,Int.toNat_natCast,h1]
  rfl
theorem Gz (l : List UInt8) (i j : Nat) : (Ab l).extract i j=Ab ((l.take j).drop i):=by
 apply ByteArray.ext
 simp [Ab,List.drop_take]
set_option maxRecDepth 20000 in
theorem cut_none (w : World) (l : List UInt8) (h : 47 ∉ l) :
  Calls Tryz.prog 178 #[.string (Ab l), .string ⟨#[47]⟩] w fun e w'=>e = .returned (.tuple #[.string (Ab l), .string (Ab []), .bool false])∧w'=w:=by
 have e1 : Lib.indexByte (Ab l).data.toList 47 = -1:=by rw [B0]; exact Pt.indexByte_none h
 go_enter Tryz.func178,Tryz.ntmps178
 go_wp2_with fail
 refine (Tryz.stringslite_Index_one (Ab l) 47 w).mono ?_
 rintro e w' ⟨rfl,rfl⟩
 rw [e1]
 go_wp2
 go_ret3
 exact ⟨rfl,rfl⟩
set_option maxRecDepth 20000 in
theorem cut_some (w : World) (p r : List UInt8) (h : 47 ∉ p) (hb : (p++47 :: r).length≤4611686018427387904) :
  Calls Tryz.prog 178 #[.string (Ab (p++47 :: r)), .string ⟨#[47]⟩] w fun e w'=>e = .returned (.tuple #[.string (Ab p), .string (Ab r), .bool true])∧w'=w.drew:=by
 have e1 : Lib.indexByte (Ab (p++47 :: r)).data.toList 47=p.length:=by rw [B0]; exact Pt.indexByte_app h
 have hs:=A1 (p++47 :: r)
 have hlen : (p++47 :: r).length=p.length+1+r.length:=by simp; omega
 have x1 : (Ab (p++47 :: r)).extract 0 p.length=Ab p:=by rw [Gz]; simp
 have x2 : (Ab (p++47 :: r)).extract (p.length+1) (p.length+1+r.length)=Ab r:=by rw [← hlen,Gz,List.take_length,show p.length+1=(p ++ [47]).length by simp,show p++47 :: r=(p ++ [47])++r by simp,List.drop_left]
 generalize hS : Ab (p++47 :: r)=S at *
 go_enter Tryz.func178,Tryz.ntmps178
 go_wp2_with fail
 refine (Tryz.stringslite_Index_one S 47 w).mono ?_
 rintro e w' ⟨rfl,rfl⟩
 rw [e1]
 go_wp2_with fail
 go_region
 go_wp2_with fail
 go_ret3
 exact ⟨rfl,rfl⟩
set_option maxRecDepth 20000 in
theorem scut_none (w : World) (l : List UInt8) (h : 47 ∉ l) :
  Calls Tryz.prog 139 #[.string (Ab l), .string ⟨#[47]⟩] w fun e w'=>e = .returned (.tuple #[.string (Ab l), .string (Ab []), .bool false])∧w'=w:=by
 go_enter Tryz.func139,Tryz.ntmps139
 go_wp2_with fail
 refine (cut_none w l h).mono ?_
 rintro e w' ⟨rfl,rfl⟩
 go_wp2
 go_ret3
 exact ⟨rfl,rfl⟩
set_option maxRecDepth 20000 in
theorem scut_some (w : World) (p r : List UInt8) (h : 47 ∉ p) (hb : (p++47 :: r).length≤4611686018427387904) :
  Calls Tryz.prog 139 #[.string (Ab (p++47 :: r)), .string ⟨#[47]⟩] w fun e w'=>e = .returned (.tuple #[.string (Ab p), .string (Ab r), .bool true])∧w'=w.drew:=by
 go_enter Tryz.func139,Tryz.ntmps139
 go_wp2_with fail
 refine (cut_some w p r h hb).mono ?_
 rintro e w' ⟨rfl,rfl⟩
 go_wp2
 go_ret3
 exact ⟨rfl,rfl⟩
end Go.Proofs.YtckejblkppllaaaGreatDoor.Pa
namespace Go.Proofs.YtckejblkppllaaaGreatDoor.Pa
open Go.RowKit
def Gives (P : Program) (gf : Nat) (first lb : Array Value) (xs : List ByteArray) (w : World) : Prop:=
 ∀ (l : Nat) (J Jx : Nat→World→Prop) (W : World),Below w.heap.size w W→(∀ k V,J k V→J k V.drew)→J 0 W →
  (∀ k V (hk : k<xs.length),J k V→YieldAt Fence.wide 0 P l #[.string xs[k]] V fun e V'=>
   (e = .returned (.bool true)∧J (k+1) V'∧Below w.heap.size V V')∨(e = .returned (.bool false)∧Jx k V')) →
  CallsIn Fence.wide 0 P gf (first ++ #[.func (.yield l) #[] #[]]++lb) W fun e W'=>
   (∃ v,e = .returned v)∧(J xs.length W' ∨ ∃ k,k<xs.length∧Jx k W')
def roundEnd (w0 : World) (I Ix : Nat→World→Prop) (k : Nat) (W : World) : Exit→Act→World→Prop
 | .normal,_,W'=>KeepsOthers W W'∧Below w0.heap.size W W'∧I (k+1) W'
 | .ret,_,W'=>KeepsOthers W W'∧Ix k W'
 | _,_,_=>False
theorem wp_each {P : Program} {g : Operand} {p : Tmp} {assign body : Code} {Q : Exit→Act→World→Prop} {a : Act} {w w0 : World} {gf : Nat} {first lb : Array Value} {xs : List ByteArray}
  (hg : a.eval g = .func (.func gf) first lb) (henter : ∀ args w,(callFunc gf args).run P w = .ok (.enter gf args) w)
  (hgives : Gives P gf first lb xs w0) (h00 : Below w0.heap.size w0 w)
  (I Ix : Nat→World→Prop) (hI : OwnFrom w.heap.size I) (hIx : OwnFrom w.heap.size Ix) (h0 : I 0 w) (start : ByteArray→Act)
  (hassign : ∀ (l : Nat) (x : ByteArray) (W : World) (K : Act→World→Prop),K (start x) W →
   assign.wpIn (Fence.wide.inRound l) 0 P (Exit.then K (fun _ _ _=>False)) { tmps:=a.tmps.setIfInBounds p (.string x),defers:=[] } W)
  (hbody : ∀ (l k : Nat) (W : World) (hk : k<xs.length),I k W→body.wpIn (Fence.wide.inRound l) 0 P (roundEnd w0 I Ix k W) (start xs[k]) W)
  (hall : ∀ (D : Nat) (W : World),w.heap.size≤D→I xs.length W→W.heap[D]? = some (.deferred (some []))→Q .normal { a with defers:={ target:=.collected D,args:=#[] } :: a.defers } W)
  (hleft : ∀ (D k : Nat) (W : World),w.heap.size≤D→k<xs.length→Ix k W→W.heap[D]? = some (.deferred (some []))→Code.ret.wpIn Fence.wide 0 P Q { a with defers:={ target:=.collected D,args:=#[] } :: a.defers } W) :
  (Code.rangeFunc g #[p] assign body).wpIn Fence.wide 0 P Q a w:=by
 refine wpIn_rangeFunc fun fn hfn=>?_
 let D:=w.heap.size
 let R : LoopState→Option Code→Obj:=fun st pe=>.loop { state:=st,pending:=pe,fn,tmps:=a.tmps,params:=#[p],assign,body,defers:=D }
 let wl:=(w.alloc (.deferred (some []))).alloc (R .ready none)
 have hD : wl.heap[D]? = some (.deferred (some [])):=(Below.heap_alloc _ _ _ (by simp [D])).trans (World.alloc_heap_new w _)
 have hL : wl.heap[D+1]? = some (R .ready none):=by
  have:=World.alloc_heap_new (w.alloc (.deferred (some []))) (R .ready none)
  rwa [World.size_alloc] at this
 have hbl : Below w0.heap.size w0 wl:=h00.trans ((((Below.refl _ w).alloc (Nat.le_refl _) _).alloc (by simp) _).mono h00.size)
 have nw : ∀ st pe,(R st pe).isCells=false∧(R st pe).isWalk=false:=fun _ _=>⟨rfl,rfl⟩
 -- the record is turned: what lay in w lies
 have turn : ∀ (W : World) st pe st' pe',W.heap[D+1]? = some (R st pe)→Below w0.heap.size W (W.putObj (D+1) (R st' pe')):=
  fun W st pe st' pe' h=>belowK_b h00.size W (D+1) _ _ (Nat.le_succ _) h (nw st pe).1 (nw st pe).2
 refine ⟨D+1,[{ target:=.collected D,args:=#[] }],wl,{ target:=.fn (.func gf) lb,args:=first ++ #[.func (.yield (D+1)) #[] #[]] },wl,gf,
  first ++ #[.func (.yield (D+1)) #[] #[]]++lb,wl,run_enterLoop_outer _ _ _ _ _,?_,fun _ _=>trivial,?_,(fun h=>by cases h),?_⟩
 ·simp only [resolve,hg]
  simp [Deferred.ofValue,go_sem]
 ·simp [invoke,henter]
 refine (hgives (D+1) (fun k W=>I k W∧W.heap[D+1]? = some (R .ready none)∧W.heap[D]? = some (.deferred (some [])))
  (fun k W=>Ix k W∧W.heap[D+1]? = some (R .done (some .ret))∧W.heap[D]? = some (.deferred (some []))) wl hbl (fun k V h=>⟨hI k V V.drew none h.1 ⟨rfl,rfl,rfl,Nat.le_refl _,fun _ _ _=>rfl⟩ (fun r e=>by cases e),h.2⟩) ⟨hI.alloc _ (hI.alloc _ h0),hL,hD⟩ ?_).mono ?_
 ·rintro k V hk ⟨hi,hl,hd⟩
  have hlt : D+1<V.heap.size:=(Array.getElem?_eq_some_iff.1 hl).1
  refine ⟨fn,a.tmps.setIfInBounds p (.string xs[k]),assign,body,(run_yield (args:=#[.string xs[k]]) hl rfl).trans (by simp),roundIn_of_wpIn hfn ?_⟩
  refine hassign (D+1) xs[k] V (fun a1 w1=>∃ w2,(Instr.beginRound (D+1)).run P w1 = .ok () w2∧body.wpIn (Fence.wide.inRound (D+1)) 0 P _ a1 w2) ⟨_,run_beginRound hl rfl,?_⟩
  have hl1 : (V.putObj (D+1) (R .busy none)).heap[D+1]? = some (R .busy none):=World.putObj_heap_same hlt
  have hd1 : (V.putObj (D+1) (R .busy none)).heap[D]? = some (.deferred (some [])):=(World.putObj_heap_other (by omega)).trans hd
  refine wpIn_mono (hbody (D+1) k (V.putObj (D+1) (R .busy none)) hk (hI.putObj _ hi (Nat.le_succ _) hl rfl)) fun e b V2 hp=>?_
  cases e with
  | normal=>
   obtain ⟨hk2,hb2,hi2⟩:=hp
   have hl2:=hk2.same _ _ hl1 rfl
   refine ⟨_,_,run_endRound none hl2, .inl ⟨rfl,⟨hI.putObj _ hi2 (Nat.le_succ _) hl2 rfl,World.putObj_heap_same (Array.getElem?_eq_some_iff.1 hl2).1,(World.putObj_heap_other (by omega)).trans (hk2.same _ _ hd1 rfl)⟩,?_⟩⟩
   exact ((turn V _ _ _ _ hl).trans hb2).trans (turn V2 _ _ _ _ hl2)
  | ret=>
   obtain ⟨hk2,hi2⟩:=hp
   have hl2:=hk2.same _ _ hl1 rfl
   exact ⟨_,_,run_endRound (some .ret) hl2, .inr ⟨rfl,hIx.putObj _ hi2 (Nat.le_succ _) hl2 rfl,World.putObj_heap_same (Array.getElem?_eq_some_iff.1 hl2).1,(World.putObj_heap_other (by omega)).trans (hk2.same _ _ hd1 rfl)⟩⟩
  | exit _=>exact hp.elim
  | goto _=>exact hp.elim
  | panic _=>exact hp.elim
  | outgrown=>exact hp.elim
 ·rintro e V ⟨⟨v,rfl⟩,⟨hi,hl,hd⟩ | ⟨k,hk,hi,hl,hd⟩⟩
  ·exact ⟨none,_,run_endLoop hl (by simp),hall D _ (Nat.le_refl _) (hI.putObj _ hi (Nat.le_succ _) hl rfl) ((World.putObj_heap_other (by omega)).trans hd)⟩
  ·exact ⟨some .ret,_,run_endLoop hl (by simp),hleft D k _ (Nat.le_refl _) hk (hIx.putObj _ hi (Nat.le_succ _) hl rfl) ((World.putObj_heap_other (by omega)).trans hd)⟩
end Go.Proofs.YtckejblkppllaaaGreatDoor.Pa
