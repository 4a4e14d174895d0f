/-
  What the reference's Sum answers. Condition: at most 1048576 bytes.
-/
import Derived.Test.YtckejblkppllaaaGreatDoorT4HAdd
namespace Go.Proofs.YtckejblkppllaaaGreatDoor
open Go.RowKit
theorem tail_mul (l : List UInt8) : ∃ q,(l++Df l.length).length=64 * q:=by
 refine ⟨(l++Df l.length).length / 64,?_⟩
 have : (l++Df l.length).length % 64=0:=by
  rw [tail_eq,List.length_append,List.length_cons,List.length_append,List.length_replicate,Ic]
  omega
 omega
def RR (w0 : World) (g : Nat) (L : List UInt32) (wr : World) : Prop:=w0.grownBy wr (some g)∧wr.heap[g]? = some (.cells (uc L) 305)
theorem Kk (w : World) (g : Nat) : w.grownBy w (some g):=⟨rfl,rfl,rfl,Nat.le_refl _,fun _ _ _=>rfl⟩
theorem Jm {a b c : World} {g : Nat} (h : a.grownBy b (some g)) (k : b.grownBy c (some g)) : a.grownBy c (some g):=
 ⟨k.os.trans h.os,k.tape.trans h.tape,k.output.trans h.output,Nat.le_trans h.size k.size,fun i hi hg=>(k.block i (Nat.lt_of_lt_of_le hi h.size) hg).trans (h.block i hi hg)⟩
theorem grown_below {a b : World} {g : Nat} (h : Below a.heap.size a b) : a.grownBy b (some g):=⟨h.os,h.tape,h.output,h.size,fun k hk _=>h.block k hk⟩
theorem grown_new {a b c : World} {g x : Nat} (h : a.grownBy b (some g)) (k : b.grownBy c (some x)) (hx : a.heap.size≤x) : a.grownBy c (some g):=
 ⟨k.os.trans h.os,k.tape.trans h.tape,k.output.trans h.output,Nat.le_trans h.size k.size,fun i hi hg=>(k.block i (Nat.lt_of_lt_of_le hi h.size) (by intro e; injection e with e; omega)).trans (h.block i hi hg)⟩
theorem below_grown {n : Nat} {a b c : World} {g : Nat} (h : Below n a b) (k : b.grownBy c (some g)) (hn : n≤b.heap.size) (hg : n≤g) : Below n a c:=h.grown k hn (by intro i hi; injection hi with hi; omega)
theorem RR.keep {w0 wr : World} {g k : Nat} {L : List UInt32} {o : Obj} (h : RR w0 g L wr) (hk : w0.heap[k]? = some o) (hne : k≠g) : wr.heap[k]? = some o:=
 (h.1.block k (Ad hk) (by intro e; injection e with e; exact hne e)).trans hk
theorem RR.cell {w0 wr : World} {g : Nat} {L : List UInt32} (h : RR w0 g L wr) (j : Nat) (hj : j<L.length) : wr.cell? ⟨g,j,none⟩=some (.int .u32 (u (L.getD j 0))):=by
 rw [cell_of_row _ _ _ _ _ _ h.2,Eo _ _ hj]
theorem RR.free {w0 wr : World} {g : Nat} {L : List UInt32} (h : RR w0 g L wr) (j : Nat) : wr.frozen? ⟨g,j,none⟩=false:=by simp [World.frozen?,h.2]
theorem RR.drewN {w0 wr : World} {g : Nat} {L : List UInt32} (h : RR w0 g L wr) (n : Nat) : RR w0 g L (wr.drewN n):=by
 obtain ⟨⟨a,b,c,d,e⟩,f⟩:=h
 exact ⟨⟨a,b,c,d,e⟩,f⟩
theorem RR.drew {w0 wr : World} {g : Nat} {L : List UInt32} (h : RR w0 g L wr) : RR w0 g L wr.drew:=by
 obtain ⟨⟨a,b,c,d,e⟩,f⟩:=h
 exact ⟨⟨a,b,c,d,e⟩,f⟩
theorem RR.whole {w0 wr w' : World} {g : Nat} {L M : List UInt32} (h : RR w0 g L wr) (h2 : w'.heap[g]? = some (.cells (uc M) 305)) (hg : wr.grownBy w' (some g)) : RR w0 g M w':=⟨Jm h.1 hg,h2⟩
theorem RR.set {w0 wr : World} {g : Nat} {L : List UInt32} (h : RR w0 g L wr) (j : Nat) (x : UInt32) : RR w0 g (L.set j x) (wr.setCell ⟨g,j,none⟩ (.int .u32 (u x))):=by
 refine ⟨Jm h.1 ⟨rfl,rfl,rfl,by simp [World.setCell],fun k _ hk=>Below.heap_setCell _ _ _ _ (fun e=>hk (by simp [e]))⟩,?_⟩
 rw [heap_setCell _ _ _ _ _ _ _ h.2,uc_set1]
theorem keep_new {wr w5 w6 : World} {g : Nat} {o x : Obj} (hb5 : Below wr.heap.size wr w5) (hg6 : (w5.alloc o).grownBy w6 (some w5.heap.size)) (h : wr.heap[g]? = some x) : w6.heap[g]? = some x:=by
 have h1:=Ad h
 have h2:=hb5.size
 exact (hg6.block g (by simp; omega) (by intro e; injection e with e; omega)).trans ((heap_past _ _ _ (by omega)).trans ((hb5.block g h1).trans h))
theorem below_new {n : Nat} {wr w5 w6 : World} {o : Obj} (hb : Below n wr w5) (hn : n≤w5.heap.size) (hg6 : (w5.alloc o).grownBy w6 (some w5.heap.size)) : Below n wr w6:=
 (hb.alloc hn _).grown hg6 (by simp; omega) (by intro i hi; injection hi with hi; omega)
theorem append4 (w : World) (base g cap m : Nat) (l : List UInt8) (x : UInt32) (_hm : l.length=m) (hbase : base≤w.heap.size)
  (hown : w.ownsRow base 5 1 (.slice (some ⟨g,0,none⟩) m cap) m (bc l)) (hfit : m+4≤cap) :
  ∃ w',(Builtin.append_ #[137,137] 137 #[.slice (some ⟨g,0,none⟩) m cap, .slice (some ⟨w.heap.size,0,none⟩) 4 4]).run Tryz.prog (w.alloc (.cells #[.int .u8 ((x >>> 24).toUInt8.toNat : Int), .int .u8 ((x >>> 16).toUInt8.toNat : Int), .int .u8 ((x >>> 8).toUInt8.toNat : Int), .int .u8 (x.toUInt8.toNat : Int)] 5)).drew = .ok (.slice (some ⟨g,0,none⟩) (m+4) cap) w' ∧
   w'.ownsRow base 5 1 (.slice (some ⟨g,0,none⟩) (m+4) cap) (m+4) (bc (l++be4 x))∧Below base w w':=by
 obtain ⟨i0,hi,hz0,hz1,hz2⟩:=info_parts Tryz.infoB
 have hg : base≤g:=(hown.lt g rfl).1
 obtain ⟨w',hrun,r1,r2⟩:=run_append_fits (P:=Tryz.prog) (w.alloc (.cells #[.int .u8 ((x >>> 24).toUInt8.toNat : Int), .int .u8 ((x >>> 16).toUInt8.toNat : Int), .int .u8 ((x >>> 8).toUInt8.toNat : Int), .int .u8 (x.toUInt8.toNat : Int)] 5)).drew base 137 137 5 i0 1 Tryz.underlying137 hi hz1 g m cap (bc l) (hown.alloc _).drew ⟨w.heap.size,0,none⟩ 4 4 (bc (be4 x)) rfl (fun j y hj=>by
  show (w.alloc _).cell? _=_
  match j,hj with
  | 0,hj=>simp [bc,be4] at hj; subst hj; simp [Addr.add_lit,World.cell?_alloc_at]
  | 1,hj=>simp [bc,be4] at hj; subst hj; simp [Addr.add_lit,World.cell?_alloc_at]
  | 2,hj=>simp [bc,be4] at hj; subst hj; simp [Addr.add_lit,World.cell?_alloc_at]
  | 3,hj=>simp [bc,be4] at hj; subst hj; simp [Addr.add_lit,World.cell?_alloc_at]) (Dn _) hfit
 refine ⟨w',hrun,by rw [Dm]; exact r1,?_⟩
 exact (((Below.refl _ _).alloc hbase _).drew).grown r2 (by show base≤(w.alloc _).heap.size; simp; omega) (by intro k hk; injection hk with hk; omega)
theorem byte24w (n : UInt32) : IntKind.u8.wrap (u n / (16777216 : Int))=(((n >>> 24).toUInt8).toNat : Int):=by rw [IntKind.wrap_u8]; exact byte24 n
theorem byte16w (n : UInt32) : IntKind.u8.wrap (u n / (65536 : Int))=(((n >>> 16).toUInt8).toNat : Int):=by rw [IntKind.wrap_u8]; exact byte16 n
theorem byte8w (n : UInt32) : IntKind.u8.wrap (u n / (256 : Int))=(((n >>> 8).toUInt8).toNat : Int):=by rw [IntKind.wrap_u8]; exact byte8 n
theorem byte0w (n : UInt32) : IntKind.u8.wrap (u n)=((n.toUInt8).toNat : Int):=by rw [IntKind.wrap_u8]; exact byte0 n
theorem Oo {P : Program} (w : World) {o : Oper} {a : Act} {K : Act→World→Prop} {Q : Exit→Act→World→Prop} (s x : Operand) (t : TypeId)
  (hop : o.op=Op.call { callee:=Callee.builtin Builtin.append,args:=#[s,x],argTypes:=#[t,t] }) {v1 v2 v' : Value} {w' : World} (hs : a.eval s=v1) (hx : a.eval x=v2)
  (hrun : (Builtin.append_ #[t,t] o.type #[v1,v2]).run P w = .ok v' w') (hK : K (a.put o.dst v') w') : Oper.wp P o a w K Q:=by
 unfold Oper.wp
 simp [execOp,hop,resolve,invoke,builtin,hs,hx,hrun,Result.andThen]
 exact hK
set_option maxRecDepth 20000 in
set_option maxHeartbeats 2000000 in
theorem refSum_any (w : World) (v : Value) (l : List UInt8) (h : Sl w v l) (hl : l.length≤1048576) :
  Calls Tryz.prog 161 #[v] w fun e w'=>∃ g cap,e = .returned (.slice (some ⟨g,0,none⟩) 32 cap)∧Sl w' (.slice (some ⟨g,0,none⟩) 32 cap) (sha l)∧Below w.heap.size w w':=by
 have HV:=Ac h
 obtain ⟨ao,cap,rfl,h1,h2,h3,h4⟩:=h
 clear h4 h3 h2 h1
 have hca:=Ac (consts_any w)
 have hkg : ∀ t,t<64→(uc kL)[t]? = some (.int .u32 (u (kL.getD t 0))):=fun t ht=>Eo _ _ ht
 have hki : (Tryz.prog.info? 303).map (·.size)=some (uc kL).size:=Tryz.infoA64
 have hko:=Ea kL
 have hks : (uc (List.replicate 64 0)).size=(uc kL).size:=by rw [Fq,Fq]; rfl
 have HKG:=Ac hkg
 have HKI:=Ac hki
 have HKO:=Ac hko
 have HKS:=Ac hks
 have hsi : (Tryz.prog.info? 305).map (·.size)=some (uc st0.list).size:=Tryz.infoA8
 have HSI:=Ac hsi
 clear hkg hki hko hks hsi
 generalize uc kL=KA at *
 go_enter Tryz.func161,Tryz.ntmps161
 go_wp2_with fail
 refine hca.out.mono ?_
 rintro e1 w1 ⟨rfl,hb1⟩
 go_wp2_with (first
  | (refine Fe _ rfl 303 (.tmp 3) (.tmp 17) rfl _ KA rfl rfl 303 (uc (List.replicate 64 0)) (heap_last _ _ _ rfl) HKI.out HKS.out HKO.out ?_; intro w2 hrow2 hg2)
  | (refine Fe _ rfl 305 (.tmp 4) (.tmp 18) rfl _ (uc st0.list) rfl rfl 305 (uc [0,0,0,0,0,0,0,0]) (heap_last _ _ _ rfl) HSI.out rfl (Ea _) ?_; intro w3 hrow3 hg3))
 have hsz1:=hb1.size
 have hsz2 : w1.heap.size+1≤w2.heap.size:=by have:=hg2.size; simpa using this
 have hsz3 : w2.heap.size+1≤w3.heap.size:=by have:=hg3.size; simpa using this
 have hb2 : Below w.heap.size w w2:=(hb1.alloc hsz1 _).grown hg2 (by simp; omega) (by intro i hi; injection hi with hi; omega)
 have hb3 : Below w.heap.size w w3:=(hb2.alloc hb2.size _).grown hg3 (by have:=hb2.size; simp; omega) (by intro i hi; injection hi with hi; omega)
 have fk3 : w3.heap[w1.heap.size]? = some (.cells KA 303):=(hg3.block _ (by simp; omega) (by intro e; injection e with e; omega)).trans ((heap_past _ _ _ (by omega)).trans hrow2)
 generalize hgk : w1.heap.size=gk at *
 generalize hgh : w2.heap.size=gh at *
 have hkh : gk<gh:=by omega
 have hgn : w.heap.size≤gk:=by omega
 clear hg2 hg3 hrow2 hsz1 hsz2 hsz3 hgk hgh hb1 hb2
 have HB3:=Ac hb3
 have HFK3:=Ac fk3
 have HFH3:=Ac hrow3
 have hgh3:=Ad hrow3
 clear hb3 fk3 hrow3
 have hpd:=Ac (padded_any w3 _ l (HV.out.keep HB3.out) hl)
 have HQ:=Ac (tail_mul l)
 have HSH:=Ac (sha_out l)
 generalize l++Df l.length=P at *
 refine hpd.out.mono ?_
 rintro e1 w4 ⟨m,hm,rfl,hown,hb4,hlt4⟩
 have HB4:=Ac (HB3.out.trans (hb4.mono HB3.out.size))
 have fk4:=(hb4.block _ (Ad HFK3.out)).trans HFK3.out
 have fh4:=(hb4.block _ hgh3).trans HFH3.out
 have hsp : Sl w4 (.slice (some ⟨w3.heap.size,0,none⟩) m (l.length+72)) P:=sl_at hm.symm hown
 have hpc : ∀ j,j<m→w4.cell? ⟨w3.heap.size,j,none⟩=some (.int .u8 ((P.getD j 0).toNat : Int)):=by
  intro j hj
  have:=World.ownsRow.cells hown (g:=w3.heap.size) rfl j _ (bc_getD P j (by omega))
  rw [Addr.add_lit,Nat.zero_add] at this
  exact this
 have hmc : m≤l.length+72:=by
  obtain ⟨_,_,hv,h1,_⟩:=hsp
  injection hv with _ e2 e3
  omega
 obtain ⟨q,hq⟩:=HQ.out
 have hmq : m=64 * q:=by omega
 have HFK:=Ac fk4
 have HFH:=Ac fh4
 have HPC:=Ac hpc
 have hgp : gh<w3.heap.size:=hgh3
 generalize hgpe : w3.heap.size=gp at *
 have HMQ:=Ac hmq
 have HM:=Ac hm
 have hmb : m≤1048648:=by omega
 have hl4 : gp<w4.heap.size:=hlt4
 clear hgpe hown hb4 hlt4 fk4 fh4 hsp hpc hmq hq hm hpd HFK3 HFH3 hgh3 HB3
 have hr0 : RR w4 gh (mix st0 P 0).list w4:=⟨Kk _ _,HFH.out⟩
 have HR0:=Ac hr0
 clear hr0
 go_wp2_with fail
 go_loopw [6] (fun t wr=>∃ j at' : Nat,at'=64 * j∧at'≤m∧t = .int .i64 at'∧RR w4 gh (mix st0 P j).list wr)
  (fun t _=>m - (intOf t).toNat)
 case atStart=>exact ⟨0,0,rfl,by omega,rfl,HR0.out⟩
 case round=>
  obtain ⟨j,at',hat,hle,rfl,hR⟩:=hrel
  by_cases hlt : at'<m
  ·have hle64 : at'+64≤m:=by have:=HMQ.out; omega
   have hmx : mix st0 P (j+1)=comp (mix st0 P j) ((P.drop (64 * j)).take 64):=rfl
   have hbl : ((P.drop (64 * j)).take 64).length=64:=by have:=HM.out; simp; omega
   have hcm : comp (mix st0 P j) ((P.drop (64 * j)).take 64)=(mix st0 P j).add (rds (ext (Aw ((P.drop (64 * j)).take 64)) 48) (mix st0 P j) 64):=rfl
   have hgD : ∀ i,i<64→((P.drop (64 * j)).take 64).getD i 0=P.getD (at'+i) 0:=by
    intro i hi
    rw [List.getD_eq_getElem?_getD,List.getElem?_take_of_lt hi,List.getElem?_drop,← hat,← List.getD_eq_getElem?_getD]
   have HMX:=Ac (hmx.trans hcm)
   have hsw : Sl wr (.slice (some ⟨gp,at',none⟩) 64 (l.length+72 - at')) ((P.drop (64 * j)).take 64):=by
    refine ⟨_,_,by rw [hbl],by rw [hbl]; omega,by unfold maxLen; omega,(fun h=>by cases h),fun _=>⟨gp,at',rfl,?_,fun i hi=>?_⟩⟩
    ·exact Nat.lt_of_lt_of_le hl4 hR.1.size
    ·rw [hbl] at hi
     have:=hR.1.block gp hl4 (by intro e; injection e with e; omega)
     rw [World.cell?_of_block (w:=w4) this,HPC.out _ (by omega),← hgD i hi,List.getD_eq_getElem?_getD,List.getElem?_eq_getElem (by rw [hbl]; exact hi)]
     rfl
   have hwd:=Ac (words_any wr gp at' (l.length+72 - at') _ hbl hsw)
   have HAT:=Ac hat
   clear hmx hcm hgD hsw hat
   generalize (P.drop (64 * j)).take 64=blk at *
   have hWl : (ext (Aw blk) 48).length=64:=by rw [Ir,Gw]
   have HWL:=Ac hWl
   clear hWl
   generalize ext (Aw blk) 48=W at *
   have HR:=Ac hR
   clear hR
   generalize mix st0 P j=s at *
   have hna : ¬ (l.length+72=at'):=by omega
   have hwi : (Tryz.prog.info? 303).map (·.size)=some (uc W).size:=by rw [Fq,HWL.out]; exact Tryz.infoA64
   have hws : (uc (List.replicate 64 0)).size=(uc W).size:=by rw [Fq,Fq,HWL.out]; rfl
   have hss : (Tryz.prog.info? 305).map (·.size)=some (uc s.list).size:=Tryz.infoA8
   have HWI:=Ac hwi
   have HWS:=Ac hws
   have HSS:=Ac hss
   clear hwi hws hss
   go_wp2_with fail
   rw [Nat.add_sub_cancel_left]
   refine hwd.out.mono ?_
   rintro e1 w5 ⟨rfl,hb5⟩
   go_wp2_with (first
    | (refine Fe _ rfl 303 (.tmp 7) (.tmp 32) rfl _ (uc W) rfl rfl 303 (uc (List.replicate 64 0)) (heap_last _ _ _ rfl) HWI.out HWS.out (Ea _) ?_; intro w6 hrow6 hg6; have hfh6:=keep_new hb5 hg6 HR.out.2)
    | (refine wpList_load_row rfl 305 (.tmp 4) rfl _ rfl 305 (uc s.list) (0,0) _ hfh6 Tryz.underlying305 rfl HSS.out ?_)
    | (refine Fe _ rfl 305 (.tmp 8) (.tmp 33) rfl _ (uc s.list) rfl rfl 305 (uc [0,0,0,0,0,0,0,0]) (heap_last _ _ _ rfl) HSS.out rfl (Ea _) ?_; intro w7 hrow7 hg7))
   have hb6:=below_new hb5 hb5.size hg6
   have hb7:=below_new hb6 hb6.size hg7
   have hsz6 : w5.heap.size+1≤w6.heap.size:=by have:=hg6.size; simpa using this
   have hsz7 : w6.heap.size+1≤w7.heap.size:=by have:=hg7.size; simpa using this
   have fw7 : w7.heap[w5.heap.size]? = some (.cells (uc W) 303):=(hg7.block _ (by simp; omega) (by intro e; injection e with e; omega)).trans ((heap_past _ _ _ (by omega)).trans hrow6)
   have fk7 : w7.heap[gk]? = some (.cells KA 303):=(hb7.block _ (Nat.lt_of_lt_of_le (Ad HFK.out) HR.out.1.size)).trans (HR.out.keep HFK.out (by omega))
   have fh7 : w7.heap[gh]? = some (.cells (uc s.list) 305):=(hb7.block _ (Ad HR.out.2)).trans HR.out.2
   have hgw : wr.heap.size≤w5.heap.size:=hb5.size
   have hgv : wr.heap.size≤w6.heap.size:=hb6.size
   have hwg : w5.heap.size<w6.heap.size:=by omega
   generalize hgwe : w5.heap.size=gw at *
   generalize hgve : w6.heap.size=gv at *
   have hgk7 : gk<wr.heap.size:=Nat.lt_of_lt_of_le (Ad HFK.out) HR.out.1.size
   have hgh7 : gh<wr.heap.size:=Ad HR.out.2
   have H7:=Ac (And.intro hb7 (And.intro fw7 (And.intro fk7 fh7)))
   have hr7:=Ac (show RR w7 gv (rds W s 0).list w7 from ⟨Kk _ _,hrow7⟩)
   clear hb5 hb6 hb7 hg6 hg7 hrow6 hrow7 hfh6 hsz6 hsz7 fw7 fk7 fh7 hgwe hgve hwd
   generalize hwo : wr=wo at *
   clear hwo
   go_loopw [9] (fun t wr=>∃ k : Nat,k≤64∧t = .int .i64 k∧RR w7 gv (rds W s k).list wr) (fun t _=>64 - (intOf t).toNat)
   case atStart=>exact ⟨0,by omega,rfl,hr7.out⟩
   case round=>
    clear hr7
    obtain ⟨k,hk,rfl,hI⟩:=hrel
    have hx:=u_xor
    have ha:=u_and
    have hp:=Fc
    have hp':=u_add'
    have hp4:=u_add4
    have hn:=u_not
    by_cases hlk : k<64
    ·have ck : wr.cell? ⟨gk,k,none⟩=some (.int .u32 (u (kL.getD k 0))):=by
      rw [cell_of_row _ _ _ _ _ _ (hI.keep H7.out.2.2.1 (by omega)),HKG.out k hlk]
     have cw : wr.cell? ⟨gw,k,none⟩=some (.int .u32 (u (W.getD k 0))):=by
      rw [cell_of_row _ _ _ _ _ _ (hI.keep H7.out.2.1 (by omega)),Eo _ _ (by rw [HWL.out]; exact hlk)]
     have hS : rds W s (k+1)=rd (rds W s k) (kL.getD k 0) (W.getD k 0):=rfl
     generalize kL.getD k 0=kk at *
     generalize W.getD k 0=ww at *
     generalize rds W s k=S at *
     obtain ⟨a,b,c,d,e,f,g,i⟩:=S
     have c0 : wr.cell? ⟨gv,0,none⟩=some (.int .u32 (u a)):=hI.cell 0 (by rw [Cb]; omega)
     have c1 : wr.cell? ⟨gv,1,none⟩=some (.int .u32 (u b)):=hI.cell 1 (by rw [Cb]; omega)
     have c2 : wr.cell? ⟨gv,2,none⟩=some (.int .u32 (u c)):=hI.cell 2 (by rw [Cb]; omega)
     have c3 : wr.cell? ⟨gv,3,none⟩=some (.int .u32 (u d)):=hI.cell 3 (by rw [Cb]; omega)
     have c4 : wr.cell? ⟨gv,4,none⟩=some (.int .u32 (u e)):=hI.cell 4 (by rw [Cb]; omega)
     have c5 : wr.cell? ⟨gv,5,none⟩=some (.int .u32 (u f)):=hI.cell 5 (by rw [Cb]; omega)
     have c6 : wr.cell? ⟨gv,6,none⟩=some (.int .u32 (u g)):=hI.cell 6 (by rw [Cb]; omega)
     have c7 : wr.cell? ⟨gv,7,none⟩=some (.int .u32 (u i)):=hI.cell 7 (by rw [Cb]; omega)
     have HS:=Ac hS
     have HI:=Ac hI
     clear hS hI
     go_wp2_with fail
     go_quiet (first | (go_at_call_of 197 (Value.int IntKind.u32 6); exact Calls.quiet_of_same (rr6 _ e)) | (go_at_call_of 197 (Value.int IntKind.u32 11); exact Calls.quiet_of_same (rr11 _ e)) | (go_at_call_of 197 (Value.int IntKind.u32 25); exact Calls.quiet_of_same (rr25 _ e)))
     go_wp2_with fail
     go_quiet (first | (go_at_call_of 197 (Value.int IntKind.u32 2); exact (rr2 _ a).mono (fun _ _ h=>⟨h.1,_,h.2⟩)) | (go_at_call_of 197 (Value.int IntKind.u32 13); exact (rr13 _ a).mono (fun _ _ h=>⟨h.1,_,h.2⟩)) | (go_at_call_of 197 (Value.int IntKind.u32 22); exact (rr22 _ a).mono (fun _ _ h=>⟨h.1,_,h.2⟩)))
     have hdi : (Tryz.prog.info? 305).map (·.size)=some (uc (rd ⟨a,b,c,d,e,f,g,i⟩ kk ww).list).size:=Tryz.infoA8
     have HDI:=Ac hdi
     clear hdi
     go_wp2_with (refine Fe _ rfl 305 (.tmp 8) (.tmp 115) rfl _ (uc (rd ⟨a,b,c,d,e,f,g,i⟩ kk ww).list) rfl rfl 305 _ (HI.out.drewN _).2 HDI.out rfl (Ea _) ?_; intro w8 hrow8 hg8)
     have HN:=Ac (show RR w7 gv (rds W s (k+1)).list w8 from by rw [HS.out]; exact (HI.out.drewN _).whole hrow8 hg8)
     clear hrow8 hg8 HS HI
     refine ⟨⟨k+1,by omega,by go_num,HN.out⟩,by simp [intOf]; omega⟩
    ·obtain rfl : k=64:=by omega
     have hcs : mix st0 P (j+1)=s.add (rds W s 64):=HMX.out
     have HCS:=Ac hcs
     have HI:=Ac hI
     clear hcs hI HMX
     generalize rds W s 64=T at *
     rw [show ((64 : Nat) : Int)=64 from rfl]
     generalize hw8 : wr=w8 at *
     clear hw8
     have hr8 : RR w8 gh (acc s.list T.list 0) w8:=⟨Kk _ _,by rw [acc_zero]; exact HI.out.keep H7.out.2.2.2 (by omega)⟩
     have HR8:=Ac hr8
     clear hr8
     go_wp2_with fail
     go_loopw [14] (fun t wr=>∃ k : Nat,k≤8∧t = .int .i64 k∧RR w8 gh (acc s.list T.list k) wr) (fun t _=>8 - (intOf t).toNat)
     case atStart=>exact ⟨0,by omega,rfl,HR8.out⟩
     case round=>
      clear HR8
      obtain ⟨k,hk,rfl,h3⟩:=hrel
      by_cases hlk : k<8
      ·have ch:=h3.cell k (by rw [L6 _ _ _ (by rw [Cb]; omega) (by rw [Cb,Cb]),Cb]; exact hlk)
       rw [acc_get _ _ _ (by rw [Cb]; exact hlk) (by rw [Cb,Cb])] at ch
       have cf:=h3.free k
       have cv : wr.cell? ⟨gv,k,none⟩=some (.int .u32 (u (T.list.getD k 0))):=by
        rw [cell_of_row _ _ _ _ _ _ (h3.keep HI.out.2 (by omega)),Eo _ _ (by rw [Cb]; exact hlk)]
       have hnx:=h3.set k (s.list.getD k 0+T.list.getD k 0)
       rw [acc_set _ _ _ (by rw [Cb]; exact hlk) (by rw [Cb,Cb])] at hnx
       have HNX:=Ac hnx
       clear hnx h3
       generalize s.list.getD k 0=x at *
       generalize T.list.getD k 0=y at *
       go_wp2_with fail
       go_region
       go_wp2_with fail
       refine ⟨⟨k+1,by omega,by go_num,?_⟩,by simp [intOf]; omega⟩
       exact HNX.out.drew
      ·obtain rfl : k=8:=by omega
       rw [acc_all] at h3
       have hr9 : RR w4 gh (mix st0 P (j+1)).list wr:=by
        rw [HCS.out]
        exact ⟨Jm (grown_new (Jm HR.out.1 (grown_below H7.out.1)) HI.out.1 (Nat.le_trans HR.out.1.size hgv)) h3.1,h3.2⟩
       have HR9:=Ac hr9
       clear hr9 h3
       go_wp2_with fail
       exact ⟨⟨j+1,at'+64,by have:=HAT.out; omega,by omega,by go_num,HR9.out⟩,by simp [intOf]; omega⟩
  ·have hjq : P.length / 64=j:=by have:=HMQ.out; have:=HM.out; omega
   rw [hjq] at HSH
   have hb0 : Below w.heap.size w wr:=below_grown HB4.out hR.1 HB4.out.size (by omega)
   have hrow:=hR.2
   have hghw:=Ad hR.2
   clear hR hjq hca HV HFK HFH HPC HMQ HR0 HB4
   generalize mix st0 P j=s at *
   have hget : ∀ k,k<8→wr.cell? ⟨gh,k,none⟩=some (.int .u32 (u (s.list.getD k 0))):=fun k hk=>by
    rw [cell_of_row _ _ _ _ _ _ hrow,Eo _ _ (by rw [Cb]; exact hk)]
   have hL : s.list.length=8:=rfl
   have HO : Hid (out s=outL s.list):=rfl
   generalize s.list=L at *
   generalize hwo : wr=wo at *
   clear hwo hrow
   obtain ⟨i0,hi,hz0,hz1,hz2⟩:=info_parts Tryz.infoB
   go_wp2_with (at_make; refine wpList_make_own _ rfl _ _ 137 rfl wo.heap.size 5 i0 (.int .u8 0) 1 Tryz.underlying137 hi hz0 hz1 .i64 .i64 _ 32 rfl rfl (by omega) (by rw [hz2]; omega) (by unfold maxLen; omega) (Nat.le_refl _) ?_; intro w1 hown1 hgrow1)
   have hb1 : Below wo.heap.size wo w1:=(Below.refl _ _).grown hgrow1 (Nat.le_refl _) (by intro k hk; cases hk)
   clear hgrow1
   go_loopw [15,16] (fun v t wr=>∃ k m4 : Nat,k≤8∧m4=4 * k∧v = .slice (some ⟨wo.heap.size,0,none⟩) m4 32∧t = .int .i64 k ∧
     wr.ownsRow wo.heap.size 5 1 (.slice (some ⟨wo.heap.size,0,none⟩) m4 32) m4 (bc (outL (L.take k)))∧Below wo.heap.size wo wr)
    (fun _ t _=>8 - (intOf t).toNat)
   case atStart=>exact ⟨0,0,by omega,rfl,rfl,rfl,hown1,hb1⟩
   case round=>
    clear hown1 hb1
    obtain ⟨k,m4,hk,hm4,rfl,rfl,hown,hb⟩:=hrel
    have hlen : (outL (L.take k)).length=m4:=by rw [Mb]; simp; omega
    by_cases hlt : k<8
    ·have hS:=Ac (outL_take L k (by omega))
     have hc:=(hb.cell (p:=⟨gh,k,none⟩) hghw).trans (hget k hlt)
     generalize L.getD k 0=x at *
     have hghr : gh<wr.heap.size:=Nat.lt_of_lt_of_le hghw hb.size
     obtain ⟨w2,hap,hown2,hb2⟩:=append4 wr wo.heap.size wo.heap.size 32 m4 _ x hlen hb.size hown (by omega)
     have hcx : wr.drew.cell? ⟨gh,k,none⟩=some (.int .u32 (u x)):=hc
     have hcx2 : (wr.alloc (.cells #[.int .u8 ((x >>> 24).toUInt8.toNat : Int), .int .u8 ((x >>> 16).toUInt8.toNat : Int), .int .u8 ((x >>> 8).toUInt8.toNat : Int), .int .u8 (x.toUInt8.toNat : Int)] 5)).drew.cell? ⟨gh,k,none⟩=some (.int .u32 (u x)):=by
      show (wr.alloc _).cell? _=_
      rw [World.cell?_alloc_past _ _ _ hghr]
      exact hc
     have hcx3 : w2.cell? ⟨gh,k,none⟩=some (.int .u32 (u x)):=(hb2.cell (p:=⟨gh,k,none⟩) hghw).trans hc
     have HAP:=Ac hap
     have HO2:=Ac hown2
     have HB2:=Ac (hb.trans hb2)
     have HM4:=Ac hm4
     clear hap hown2 hb2 hown hb hlen hget hm4
     have h24:=byte24w
     have h16:=byte16w
     have h8:=byte8w
     have h0:=byte0w
     go_wp2_with fail
     -- region
     refine wp_region_held_drew (S:=fun W=>W.cell? ⟨gh,k,none⟩=some (.int .u32 (u x))) (by kernel_rfl) hcx (fun hHeld=>?_)
     refine Ax (i:=0) (v:=?_) rfl (by kernel_rfl) (by kernel_rfl) (by kernel_rfl) (fun _ _ _ h=>h) rfl ?_ hHeld ?_
     rotate_left
     ·intro w _; go_simp; first | done | (with_reducible rfl)
     try simp only [Act.put,List.setIfInBounds_toArray,List.set_cons_zero,List.set_cons_succ]
     refine Ax (i:=1) (v:=?_) rfl (by kernel_rfl) (by kernel_rfl) (by kernel_rfl) (fun _ _ _ h=>h) rfl ?_ hHeld ?_
     rotate_left
     ·intro w _; go_simp; first | done | (with_reducible rfl)
     try simp only [Act.put,List.setIfInBounds_toArray,List.set_cons_zero,List.set_cons_succ]
     refine Ax (i:=2) (v:=?_) rfl (by kernel_rfl) (by kernel_rfl) (by kernel_rfl) (fun _ _ _ h=>h) rfl ?_ hHeld ?_
     rotate_left
     ·intro w _; go_simp; first | done | (with_reducible rfl)
     try simp only [Act.put,List.setIfInBounds_toArray,List.set_cons_zero,List.set_cons_succ]
     refine Ax (i:=3) (v:=?_) rfl (by kernel_rfl) (by kernel_rfl) (by kernel_rfl) (fun _ _ _ h=>h) rfl ?_ hHeld ?_
     rotate_left
     ·intro w hS; (try dsimp only at hS); go_simp; first | done | (with_reducible rfl)
     try simp only [Act.put,List.setIfInBounds_toArray,List.set_cons_zero,List.set_cons_succ]
     refine Ax (i:=4) (v:=?_) rfl (by kernel_rfl) (by kernel_rfl) (by kernel_rfl) (fun _ _ _ h=>h) rfl ?_ hHeld ?_
     rotate_left
     ·intro w _; go_simp; first | done | (with_reducible rfl)
     try simp only [Act.put,List.setIfInBounds_toArray,List.set_cons_zero,List.set_cons_succ]
     refine Ax (i:=5) (v:=?_) rfl (by kernel_rfl) (by kernel_rfl) (by kernel_rfl) (fun _ _ _ h=>h) rfl ?_ hHeld ?_
     rotate_left
     ·intro w _; go_simp; first | done | (with_reducible rfl)
     try simp only [Act.put,List.setIfInBounds_toArray,List.set_cons_zero,List.set_cons_succ]
     refine Ax (i:=6) (v:=?_) rfl (by kernel_rfl) (by kernel_rfl) (by kernel_rfl) (fun _ _ _ h=>h) rfl ?_ hHeld ?_
     rotate_left
     ·intro w _; go_simp; first | done | (with_reducible rfl)
     try simp only [Act.put,List.setIfInBounds_toArray,List.set_cons_zero,List.set_cons_succ]
     refine Ax (i:=7) (v:=?_) rfl (by kernel_rfl) (by kernel_rfl) (by kernel_rfl) (fun _ _ _ h=>h) rfl ?_ hHeld ?_
     rotate_left
     ·intro w _; go_simp; first | done | (with_reducible rfl)
     try simp only [Act.put,List.setIfInBounds_toArray,List.set_cons_zero,List.set_cons_succ]
     refine Ax (i:=8) (v:=?_) rfl (by kernel_rfl) (by kernel_rfl) (by kernel_rfl) (fun _ _ _ h=>h) rfl ?_ hHeld ?_
     rotate_left
     ·intro w hS; (try dsimp only at hS); go_simp; first | done | (with_reducible rfl)
     try simp only [Act.put,List.setIfInBounds_toArray,List.set_cons_zero,List.set_cons_succ]
     refine Ax (i:=9) (v:=?_) rfl (by kernel_rfl) (by kernel_rfl) (by kernel_rfl) (fun _ _ _ h=>h) rfl ?_ hHeld ?_
     rotate_left
     ·intro w _; go_simp; first | done | (with_reducible rfl)
     try simp only [Act.put,List.setIfInBounds_toArray,List.set_cons_zero,List.set_cons_succ]
     refine Ax (i:=10) (v:=?_) rfl (by kernel_rfl) (by kernel_rfl) (by kernel_rfl) (fun _ _ _ h=>h) rfl ?_ hHeld ?_
     rotate_left
     ·intro w _; go_simp; first | done | (with_reducible rfl)
     try simp only [Act.put,List.setIfInBounds_toArray,List.set_cons_zero,List.set_cons_succ]
     refine Ax (i:=11) (v:=?_) rfl (by kernel_rfl) (by kernel_rfl) (by kernel_rfl) (fun _ _ _ h=>h) rfl ?_ hHeld ?_
     rotate_left
     ·intro w _; go_simp; first | done | (with_reducible rfl)
     try simp only [Act.put,List.setIfInBounds_toArray,List.set_cons_zero,List.set_cons_succ]
     refine Ax (i:=12) (v:=?_) rfl (by kernel_rfl) (by kernel_rfl) (by kernel_rfl) (fun _ _ _ h=>h) rfl ?_ hHeld ?_
     rotate_left
     ·intro w _; go_simp; first | done | (with_reducible rfl)
     try simp only [Act.put,List.setIfInBounds_toArray,List.set_cons_zero,List.set_cons_succ]
     refine Ax (i:=13) (v:=?_) rfl (by kernel_rfl) (by kernel_rfl) (by kernel_rfl) (fun _ _ _ h=>h) rfl ?_ hHeld ?_
     rotate_left
     ·intro w hS; (try dsimp only at hS); go_simp; first | done | (with_reducible rfl)
     try simp only [Act.put,List.setIfInBounds_toArray,List.set_cons_zero,List.set_cons_succ]
     refine Ax (i:=14) (v:=?_) rfl (by kernel_rfl) (by kernel_rfl) (by kernel_rfl) (fun _ _ _ h=>h) rfl ?_ hHeld ?_
     rotate_left
     ·intro w _; go_simp; first | done | (with_reducible rfl)
     try simp only [Act.put,List.setIfInBounds_toArray,List.set_cons_zero,List.set_cons_succ]
     refine Ax (i:=15) (v:=?_) rfl (by kernel_rfl) (by kernel_rfl) (by kernel_rfl) (fun _ _ _ h=>h) rfl ?_ hHeld ?_
     rotate_left
     ·intro w _; go_simp; first | done | (with_reducible rfl)
     try simp only [Act.put,List.setIfInBounds_toArray,List.set_cons_zero,List.set_cons_succ]
     refine Ax (i:=16) (v:=?_) rfl (by kernel_rfl) (by kernel_rfl) (by kernel_rfl) (fun _ _ _ h=>h) rfl ?_ hHeld ?_
     rotate_left
     ·intro w _; go_simp; first | done | (with_reducible rfl)
     try simp only [Act.put,List.setIfInBounds_toArray,List.set_cons_zero,List.set_cons_succ]
     refine Ax (i:=17) (v:=?_) rfl (by kernel_rfl) (by kernel_rfl) (by kernel_rfl) (fun _ _ _ h=>h) rfl ?_ hHeld ?_
     rotate_left
     ·intro w _; go_simp; first | done | (with_reducible rfl)
     try simp only [Act.put,List.setIfInBounds_toArray,List.set_cons_zero,List.set_cons_succ]
     refine Ax (i:=18) (v:=?_) rfl (by kernel_rfl) (by kernel_rfl) (by kernel_rfl) (fun _ _ _ h=>h) rfl ?_ hHeld ?_
     rotate_left
     ·intro w hS; (try dsimp only at hS); go_simp; first | done | (with_reducible rfl)
     try simp only [Act.put,List.setIfInBounds_toArray,List.set_cons_zero,List.set_cons_succ]
     refine Ax (i:=19) (v:=?_) rfl (by kernel_rfl) (by kernel_rfl) (by kernel_rfl) (fun _ _ _ h=>h) rfl ?_ hHeld ?_
     rotate_left
     ·intro w _; go_simp; first | done | (with_reducible rfl)
     try simp only [Act.put,List.setIfInBounds_toArray,List.set_cons_zero,List.set_cons_succ]
     refine Ai (i:=20) rfl (by kernel_rfl) rfl (fun K hK=>?_)
     go_simp
     refine hK.out _ _ hcx2 (fun hHeld=>?_)
     clear hK K
     refine Ai (i:=21) rfl (by kernel_rfl) rfl (fun K hK=>?_)
     refine Oo _ (.tmp 134) (.tmp 154) 137 rfl rfl rfl HAP.out ?_
     refine hK.out _ _ hcx3 (fun hHeld=>?_)
     clear hK K
     try simp only [Act.put,List.setIfInBounds_toArray,List.set_cons_zero,List.set_cons_succ]
     refine Ax (i:=22) (v:=?_) rfl (by kernel_rfl) (by kernel_rfl) (by kernel_rfl) (fun _ _ _ h=>h) rfl ?_ hHeld ?_
     rotate_left
     ·intro w _; go_simp; first | done | (with_reducible rfl)
     try simp only [Act.put,List.setIfInBounds_toArray,List.set_cons_zero,List.set_cons_succ]
     refine wpAnyH_done (by kernel_rfl) ?_ _
     -- end of region
     go_wp2_with fail
     exact ⟨⟨k+1,m4+4,by omega,by have:=HM4.out; omega,rfl,by go_num,by rw [hS.out]; exact HO2.out,HB2.out⟩,by simp [intOf]; omega⟩
    ·obtain rfl : k=8:=by omega
     obtain rfl : m4=32:=by omega
     have hsl:=sl_at hlen hown
     rw [List.take_of_length_le (by omega)] at hsl
     have HSL:=Ac hsl
     have HBE:=Ac (hb0.trans (hb.mono hb0.size))
     clear hlen hown hsl hb hget
     go_wp2
     go_ret
     exact ⟨_,_,rfl,by rw [HSH.out,HO.out]; exact HSL.out,HBE.out⟩
end Go.Proofs.YtckejblkppllaaaGreatDoor
