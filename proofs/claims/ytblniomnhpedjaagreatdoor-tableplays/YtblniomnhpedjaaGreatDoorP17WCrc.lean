/-
  Texts joined: WCrc, Group, Groups, Conv.
-/
import Derived.Test.YtblniomnhpedjaaGreatDoorP16WPlain
import Derived.Test.YtblniomnhpedjaaGreatDoorP1Chg
namespace Go.Proofs.YtblniomnhpedjaaGreatDoor
open Go.RowKit
def tabL : List Nat:=[0,498536548,997073096,651767980,1994146192,1802195444,1303535960,1342533948,3988292384,4027552580,3604390888,3412177804,2607071920,2262029012,2685067896,3183342108]
def nib (x : Nat) : Nat:=x / 16 ^^^ tabL.getD (x % 16) 0
def crcB (s : Nat) (c : UInt8) : Nat:=nib (nib (s ^^^ c.toNat))
def C0 (s : Nat) (l : List UInt8) : Nat:=l.foldl crcB s
def Bm (w : World) : Prop:=0<w.heap.size∧∀ j,j<16→w.cell? ⟨0,j,none⟩=some (.int .u32 ((tabL.getD j 0 : Nat) : Int))
theorem Bm.keep {w w' : World} (h : Bm w) (hb : Below w.heap.size w w') : Bm w':=
 ⟨Nat.lt_of_lt_of_le h.1 hb.size,fun j hj=>(hb.cell (p:=⟨0,j,none⟩) h.1).trans (h.2 j hj)⟩
theorem tab_lt : ∀ j : Fin 16,tabL.getD j.val 0<4294967296:=by decide +kernel
theorem nib_lt (x : Nat) (h : x<4294967296) : nib x<4294967296:=by
 unfold nib
 have:=tab_lt ⟨x % 16,by omega⟩
 exact Nat.xor_lt_two_pow (n:=32) (by omega) this
theorem crcB_lt (s : Nat) (c : UInt8) (h : s<4294967296) : crcB s c<4294967296:=
 nib_lt _ (nib_lt _ (Nat.xor_lt_two_pow (n:=32) h (by have:=c.toNat_lt; omega)))
theorem I0 (l : List UInt8) : ∀ s,s<4294967296→C0 s l<4294967296:=by
 induction l with
 | nil=>intro s h; exact h
 | cons c r ih=>intro s h; exact ih _ (crcB_lt s c h)
theorem crcL_snoc (s : Nat) (l : List UInt8) (c : UInt8) : C0 s (l ++ [c])=crcB (C0 s l) c:=by simp [C0,List.foldl_append]
theorem nib_facts (x : Nat) (hx : x<4294967296) (w : World) (hT : Bm w) : ∃ i t y : Nat,i<16∧bits .and .u32 (x : Int) 15=(i : Int)∧w.cell? ⟨0,i,none⟩=some (.int .u32 (t : Int)) ∧
  bits .xor .u32 ((x : Int) / 16) (t : Int)=(y : Int)∧y=nib x∧y<4294967296:=by
 refine ⟨x % 16,tabL.getD (x % 16) 0,nib x,by omega,?_,hT.2 _ (by omega),?_,rfl,nib_lt x hx⟩
 ·rw [show (15 : Int)=((15 : Nat) : Int) from rfl,u32_and_nat x 15 hx (by omega)]
  have:=Nat.and_two_pow_sub_one_eq_mod x 4
  simp at this
  rw [this]
 ·have:=tab_lt ⟨x % 16,by omega⟩
  rw [show ((x : Int) / 16)=((x / 16 : Nat) : Int) from by omega,u32_xor_nat _ _ (by omega) this]
  rfl
set_option maxRecDepth 20000 in
set_option maxHeartbeats 400000 in
theorem crcPart_any (w : World) (v : Value) (l : List UInt8) (s : Nat) (hs : s<4294967296) (h : Sl w v l) (hT : Bm w) :
  Calls Tryz.prog 156 #[.int .u32 s,v] w fun e w'=>e = .returned (.int .u32 (C0 s l : Nat))∧w'=w:=by
 obtain ⟨ao,cap,rfl,h1,h2,h3,h4⟩:=h
 unfold maxLen at h2
 have HS:=Ab hs
 have HT:=Ab hT
 clear hs hT
 go_enter Tryz.func156,Tryz.ntmps156
 go_wp2
 go_loop [0,9] (fun x i=>∃ k : Nat,k≤l.length∧i = .int .i64 k∧x = .int .u32 ((C0 s (l.take k) : Nat) : Int)) (fun _ i=>l.length - (intOf i).toNat)
 case atStart=>exact ⟨0,by omega,rfl,rfl⟩
 case round=>
  obtain ⟨k,hk,rfl,rfl⟩:=hrel
  by_cases hlt : k<l.length
  ·obtain ⟨b,off,rfl,hb,hc⟩:=h4 (by rintro rfl; simp at hlt)
   have hcell:=hc k hlt
   have hn : C0 s (l.take (k+1))=crcB (C0 s (l.take k)) l[k]:=by rw [← crcL_snoc,List.take_succ_eq_append_getElem hlt]
   have hA:=I0 (l.take k) s HS.out
   have hc256:=UInt8.toNat_lt l[k]
   unfold crcB at hn
   generalize hcc : (l[k]).toNat=c at *
   generalize C0 s (l.take k)=A at *
   obtain ⟨x1,hx1⟩ : ∃ x1,x1=A ^^^ c:=⟨_,rfl⟩
   have hx1l : x1<4294967296:=by rw [hx1]; exact Nat.xor_lt_two_pow (n:=32) hA (by omega)
   have e1 : bits .xor .u32 (A : Int) (c : Int)=(x1 : Int):=by rw [u32_xor_nat A c hA (by omega),hx1]
   obtain ⟨i1,t1,y1,hi1,f1,g1,k1,n1,l1⟩:=nib_facts x1 hx1l w HT.out
   obtain ⟨i2,t2,y2,hi2,f2,g2,k2,n2,l2⟩:=nib_facts y1 l1 w HT.out
   have HN : Hid (C0 s (l.take (k+1))=y2):=by show _=_; rw [hn,n2,n1,hx1]
   clear hn hx1 n1 n2 hcc hc h4 hA hx1l l1 l2
   have c0 : (0 : Int)≤(c : Int):=by omega
   have c1 : (c : Int)≤255:=by omega
   go_wp2
   go_round
   case rel=>exact ⟨k+1,by omega,by go_num,by rw [HN.out]⟩
   case measure=>simp [intOf]; omega
  ·clear h4
   go_wp2
   go_ret
   exact ⟨Fq (by rw [List.take_of_length_le (by omega)]),rfl⟩
def Ss (w : World) (v : Value) (ls : List (List UInt8)) : Prop:=
 ∃ ao cap,v = .slice ao ls.length cap∧ls.length≤cap∧cap≤maxLen ∧
  (ls ≠ []→∃ b off,ao=some ⟨b,off,none⟩∧b<w.heap.size∧∀ j (h : j<ls.length),∃ u,w.cell? ⟨b,off+j,none⟩=some u∧Sl w u (ls[j]'h))
theorem Ss.keep {w w' : World} {v : Value} {ls : List (List UInt8)} (h : Ss w v ls) (hb : Below w.heap.size w w') : Ss w' v ls:=by
 obtain ⟨ao,cap,hv,h1,h2,h4⟩:=h
 refine ⟨ao,cap,hv,h1,h2,fun hl=>?_⟩
 obtain ⟨b,off,ha,hlt,hc⟩:=h4 hl
 refine ⟨b,off,ha,Nat.lt_of_lt_of_le hlt hb.size,fun j hj=>?_⟩
 obtain ⟨u,hu,hs⟩:=hc j hj
 exact ⟨u,(hb.cell (p:=⟨b,off+j,none⟩) hlt).trans hu,hs.keepB hb⟩
def crc (l : List UInt8) : Nat:=4294967295 ^^^ C0 4294967295 l
theorem crcL_append (s : Nat) (a b : List UInt8) : C0 s (a++b)=C0 (C0 s a) b:=by simp [C0,List.foldl_append]
set_option maxRecDepth 20000 in
set_option maxHeartbeats 400000 in
theorem crc_any (w : World) (v : Value) (ls : List (List UInt8)) (h : Ss w v ls) (hT : Bm w) :
  Calls Tryz.prog 137 #[v] w fun e w'=>e = .returned (.int .u32 (crc ls.flatten : Nat))∧w'=w:=by
 obtain ⟨ao,cap,rfl,h1,h2,h4⟩:=h
 unfold maxLen at h2
 have HT:=Ab hT
 clear hT
 go_enter Tryz.func137,Tryz.ntmps137
 go_wp2
 go_loop [3,8] (fun x i=>∃ k : Nat,k≤ls.length∧i = .int .i64 k∧x = .int .u32 ((C0 4294967295 (ls.take k).flatten : Nat) : Int)) (fun _ i=>ls.length - (intOf i).toNat)
 case atStart=>exact ⟨0,by omega,rfl,rfl⟩
 case round=>
  obtain ⟨k,hk,rfl,rfl⟩:=hrel
  by_cases hlt : k<ls.length
  ·obtain ⟨b,off,rfl,hb,hc⟩:=h4 (by rintro rfl; simp at hlt)
   obtain ⟨u,hcell,hsl⟩:=hc k hlt
   have hn : C0 4294967295 (ls.take (k+1)).flatten=C0 (C0 4294967295 (ls.take k).flatten) ls[k]:=by
    rw [List.take_succ_eq_append_getElem hlt,List.flatten_append,crcL_append]; simp
   have hA:=I0 (ls.take k).flatten 4294967295 (by omega)
   generalize C0 4294967295 (ls.take k).flatten=A at *
   have HN:=Ab hn
   have HA:=Ab hA
   clear hn hA hc h4
   have hu:=hsl
   obtain ⟨ao',cap',rfl,_,_,_,_⟩:=hu
   go_wp2_with fail
   refine (crcPart_any _ _ ls[k] A HA.out hsl HT.out).mono ?_
   rintro e w1 ⟨rfl,rfl⟩
   generalize C0 A ls[k]=z at *
   clear hsl
   go_wp2
   go_round
   case rel=>exact ⟨k+1,by omega,by go_num,by rw [HN.out]⟩
   case measure=>simp [intOf]; omega
  ·clear h4
   have hA:=I0 (ls.take k).flatten 4294967295 (by omega)
   have e : ls.take k=ls:=List.take_of_length_le (by omega)
   rw [e] at hA ⊢
   have hx : bits .xor .u32 IntKind.u32.max ((C0 4294967295 ls.flatten : Nat) : Int)=((crc ls.flatten : Nat) : Int):=by
    rw [show IntKind.u32.max=((4294967295 : Nat) : Int) from by decide,u32_xor_nat _ _ (by omega) hA]; rfl
   have HX:=Ab hx
   clear hx hA e
   go_wp2
   go_ret
   exact ⟨Fq HX.out,rfl⟩
end Go.Proofs.YtblniomnhpedjaaGreatDoor
namespace Go.Proofs.YtblniomnhpedjaaGreatDoor
def Bp (n : Nat) : List UInt8:=[UInt8.ofNat (n / 16777216),UInt8.ofNat (n / 65536),UInt8.ofNat (n / 256),UInt8.ofNat n]
def Dz (b : List UInt8) : Nat:=(b.getD 0 0).toNat * 16777216+(b.getD 1 0).toNat * 65536+(b.getD 2 0).toNat * 256+(b.getD 3 0).toNat
def mkW : List UInt8:=[245,119,97,108]
def Ah (b : List UInt8) : List UInt8:=Bp (crc b)
theorem Dj (b : List UInt8) : (Ah b).length=4:=rfl
section
variable (cs : List UInt8→List UInt8)
def hdW (size : Nat) : List UInt8:=(mkW++Bp size)++cs (mkW++Bp size)
def Am (rs : List (List UInt8)) : List UInt8:=(rs.map txt).flatten
def grp (rs : List (List UInt8)) : List UInt8:=hdW cs (Am rs).length++(Am rs++cs (Am rs))
end
def right (rs : List (List UInt8)) : Bool:=decide (rs.length≤8192) && decide ((rs.map List.length).sum≤2097152)
theorem Gt (n : Nat) : (Bp n).length=4:=rfl
theorem Ho (n : Nat) : (mkW++Bp n).length=8:=rfl
theorem Ez {cs : List UInt8→List UInt8} (hcs : ∀ b,(cs b).length=4) (n : Nat) : (hdW cs n).length=12:=by
 unfold hdW
 rw [List.length_append,Ho,hcs]
theorem Fc {cs : List UInt8→List UInt8} (hcs : ∀ b,(cs b).length=4) (rs : List (List UInt8)) : (grp cs rs).length=16+(Am rs).length:=by
 unfold grp
 rw [List.length_append,List.length_append,Ez hcs,hcs]
 omega
theorem G1 (n : Nat) : (UInt8.ofNat n).toNat=n % 256:=by simp
theorem O6 (n : Nat) (h : n<4294967296) : Dz (Bp n)=n:=by
 simp only [Dz,Bp,List.getD_cons_zero,List.getD_cons_succ,G1]
 omega
theorem Jl {rs : List (List UInt8)} (h : right rs=true) : rs.length≤8192∧(rs.map List.length).sum≤2097152:=by
 simpa [right] using h
theorem Iv {r : List UInt8} (h : r.length≤2097152) : (txt r).length≤r.length+4:=by
 unfold txt num
 have : Pl.zz (r.length : Int)=2 * r.length:=by unfold Pl.zz; rw [if_pos (by omega)]; omega
 have:=Pl.enc_fits (Pl.zz (r.length : Int)) 4 (by omega) (by rw [this]; omega)
 simp
 omega
theorem Gw (r : List UInt8) (rs : List (List UInt8)) : Am (r :: rs)=txt r++Am rs:=rfl
theorem Nz (a b : List (List UInt8)) : Am (a++b)=Am a++Am b:=by simp [Am]
theorem body_len : ∀ (rs : List (List UInt8)),(∀ r∈rs,r.length≤2097152)→(Am rs).length≤(rs.map List.length).sum+4 * rs.length
 | [],_=>by simp [Am]
 | r :: rs,h=>by
  have h1:=body_len rs (fun x hx=>h x (by simp [hx]))
  have h2:=Iv (h r (by simp))
  rw [Gw,List.length_append]
  simp
  omega
theorem mem_sum {rs : List (List UInt8)} {r : List UInt8} (h : r∈rs) : r.length≤(rs.map List.length).sum:=by
 induction rs with
 | nil=>cases h
 | cons x rs ih=>
  simp only [List.map_cons,List.sum_cons]
  rcases List.mem_cons.1 h with e | e
  ·subst e; omega
  ·have:=ih e; omega
theorem Ga {rs : List (List UInt8)} (h : right rs=true) : ∀ r∈rs,r.length≤2097152:=fun r hr=>by
 have:=(Jl h).2
 have:=mem_sum hr
 omega
theorem J1 {rs : List (List UInt8)} (h : right rs=true) : (Am rs).length≤2129920:=by
 have h1:=body_len rs (Ga h)
 have:=Jl h
 omega
theorem right_pre {a b : List (List UInt8)} (h : right (a++b)=true) : right a=true:=by
 have:=Jl h
 simp only [right,Bool.and_eq_true,decide_eq_true_eq]
 simp at this
 omega
def tornW (b : List UInt8) (size : Int) : Bool:=
 match Ci b 0 with
 | some (n,q)=>decide (0≤n∧n≤min (size - q) 2097152)
 | none=>match Ci (b ++ [1]) 0 with
  | some (n,q)=>decide (0≤n∧n≤min (size - q) 2097152)
  | none=>false
def Cd : Nat→List UInt8→Nat→Int→List (List UInt8) × Bool
 | 0,_,_,_=>([],true)
 | f+1,b,a,size=>if a<b.length then
   match Ch b a 2097152 with
   | none=>([],tornW (b.drop a) (size - a))
   | some (r,q)=>(r :: (Cd f b q size).1,(Cd f b q size).2)
  else ([],true)
def Di (cs : List UInt8→List UInt8) (b : List UInt8) : Nat × Bool:=
 let h:=b.take 12
 let size:=Dz (((h++List.replicate (12 - h.length) 0).drop 4).take 4)
 if 2129920<size then (0,false) else (size,h.isPrefixOf (hdW cs size))
def sumB (cs : List UInt8→List UInt8) (size : Nat) (body s : List UInt8) (rs : List (List UInt8)) : List (List UInt8) × Nat × Bool:=
 if s.isPrefixOf (cs body)=false∨s.length<4 then ([],0,s.isPrefixOf (cs body)) else (rs,16+size,true)
def recB (cs : List UInt8→List UInt8) (size : Nat) (body rest : List UInt8) (r : List (List UInt8) × Bool) : List (List UInt8) × Nat × Bool:=
 if r.2=false∨right r.1=false then ([],0,false) else if body.length<size then ([],0,true) else sumB cs size body (rest.take 4) r.1
def En (cs : List UInt8→List UInt8) (b : List UInt8) (h : Nat × Bool) : List (List UInt8) × Nat × Bool:=
 if h.2=false∨b.length<12 then ([],0,h.2) else recB cs h.1 ((b.drop 12).take h.1) ((b.drop 12).drop h.1) (Cd (((b.drop 12).take h.1).length+1) ((b.drop 12).take h.1) 0 h.1)
def Du (cs : List UInt8→List UInt8) (b : List UInt8) : List (List UInt8) × Nat × Bool:=En cs b (Di cs b)
theorem K2 (size : Int) : ∀ (rs : List (List UInt8)) (p : List UInt8) (f : Nat),(∀ r∈rs,r.length≤2097152)→rs.length<f→Cd f (p++Am rs) p.length size=(rs,true)
 | [],p,f+1,_,_=>by simp [Cd,Am]
 | r :: rs,p,f+1,h,hf=>by
  have hr:=h r (by simp)
  have ht:=Hp p (Am rs) r 2097152 (by omega) (by omega)
  have hl : 0<(txt r).length:=by have:=He r.length; unfold txt; simp; omega
  have ih:=K2 size rs (p++txt r) f (fun x hx=>h x (by simp [hx])) (by simp at hf; omega)
  rw [List.append_assoc,List.length_append] at ih
  unfold Cd
  rw [Gw,if_pos (by simp; omega),ht]
  simp only
  rw [ih]
theorem dec_torn (j : Nat) : ∀ (f u k acc : Nat),f+k=9→j<(Pl.encF f u).length→Pl.dec ((Pl.encF f u).take j ++ [1]) k acc=some (acc+(u % 2 ^ (7 * j)+2 ^ (7 * j)) * 2 ^ (7 * k),k+(j+1)):=by
 induction j with
 | zero=>
  intro f u k acc hk _
  have h1 : (1 : UInt8).toNat=1:=rfl
  simp only [List.take_zero,List.nil_append,Pl.dec,h1]
  rw [if_neg (by omega),if_neg (by omega),if_pos (by omega)]
  simp [Nat.mod_one]
 | succ j ih=>
  intro f u k acc hk hj
  cases f with
  | zero=>simp [Pl.encF] at hj
  | succ f=>
   unfold Pl.encF at hj ⊢
   by_cases h : u<128
   ·rw [if_pos h] at hj
    simp at hj
   ·rw [if_neg h] at hj
    simp only [List.length_cons] at hj
    have hb : (UInt8.ofNat (u % 128+128)).toNat=u % 128+128:=Pl.byte_small (by omega)
    rw [if_neg h]
    simp only [List.take_succ_cons,List.cons_append,Pl.dec,hb]
    rw [if_neg (by omega),if_neg (by omega),if_neg (by omega),ih f (u / 128) (k+1) _ (by omega) (by omega)]
    simp only [Option.some.injEq,Prod.mk.injEq]
    refine ⟨?_,by omega⟩
    have e1 : u % 2 ^ (7 * (j+1))=u % 128+128 * (u / 128 % 2 ^ (7 * j)):=by rw [Pl.p7,Nat.mod_mul]
    rw [e1,Pl.p7 k,Pl.p7 j,Nat.add_sub_cancel,Nat.add_assoc]
    congr 1
    generalize 2 ^ (7 * k)=K
    generalize 2 ^ (7 * j)=J
    generalize u / 128 % J=m
    generalize u % 128=l
    rw [← Nat.mul_assoc,← Nat.add_mul]
    congr 1
    omega
theorem zz_len (n : Nat) : Pl.zz (n : Int)=2 * n:=by unfold Pl.zz; rw [if_pos (by omega)]; omega
theorem takeI_torn (n j : Nat) (_hn : n≤2097152) (h0 : 0<j) (hj : j<(num n).length) : ∃ m : Nat,Ci ((num n).take j ++ [1]) 0=some ((m : Int),j+1)∧m≤n:=by
 have hu : Pl.zz (n : Int)=2 * n:=zz_len n
 have hd:=dec_torn j 9 (Pl.zz (n : Int)) 0 0 rfl hj
 simp only [Nat.mul_zero,Nat.pow_zero,Nat.mul_one,Nat.zero_add] at hd
 have hbig : 2 ^ (7 * j)≤Pl.zz (n : Int):=by
  rcases Nat.lt_or_ge (Pl.zz (n : Int)) (2 ^ (7 * j)) with h | h
  ·have:=Pl.enc_fits _ j h0 h
   unfold num at hj
   omega
  ·exact h
 have hdv : 2 ∣ 2 ^ (7 * j):=⟨2 ^ (7 * j - 1),by rw [← Nat.pow_succ',Nat.succ_eq_add_one,show 7 * j - 1+1=7 * j by omega]⟩
 have hpar : Pl.zz (n : Int) % 2 ^ (7 * j) % 2=0:=by rw [Nat.mod_mod_of_dvd _ hdv,hu]; omega
 have hle : Pl.zz (n : Int) % 2 ^ (7 * j)+2 ^ (7 * j)≤Pl.zz (n : Int):=by
  have h1:=Nat.div_add_mod (Pl.zz (n : Int)) (2 ^ (7 * j))
  have h2 : 1≤Pl.zz (n : Int) / 2 ^ (7 * j):=(Nat.le_div_iff_mul_le (Nat.two_pow_pos _)).2 (by omega)
  have h3:=Nat.mul_le_mul_left (2 ^ (7 * j)) h2
  omega
 obtain ⟨e,he⟩:=hdv
 rw [he] at hpar hle hd
 refine ⟨(Pl.zz (n : Int) % (2 * e)+2 * e) / 2,?_,by rw [hu] at *; omega⟩
 unfold Ci
 rw [if_neg (by omega)]
 have e0 : ((num n).take j ++ [1]).drop (0 : Int).toNat=(Pl.encF 9 (Pl.zz (n : Int))).take j ++ [1]:=rfl
 rw [e0,hd]
 simp only [Option.map_some,Option.some.injEq,Prod.mk.injEq]
 refine ⟨?_,by simp⟩
 unfold Pl.unzz
 rw [if_pos (by omega)]
theorem takeI_pre (q r : List UInt8) (n : Nat) (hn : n≤2097152) (hq : q=num n++r) : Ci q 0=some ((n : Int),(num n).length):=by
 have:=Me [] r n (by omega) (by omega)
 simpa [hq] using this
theorem torn_txt (r : List UInt8) (j : Nat) (size : Int) (hr : r.length≤2097152) (h0 : 0<j) (hj : j<(txt r).length) (hs : ((txt r).length : Int)≤size) : tornW ((txt r).take j) size=true:=by
 have hl : (txt r).length=(num r.length).length+r.length:=by simp [txt]
 unfold tornW
 by_cases hlt : j<(num r.length).length
 ·have e : (txt r).take j=(num r.length).take j:=by unfold txt; rw [List.take_append_of_le_length (by omega)]
  rw [e,Oe _ j hlt (by omega) (by omega)]
  obtain ⟨m,hm,hmn⟩:=takeI_torn r.length j hr h0 hlt
  rw [hm]
  simp only [decide_eq_true_eq]
  omega
 ·have e : (txt r).take j=num r.length++r.take (j - (num r.length).length):=by
   unfold txt; rw [List.take_append,List.take_of_length_le (by omega)]
  rw [takeI_pre _ _ _ hr e]
  simp only [decide_eq_true_eq]
  omega
theorem takeI_shift (p q : List UInt8) : Ci (p++q) (p.length : Int)=(Ci q 0).map fun x=>(x.1,p.length+x.2):=by
 unfold Ci
 rw [if_neg (by omega),if_neg (by omega),Int.toNat_natCast,List.drop_left]
 simp [Function.comp_def]
theorem Qv (p q : List UInt8) (m : Int) (h : Ch q 0 m=none) : Ch (p++q) (p.length : Int) m=none:=by
 unfold Ch at *
 rw [takeI_shift]
 cases ht : Ci q 0 with
 | none=>rfl
 | some x=>
  rw [ht] at h
  simp only [Option.map_some] at *
  split at h
  ·rw [if_pos]
   rename_i hc
   rcases hc with hc | hc | hc
   ·exact .inl hc
   ·exact .inr (.inl hc)
   ·refine .inr (.inr ?_)
    simp
    omega
  ·cases h
theorem P4 (size : Int) : ∀ (rs : List (List UInt8)) (p : List UInt8) (f i : Nat),(∀ r∈rs,r.length≤2097152)→i<f→i≤(Am rs).length→((p++Am rs).length : Int)≤size →
  ∃ a b,rs=a++b∧Cd f (p++(Am rs).take i) p.length size=(a,true)
 | [],p,f+1,i,_,_,_,_=>⟨[],[],rfl,by simp [Cd,Am]⟩
 | r :: rs,p,f+1,i,h,hf,hi,hs=>by
  have hr:=h r (by simp)
  have hl : 0<(txt r).length:=by have:=He r.length; unfold txt; simp; omega
  rw [Gw] at hi hs ⊢
  simp only [List.length_append] at hi hs
  by_cases hc : (txt r).length≤i
  ·have e : (txt r++Am rs).take i=txt r++(Am rs).take (i - (txt r).length):=by rw [List.take_append,List.take_of_length_le hc]
   have ht:=Hp p ((Am rs).take (i - (txt r).length)) r 2097152 (by omega) (by omega)
   obtain ⟨a,b,e1,e2⟩:=P4 size rs (p++txt r) f (i - (txt r).length) (fun x hx=>h x (by simp [hx])) (by omega) (by omega) (by simp only [List.length_append]; omega)
   rw [List.append_assoc,List.length_append] at e2
   refine ⟨r :: a,b,by rw [e1]; rfl,?_⟩
   unfold Cd
   rw [e,if_pos (by simp; omega),ht]
   simp only
   rw [e2]
  ·have e : (txt r++Am rs).take i=(txt r).take i:=by rw [List.take_append_of_le_length (by omega)]
   refine ⟨[],r :: rs,rfl,?_⟩
   unfold Cd
   rw [e]
   by_cases h0 : i=0
   ·subst h0
    rw [if_neg (by simp)]
   ·rw [if_pos (by simp; omega),Qv _ _ _ (takeT_short r i 2097152 (by omega) (by omega))]
    simp only [List.drop_left]
    rw [torn_txt r i _ hr (by omega) (by omega) (by omega)]
end Go.Proofs.YtblniomnhpedjaaGreatDoor
namespace Go.Proofs.YtblniomnhpedjaaGreatDoor
theorem Dy {a b : List UInt8} : a.isPrefixOf b=true ↔ ∃ c,b=a++c:=by
 rw [List.isPrefixOf_iff_prefix]
 exact ⟨fun ⟨c,h⟩=>⟨c,h.symm⟩,fun ⟨c,h⟩=>⟨c,h.symm⟩⟩
theorem Pf (b : List UInt8) (n : Nat) : (b.take n).isPrefixOf b=true:=Dy.2 ⟨b.drop n,(List.take_append_drop n b).symm⟩
theorem un4 {l : List UInt8} {a b c d : UInt8} {s : Nat} (h : l = [a,b,c,d]) (hs : a.toNat * 16777216+b.toNat * 65536+c.toNat * 256+d.toNat=s) : Dz l=s:=by
 subst h
 simp only [Dz,List.getD_cons_zero,List.getD_cons_succ]
 exact hs
theorem z4 : (0 : UInt8).toNat * 16777216+(0 : UInt8).toNat * 65536+(0 : UInt8).toNat * 256+(0 : UInt8).toNat=0:=by decide
theorem Lb {cs : List UInt8→List UInt8} (l : List UInt8) (s : Nat) (h0 : l.length≤12) (h1 : Dz (((l++List.replicate (12 - l.length) 0).drop 4).take 4)=s) (h2 : ¬ 2129920<s) (h3 : l.isPrefixOf (hdW cs s)=true) (x : List UInt8) (hx : l.length=12∨x = []) : Di cs (l++x)=(s,true):=by
 have e : (l++x).take 12=l:=by
  rcases hx with hx | hx
  ·exact List.take_left' hx
  ·subst hx
   rw [List.append_nil,List.take_of_length_le h0]
 unfold Di
 simp only [e,h1]
 rw [if_neg h2,h3]
section
variable {cs : List UInt8→List UInt8} (hcs : ∀ b,(cs b).length=4)
include hcs
theorem headW_put (n : Nat) (x : List UInt8) (h : ¬ 2129920<n) : Di cs (hdW cs n++x)=(n,true):=by
 have hl:=Ez hcs n
 refine Lb _ n (by omega) ?_ h (Dy.2 ⟨[],by simp⟩) x (.inl hl)
 rw [hl]
 unfold hdW
 rw [List.append_assoc,List.append_assoc,List.drop_left' (show mkW.length=4 from rfl),List.take_left' (Gt n)]
 exact O6 n (by omega)
theorem pre8 {n s j : Nat} (h : (mkW++Bp n).take j=(mkW++Bp s).take j) : ((mkW++Bp n).take j).isPrefixOf (hdW cs s)=true:=by
 have:=hcs []
 rw [h]
 refine Dy.2 ⟨(mkW++Bp s).drop j++cs (mkW++Bp s),?_⟩
 unfold hdW
 rw [← List.append_assoc,List.take_append_drop]
theorem headW_cut8 (n j : Nat) (h : ¬ 2129920<n) (h8 : j<8) : ∃ s,Di cs ((mkW++Bp n).take j)=(s,true):=by
 have key : ∀ s,Dz (((((mkW++Bp n).take j)++List.replicate (12 - ((mkW++Bp n).take j).length) 0).drop 4).take 4)=s→¬ 2129920<s→(mkW++Bp n).take j=(mkW++Bp s).take j→∃ s,Di cs ((mkW++Bp n).take j)=(s,true):=by
  intro s h1 h2 h3
  refine ⟨s,?_⟩
  have:=Lb _ s (by rw [List.length_take]; omega) h1 h2 (pre8 hcs h3) [] (.inr rfl)
  rw [List.append_nil] at this
  exact this
 have b0 : n / 16777216=0:=by omega
 rcases (by omega : j=0∨j=1∨j=2∨j=3∨j=4∨j=5∨j=6∨j=7) with rfl | rfl | rfl | rfl | rfl | rfl | rfl | rfl
 ·exact key 0 (un4 rfl z4) (by omega) rfl
 ·exact key 0 (un4 rfl z4) (by omega) rfl
 ·exact key 0 (un4 rfl z4) (by omega) rfl
 ·exact key 0 (un4 rfl z4) (by omega) rfl
 ·exact key 0 (un4 rfl z4) (by omega) rfl
 ·have e5 : ∀ m,(mkW++Bp m).take 5=mkW ++ [UInt8.ofNat (m / 16777216)]:=fun _=>rfl
  refine key 0 ?_ (by omega) ?_
  ·rw [e5,b0]; exact un4 rfl z4
  ·rw [e5,e5,b0]
 ·have e6 : ∀ m,(mkW++Bp m).take 6=mkW ++ [UInt8.ofNat (m / 16777216),UInt8.ofNat (m / 65536)]:=fun _=>rfl
  refine key (n / 65536 * 65536) ?_ (by omega) ?_
  ·rw [e6,b0]
   refine un4 (a:=0) (b:=UInt8.ofNat (n / 65536)) (c:=0) (d:=0) rfl ?_
   rw [G1,show (0 : UInt8).toNat=0 from rfl]
   omega
  ·rw [e6,e6,show n / 65536 * 65536 / 16777216=n / 16777216 by omega,show n / 65536 * 65536 / 65536=n / 65536 by omega]
 ·have e7 : ∀ m,(mkW++Bp m).take 7=mkW ++ [UInt8.ofNat (m / 16777216),UInt8.ofNat (m / 65536),UInt8.ofNat (m / 256)]:=fun _=>rfl
  refine key (n / 256 * 256) ?_ (by omega) ?_
  ·rw [e7,b0]
   refine un4 (a:=0) (b:=UInt8.ofNat (n / 65536)) (c:=UInt8.ofNat (n / 256)) (d:=0) rfl ?_
   rw [G1,G1,show (0 : UInt8).toNat=0 from rfl]
   omega
  ·rw [e7,e7,show n / 256 * 256 / 16777216=n / 16777216 by omega,show n / 256 * 256 / 65536=n / 65536 by omega,show n / 256 * 256 / 256=n / 256 by omega]
theorem headW_cut (n j : Nat) (h : ¬ 2129920<n) (hj : j<12) : ∃ s,Di cs ((hdW cs n).take j)=(s,true):=by
 by_cases h8 : j<8
 ·have e8 : (hdW cs n).take j=(mkW++Bp n).take j:=by unfold hdW; exact List.take_append_of_le_length (by rw [Ho]; omega)
  rw [e8]
  exact headW_cut8 hcs n j h h8
 ·have hs:=hcs (mkW++Bp n)
  have e8 : (hdW cs n).take j=(mkW++Bp n)++(cs (mkW++Bp n)).take (j - 8):=by
   unfold hdW; rw [List.take_append,List.take_of_length_le (by rw [Ho]; omega),Ho]
  have hl:=Ez hcs n
  have:=Lb ((hdW cs n).take j) n (by rw [List.length_take]; omega) ?_ h (Pf _ _) [] (.inr rfl)
  ·rw [List.append_nil] at this
   exact ⟨n,this⟩
  ·rw [e8,List.append_assoc,List.append_assoc,List.drop_left' (show mkW.length=4 from rfl),List.take_left' (Gt n)]
   exact O6 n (by omega)
end
theorem body_many (rs : List (List UInt8)) : rs.length≤(Am rs).length:=by
 induction rs with
 | nil=>simp [Am]
 | cons r rs ih=>
  have hl : 0<(txt r).length:=by have:=He r.length; unfold txt; simp; omega
  rw [Gw,List.length_append]
  simp
  omega
section
variable {cs : List UInt8→List UInt8} (hcs : ∀ b,(cs b).length=4)
include hcs
theorem Ng (rs : List (List UInt8)) (x : List UInt8) (h : right rs=true) : Du cs (grp cs rs++x)=(rs,(grp cs rs).length,true):=by
 have hb : ¬ 2129920<(Am rs).length:=by have:=J1 h; omega
 have e0 : grp cs rs++x=hdW cs (Am rs).length++(Am rs++(cs (Am rs)++x)):=by unfold grp; simp only [List.append_assoc]
 have hr:=K2 (Am rs).length rs [] ((Am rs).length+1) (Ga h) (by have:=body_many rs; omega)
 rw [List.nil_append,List.length_nil] at hr
 have hl:=Ez hcs (Am rs).length
 have e1 : (hdW cs (Am rs).length++(Am rs++(cs (Am rs)++x))).drop 12=Am rs++(cs (Am rs)++x):=List.drop_left' hl
 have e2 : (cs (Am rs)++x).take 4=cs (Am rs):=List.take_left' (hcs _)
 have e3 : (cs (Am rs)).isPrefixOf (cs (Am rs))=true:=Dy.2 ⟨[],by simp⟩
 have hlen : ¬ (hdW cs (Am rs).length++(Am rs++(cs (Am rs)++x))).length<12:=by rw [List.length_append,hl]; omega
 have h4:=hcs (Am rs)
 have hgl:=Fc hcs rs
 show En cs _ _=_
 rw [e0,headW_put hcs _ _ hb]
 unfold En
 rw [if_neg (fun e=>e.elim (fun e=>by cases e) hlen),e1]
 show recB cs _ ((Am rs++(cs (Am rs)++x)).take (Am rs).length) ((Am rs++(cs (Am rs)++x)).drop (Am rs).length) (Cd (((Am rs++(cs (Am rs)++x)).take (Am rs).length).length+1) ((Am rs++(cs (Am rs)++x)).take (Am rs).length) 0 _)=_
 rw [List.take_left,List.drop_left,hr]
 unfold recB
 rw [if_neg (fun e=>e.elim (fun e=>by cases e) (fun e=>by rw [h] at e; cases e)),if_neg (by omega),e2]
 unfold sumB
 rw [e3,if_neg (fun e=>e.elim (fun e=>by cases e) (fun e=>by omega)),hgl]
theorem groupW_cut (rs : List (List UInt8)) (j : Nat) (h : right rs=true) (hj : j<(grp cs rs).length) : Du cs ((grp cs rs).take j)=([],0,true):=by
 have hb : ¬ 2129920<(Am rs).length:=by have:=J1 h; omega
 have hgl:=Fc hcs rs
 have hl:=Ez hcs (Am rs).length
 have e0 : grp cs rs=hdW cs (Am rs).length++(Am rs++cs (Am rs)):=rfl
 show En cs _ _=_
 by_cases h12 : j<12
 ·have e : (grp cs rs).take j=(hdW cs (Am rs).length).take j:=by rw [e0]; exact List.take_append_of_le_length (by omega)
  obtain ⟨s,hs⟩:=headW_cut hcs (Am rs).length j hb h12
  rw [e,hs]
  unfold En
  rw [if_pos (Or.inr (by rw [List.length_take]; omega))]
 ·have e : (grp cs rs).take j=hdW cs (Am rs).length++(Am rs++cs (Am rs)).take (j - 12):=by
   rw [e0,List.take_append,List.take_of_length_le (by omega),hl]
  have e1 : (hdW cs (Am rs).length++(Am rs++cs (Am rs)).take (j - 12)).drop 12=(Am rs++cs (Am rs)).take (j - 12):=List.drop_left' hl
  have hlen : ¬ (hdW cs (Am rs).length++(Am rs++cs (Am rs)).take (j - 12)).length<12:=by rw [List.length_append,hl]; omega
  rw [e,headW_put hcs _ _ hb]
  unfold En
  rw [if_neg (fun e=>e.elim (fun e=>by cases e) hlen),e1]
  generalize hq : (Am rs++cs (Am rs)).take (j - 12)=q
  show recB cs _ (q.take (Am rs).length) (q.drop (Am rs).length) (Cd ((q.take (Am rs).length).length+1) (q.take (Am rs).length) 0 _)=_
  by_cases hi : j - 12<(Am rs).length
  ·have e2 : q.take (Am rs).length=(Am rs).take (j - 12):=by
    rw [← hq,List.take_take,Nat.min_eq_right (by omega)]
    exact List.take_append_of_le_length (by omega)
   have hl2 : ((Am rs).take (j - 12)).length=j - 12:=by rw [List.length_take]; omega
   obtain ⟨a,b,ea,er⟩:=P4 (Am rs).length rs [] (((Am rs).take (j - 12)).length+1) (j - 12) (Ga h) (by omega) (by omega) (by simp)
   rw [List.nil_append,List.length_nil] at er
   have hra : right a=true:=right_pre (ea ▸ h)
   rw [e2,er]
   unfold recB
   rw [if_neg (fun e=>e.elim (fun e=>by cases e) (fun e=>by rw [hra] at e; cases e)),if_pos (by rw [hl2]; exact hi)]
  ·have e2 : q.take (Am rs).length=Am rs:=by
    rw [← hq,List.take_take,Nat.min_eq_left (by omega),List.take_left]
   have e3 : q.drop (Am rs).length=(cs (Am rs)).take (j - 12 - (Am rs).length):=by
    rw [← hq,List.take_append,List.take_of_length_le (by omega),List.drop_left]
   have hr:=K2 (Am rs).length rs [] ((Am rs).length+1) (Ga h) (by have:=body_many rs; omega)
   rw [List.nil_append,List.length_nil] at hr
   have hs4:=hcs (Am rs)
   have e4 : ((cs (Am rs)).take (j - 12 - (Am rs).length)).take 4=(cs (Am rs)).take (j - 12 - (Am rs).length):=List.take_of_length_le (by rw [List.length_take]; omega)
   have e5:=Pf (cs (Am rs)) (j - 12 - (Am rs).length)
   rw [e2,hr,e3]
   unfold recB
   rw [if_neg (fun e=>e.elim (fun e=>by cases e) (fun e=>by rw [h] at e; cases e)),if_neg (by omega),e4]
   unfold sumB
   rw [e5,if_pos (Or.inr (by rw [List.length_take]; omega))]
end
def laid (cs : List UInt8→List UInt8) (gs : List (List (List UInt8))) : List UInt8:=(gs.map (grp cs)).flatten
theorem Ly (cs : List UInt8→List UInt8) (g : List (List UInt8)) (gs : List (List (List UInt8))) : laid cs (g :: gs)=grp cs g++laid cs gs:=rfl
theorem O0 (cs : List UInt8→List UInt8) (a b : List (List (List UInt8))) : laid cs (a++b)=laid cs a++laid cs b:=by simp [laid]
theorem Fu (cs : List UInt8→List UInt8) (g : List (List UInt8)) : laid cs [g]=grp cs g:=by simp [laid]
def Ed (a : Nat) (r : List (List UInt8) × Nat × Bool) (k : Option (List (List (List UInt8)) × Nat)) : Option (List (List (List UInt8)) × Nat):=
 if r.2.2=false∨r.2.1=0∧a=0 then none else if r.2.1=0 then some ([],a) else k.map fun x=>(r.1 :: x.1,x.2)
theorem stepG_put {a n : Nat} {rs : List (List UInt8)} {gs : List (List (List UInt8))} {e : Nat} (hn : 0<n) : Ed a (rs,n,true) (some (gs,e))=some (rs :: gs,e):=by
 unfold Ed
 rw [if_neg (fun h=>h.elim (fun h=>by cases h) (fun h=>by have:=h.1; simp only at this; omega)),if_neg (by simp only; omega)]
 rfl
theorem stepG_cut {a : Nat} {k : Option (List (List (List UInt8)) × Nat)} (ha : 0<a) : Ed a ([],0,true) k=some ([],a):=by
 unfold Ed
 rw [if_neg (fun h=>h.elim (fun h=>by cases h) (fun h=>by have:=h.2; omega)),if_pos rfl]
def Cz (cs : List UInt8→List UInt8) : Nat→List UInt8→Nat→Option (List (List (List UInt8)) × Nat)
 | 0,_,a=>some ([],a)
 | f+1,b,a=>if a<b.length then Ed a (Du cs (b.drop a)) (Cz cs f b (a+(Du cs (b.drop a)).2.1)) else some ([],a)
theorem H8 (cs : List UInt8→List UInt8) (f : Nat) (b : List UInt8) (a : Nat) (h : a<b.length) : Cz cs (f+1) b a=Ed a (Du cs (b.drop a)) (Cz cs f b (a+(Du cs (b.drop a)).2.1)):=if_pos h
theorem J8 (cs : List UInt8→List UInt8) (f : Nat) (b : List UInt8) (a : Nat) (h : ¬ a<b.length) : Cz cs (f+1) b a=some ([],a):=if_neg h
section
variable {cs : List UInt8→List UInt8} (hcs : ∀ b,(cs b).length=4)
include hcs
theorem Lp : ∀ (gs : List (List (List UInt8))) (p : List UInt8) (f : Nat),(∀ g∈gs,right g=true)→gs.length<f→Cz cs f (p++laid cs gs) p.length=some (gs,(p++laid cs gs).length)
 | [],p,f+1,_,_=>by
  have e0 : laid cs [] = []:=rfl
  rw [e0,List.append_nil,J8 _ _ _ _ (Nat.lt_irrefl _)]
 | g :: gs,p,f+1,h,hf=>by
  have hg:=h g (List.mem_cons_self ..)
  have hl:=Fc hcs g
  have ih:=Lp gs (p++grp cs g) f (fun x hx=>h x (List.mem_cons_of_mem _ hx)) (by rw [List.length_cons] at hf; omega)
  rw [List.append_assoc,List.length_append] at ih
  rw [Ly,H8 _ _ _ _ (by rw [List.length_append,List.length_append]; omega),List.drop_left,Ng hcs g _ hg]
  show Ed p.length (g,(grp cs g).length,true) (Cz cs f (p++(grp cs g++laid cs gs)) (p.length+(grp cs g).length))=_
  rw [ih,stepG_put (by omega)]
theorem Nd (g : List (List UInt8)) (j : Nat) (hg : right g=true) (hj : j<(grp cs g).length) : ∀ (gs : List (List (List UInt8))) (p : List UInt8) (f : Nat),(∀ g∈gs,right g=true)→gs.length+1<f→p++laid cs gs ≠ [] →
  Cz cs f (p++laid cs gs++(grp cs g).take j) p.length=some (gs,(p++laid cs gs).length)
 | [],p,f+1,_,_,hne=>by
  have e0 : laid cs [] = []:=rfl
  rw [e0,List.append_nil] at hne ⊢
  have hp:=List.length_pos_iff.2 hne
  by_cases h0 : j=0
  ·rw [h0,List.take_zero,List.append_nil,J8 _ _ _ _ (Nat.lt_irrefl _)]
  ·rw [H8 _ _ _ _ (by rw [List.length_append,List.length_take]; omega),List.drop_left,groupW_cut hcs g j hg hj,stepG_cut hp]
 | g' :: gs,p,f+1,h,hf,_=>by
  have hg':=h g' (List.mem_cons_self ..)
  have hl:=Fc hcs g'
  have hne : p++grp cs g'++laid cs gs ≠ []:=fun e=>by
   have:=congrArg List.length e
   rw [List.length_append,List.length_append,List.length_nil] at this
   omega
  have ih:=Nd g j hg hj gs (p++grp cs g') f (fun x hx=>h x (List.mem_cons_of_mem _ hx)) (by rw [List.length_cons] at hf; omega) hne
  have e : p++(grp cs g'++laid cs gs)++(grp cs g).take j=p++(grp cs g'++(laid cs gs++(grp cs g).take j)):=by rw [List.append_assoc,List.append_assoc]
  have e2 : p++grp cs g'++laid cs gs++(grp cs g).take j=p++(grp cs g'++(laid cs gs++(grp cs g).take j)):=by rw [List.append_assoc,List.append_assoc]
  rw [e2,List.length_append] at ih
  rw [Ly,e,H8 _ _ _ _ (by rw [List.length_append,List.length_append]; omega),List.drop_left,Ng hcs g' _ hg']
  show Ed p.length (g',(grp cs g').length,true) (Cz cs f (p++(grp cs g'++(laid cs gs++(grp cs g).take j))) (p.length+(grp cs g').length))=_
  rw [ih,stepG_put (by omega),List.append_assoc]
end
end Go.Proofs.YtblniomnhpedjaaGreatDoor
namespace Go.Proofs.YtblniomnhpedjaaGreatDoor
open Go.RowKit
theorem freeze_new (w : World) (C : Array Value) (n : Nat) : (w.alloc (.cells C 5)).freeze ⟨w.heap.size,n,none⟩ 1=w.alloc (.cells C 5 (n,n+1)):=by
 have hm : ∀ (a : Array Obj) (x : Obj) (f : Obj→Obj),(a.push x).modify a.size f=a.push (f x):=by
  intro a x f
  apply Array.ext
  ·simp
  ·intro i h1 h2
   simp only [Array.getElem_modify,Array.getElem_push]
   by_cases h : a.size=i
   ·subst h
    simp
   ·have hi : i<a.size:=by simp at h1; omega
    simp [h,hi]
 unfold World.freeze
 rw [if_neg (by decide)]
 show ({ w.alloc (.cells C 5) with heap:=(w.heap.push (.cells C 5)).modify w.heap.size _ } : World)=_
 rw [hm]
 rfl
theorem conv33 (w : World) (C : Array Value) (l c n : Nat) (hn : w.heap.size=n) : (convert 68 68 (.slice (some ⟨n,0,none⟩) l c)).run Tryz.prog (w.alloc (.cells C 5)) =
  .ok (.slice (some ⟨n,0,none⟩) l c) (w.alloc (.cells C 5 (C.size,C.size+1))):=by
 subst hn
 have hsh : (w.alloc (.cells C 5)).shape? w.heap.size=some (5,C.size):=by
  have : (w.alloc (.cells C 5)).heap[w.heap.size]? = some (.cells C 5):=by
   show (w.heap.push (.cells C 5))[w.heap.size]? = _
   simp
  unfold World.shape?
  rw [this]
 simp [convert,run_underlying Tryz.underlying68,run_underlying Tryz.underlying5,markStringish,hsh,freeze_new]
end Go.Proofs.YtblniomnhpedjaaGreatDoor
